/- Date: what is printed is read: in plain words. -/
import Derived.Test.YtkkmjadkagpihaaDoorJ24
namespace Go.Proofs.YtkkmjadkagpihaaDoor
open Go Go.RowKit

/-- What stands in a text from a place on. -/
def Tx (t : ByteArray) (p : Nat) (l : List UInt8) : Prop := p ≤ t.size ∧ t.data.toList.drop p = l
theorem Tx.go {t : ByteArray} {p : Nat} {a b : List UInt8} (h : Tx t p (a ++ b)) : Tx t (p + a.length) b := by
  obtain ⟨h1, h2⟩ := h
  have hl : t.size - p = a.length + b.length := by
    have := congrArg List.length h2
    rw [List.length_drop, List.length_append, ← Lib.size_eq] at this
    exact this
  refine ⟨by omega, ?_⟩
  rw [← List.drop_drop, h2, List.drop_left]
theorem Tx.one {t : ByteArray} {p : Nat} {c : UInt8} {b : List UInt8} (h : Tx t p (c :: b)) : Tx t (p + 1) b := h.go (a := [c])
theorem Tx.head {t : ByteArray} {p : Nat} {c : UInt8} {b : List UInt8} (h : Tx t p (c :: b)) : p < t.size ∧ t.get! p = c := by
  obtain ⟨h1, h2⟩ := h
  have hl : p < t.data.toList.length := by
    have := congrArg List.length h2
    rw [List.length_drop, List.length_cons] at this
    omega
  have hs : p < t.size := by rw [Lib.size_eq]; exact hl
  refine ⟨hs, ?_⟩
  rw [get_at t p hs]
  rw [List.drop_eq_getElem_cons hl] at h2
  exact (List.cons.inj h2).1
theorem Tx.nil {t : ByteArray} {p : Nat} (h : Tx t p []) : p = t.size := by
  obtain ⟨h1, h2⟩ := h
  have := congrArg List.length h2
  rw [List.length_drop, ← Lib.size_eq] at this
  simp at this; omega
theorem Tx.all (t : ByteArray) : Tx t 0 t.data.toList := ⟨Nat.zero_le _, rfl⟩

theorem oneR_hit {t : ByteArray} {p : Nat} {c : UInt8} {r g : List UInt8} (h : Tx t p (c :: r)) (i : Nat) (hi : Lib.indexByte (low g) (lowB c) = (i : Int)) : oneR t g p 0 = ((g.drop i).take 1, p + 1, 0) := by
  obtain ⟨h1, h2⟩ := h.head
  unfold oneR
  rw [if_pos h1, if_pos rfl, h2, hi, if_pos (by omega)]
  rfl
theorem isR_at {t : ByteArray} {p : Nat} {c : UInt8} {r : List UInt8} (h : Tx t p (c :: r)) (g : List UInt8) : isR t g p = decide (0 ≤ Lib.indexByte g c) := by
  obtain ⟨h1, h2⟩ := h.head
  unfold isR
  rw [if_pos h1, h2]

theorem dg_cases (v : Nat) : dgB v = 48 ∧ v % 10 = 0 ∨ dgB v = 49 ∧ v % 10 = 1 ∨ dgB v = 50 ∧ v % 10 = 2 ∨ dgB v = 51 ∧ v % 10 = 3 ∨ dgB v = 52 ∧ v % 10 = 4 ∨ dgB v = 53 ∧ v % 10 = 5 ∨ dgB v = 54 ∧ v % 10 = 6 ∨ dgB v = 55 ∧ v % 10 = 7 ∨ dgB v = 56 ∧ v % 10 = 8 ∨ dgB v = 57 ∧ v % 10 = 9 := by
  unfold dgB
  have h : v % 10 = 0 ∨ v % 10 = 1 ∨ v % 10 = 2 ∨ v % 10 = 3 ∨ v % 10 = 4 ∨ v % 10 = 5 ∨ v % 10 = 6 ∨ v % 10 = 7 ∨ v % 10 = 8 ∨ v % 10 = 9 := by omega
  rcases h with e | e | e | e | e | e | e | e | e | e <;> rw [e] <;> decide
theorem dg_at : ∀ k, k < 11 → ∀ v, v < 10 → v < k → Lib.indexByte (low (figL.take k)) (lowB (dgB v)) = (v : Int) ∧ Lib.index figL (((figL.take k).drop v).take 1) = (v : Int) := by decide +kernel
theorem dgB_mod (v : Nat) : dgB v = dgB (v % 10) := by unfold dgB; rw [Nat.mod_mod]
/-- A digit is taken. -/
theorem digR_hit {t : ByteArray} {p v : Nat} {r : List UInt8} (h : Tx t p (dgB v :: r)) (k : Nat) (hk : k ≤ 10) (hv : v % 10 < k) : digR t (figL.take k) p 0 = (((v % 10 : Nat) : Int), p + 1, 0) := by
  rw [dgB_mod] at h
  have ha := dg_at k (by omega) (v % 10) (by omega) hv
  unfold digR
  rw [oneR_hit h (v % 10) ha.1]
  simp only [ha.2]
theorem digR_all {t : ByteArray} {p v : Nat} {r : List UInt8} (h : Tx t p (dgB v :: r)) : digR t figL p 0 = (((v % 10 : Nat) : Int), p + 1, 0) := by
  have := digR_hit h 10 (by omega) (by omega)
  rwa [fig_take] at this
theorem b24_hit {t : ByteArray} {p v : Nat} {r : List UInt8} (h : Tx t p (dgs 2 v ++ r)) (hv : v < 24) : b24R t p 0 = ((v : Int), p + 2, 0) := by
  rw [dgs2] at h
  have h1 := digR_hit (v := v / 10) (r := dgB v :: r) h 3 (by omega) (by omega)
  have h2 : Tx t (p + 1) (dgB v :: r) := Tx.one (c := dgB (v / 10)) h
  unfold b24R
  rw [h1]
  simp only
  by_cases e : v / 10 % 10 = 2
  · rw [if_pos (by omega), digR_hit h2 4 (by omega) (by omega)]
    simp only [Prod.mk.injEq, and_true]
    omega
  · rw [if_neg (by omega), digR_all h2]
    simp only [Prod.mk.injEq, and_true]
    omega
theorem b60_hit {t : ByteArray} {p v : Nat} {r : List UInt8} (h : Tx t p (dgs 2 v ++ r)) (hv : v < 60) : b60R t p 0 = ((v : Int), p + 2, 0) := by
  rw [dgs2] at h
  have h1 := digR_hit (v := v / 10) (r := dgB v :: r) h 6 (by omega) (by omega)
  have h2 : Tx t (p + 1) (dgB v :: r) := Tx.one (c := dgB (v / 10)) h
  unfold b60R
  rw [h1]
  simp only
  rw [if_neg (by omega), digR_all h2]
  simp only [Prod.mk.injEq, and_true]
  omega
theorem num4_hit {t : ByteArray} {p v : Nat} {r : List UInt8} (h : Tx t p (dgs 4 v ++ r)) (hv : v < 10000) : numR t 4 0 p 0 = ((v : Int), p + 4, 0) := by
  rw [dgs4] at h
  have h1 : Tx t (p + 1) (dgB (v / 100) :: dgB (v / 10) :: dgB v :: r) := Tx.one (c := dgB (v / 1000)) h
  have h2 : Tx t (p + 1 + 1) (dgB (v / 10) :: dgB v :: r) := h1.one
  have h3 : Tx t (p + 1 + 1 + 1) (dgB v :: r) := h2.one
  simp only [numR, digR_all (v := v / 1000) h, digR_all h1, digR_all h2, digR_all h3]
  simp only [Prod.mk.injEq, and_true]
  omega
theorem num2_hit {t : ByteArray} {p v : Nat} {r : List UInt8} (h : Tx t p (dgs 2 v ++ r)) (hv : v < 100) : numR t 2 0 p 0 = ((v : Int), p + 2, 0) := by
  rw [dgs2] at h
  have h1 : Tx t (p + 1) (dgB v :: r) := Tx.one (c := dgB (v / 10)) h
  simp only [numR, digR_all (v := v / 10) h, digR_all h1]
  simp only [Prod.mk.injEq, and_true]
  omega
theorem num1_hit {t : ByteArray} {p v : Nat} {r : List UInt8} (h : Tx t p (dgB v :: r)) : numR t 1 0 p 0 = (((v % 10 : Nat) : Int), p + 1, 0) := by
  rw [num1, digR_all h]

/-- A word is taken: the letters that may stand, one behind the other. -/
theorem wordR_hit {t : ByteArray} {p : Nat} {a b c : UInt8} {r : List UInt8} (n : Nat) (l : List UInt8) (h : Tx t p (a :: b :: c :: r)) (i j k : Nat)
    (h1 : Lib.indexByte (low (behindL n l [])) (lowB a) = (i : Int)) (e1 : ((behindL n l []).drop i).take 1 = [a])
    (h2 : Lib.indexByte (low (behindL n l [a])) (lowB b) = (j : Int)) (e2 : ((behindL n l [a]).drop j).take 1 = [b])
    (h3 : Lib.indexByte (low (behindL n l [a, b])) (lowB c) = (k : Int)) (e3 : ((behindL n l [a, b]).drop k).take 1 = [c]) : wordR t n l 3 [] p 0 = ([a, b, c], p + 3, 0) := by
  have t2 := h.one
  have t3 := t2.one
  simp only [wordR, List.nil_append]
  rw [oneR_hit h i h1, e1]
  simp only [List.cons_append, List.nil_append]
  rw [oneR_hit t2 j h2, e2]
  simp only [List.cons_append, List.nil_append]
  rw [oneR_hit t3 k h3, e3]
/-- Where each letter of each word stands among those that may stand there. -/
def hitB (n : Nat) (l : List UInt8) (w : List UInt8) : Bool :=
  match w with
  | [a, b, c] =>
    let i := Lib.indexByte (low (behindL n l [])) (lowB a)
    let j := Lib.indexByte (low (behindL n l [a])) (lowB b)
    let k := Lib.indexByte (low (behindL n l [a, b])) (lowB c)
    decide (0 ≤ i) && decide (((behindL n l []).drop i.toNat).take 1 = [a]) && (decide (0 ≤ j) && decide (((behindL n l [a]).drop j.toNat).take 1 = [b])) && (decide (0 ≤ k) && decide (((behindL n l [a, b]).drop k.toNat).take 1 = [c]))
  | _ => false
theorem month_hits : ∀ k, k < 12 → hitB 12 monthsL (nthL monthsL k) = true ∧ (Lib.index monthsL (nthL monthsL k)).tdiv 3 = (k : Int) := by decide +kernel
theorem week_hits : ∀ k, k < 7 → hitB 7 weeksL (nthL weeksL k) = true ∧ (Lib.index weeksL (nthL weeksL k)).tdiv 3 = (k : Int) := by decide +kernel
theorem word_hit {t : ByteArray} {p n : Nat} {l w r : List UInt8} (h : Tx t p (w ++ r)) (hw : hitB n l w = true) : wordR t n l 3 [] p 0 = (w, p + 3, 0) := by
  match w, hw with
  | [a, b, c], hw =>
    simp only [hitB, Bool.and_eq_true, decide_eq_true_eq] at hw
    obtain ⟨⟨⟨a1, a2⟩, b1, b2⟩, c1, c2⟩ := hw
    exact wordR_hit n l h _ _ _ (Int.toNat_of_nonneg a1).symm a2 (Int.toNat_of_nonneg b1).symm b2 (Int.toNat_of_nonneg c1).symm c2
end Go.Proofs.YtkkmjadkagpihaaDoor
