/- Box: a set's reader reads numbers as the document does: plain facts (begun). -/
import Derived.Test.YtpmakbjchepkmaaDoorBG8
import Derived.Test.YtpmakbjchepkmaaDoorCS2
namespace Go.Proofs.YtpmakbjchepkmaaDoor
open Go Go.RowKit

def isDig (c : UInt8) : Prop := 48 ≤ c.toNat ∧ c.toNat ≤ 57
instance (c : UInt8) : Decidable (isDig c) := by unfold isDig; exact inferInstance
/-- A text as a number, byte by byte. -/
def numL (z : Bool) : List UInt8 → Nat → Nat → Nat × Nat × Nat
  | [], _, n => if 4294967295 < n then (0, 0, 6) else (n, 0, 0)
  | c :: t, p, n => if ¬ isDig c ∨ (0 < p ∧ z = true) then (0, p, 4) else numL z t (p + 1) (min (n * 10 + (c.toNat - 48)) 4294967296)
theorem numL_cons (z : Bool) (c : UInt8) (t : List UInt8) (p n : Nat) : numL z (c :: t) p n = if ¬ isDig c ∨ (0 < p ∧ z = true) then (0, p, 4) else numL z t (p + 1) (min (n * 10 + (c.toNat - 48)) 4294967296) := rfl
theorem numL_nil (z : Bool) (p n : Nat) : numL z [] p n = if 4294967295 < n then (0, 0, 6) else (n, 0, 0) := rfl
theorem numGo_list (z : Bool) (u : ByteArray) : ∀ k pos n, u.size - pos = k → pos ≤ u.size → numGo z (lets u pos) n = numL z (u.data.toList.drop pos) pos n
  | 0, pos, n, hk, hp => by
    rw [lets_nil u pos (by omega), drop_no u pos (by omega)]
    rfl
  | k + 1, pos, n, hk, hp => by
    have h1 : pos < u.size := by omega
    rw [drop_s u pos h1]
    by_cases hd : isDig (u[pos]'h1)
    · have hn := lets_cons u pos h1
      rw [dec_ascii u pos h1 (by have := hd.2; omega)] at hn
      simp only at hn
      rw [hn]
      unfold numGo numL
      have hd1 := hd.1
      have hd2 := hd.2
      by_cases hz : 0 < pos ∧ z = true
      · rw [if_pos (Or.inr (Or.inr hz)), if_pos (Or.inr hz)]
      · rw [if_neg (by rintro (h | h | h); omega; omega; exact hz h), if_neg (by rintro (h | h); exact h hd; exact hz h)]
        exact numGo_list z u k (pos + 1) _ (by omega) (by omega)
    · rw [lets_cons u pos h1]
      unfold numGo numL
      have hr : (Utf8.decode u pos).1 < 48 ∨ 57 < (Utf8.decode u pos).1 := by
        by_cases hlow : (Utf8.decode u pos).1 < 128
        · have := (dec_low u pos h1 hlow).1
          unfold isDig at hd
          omega
        · omega
      rw [if_pos (by omega), if_pos (Or.inl hd)]
def foldm : List UInt8 → Nat → Nat
  | [], n => n
  | c :: t, n => foldm t (min (n * 10 + (c.toNat - 48)) 4294967296)
theorem foldm_snoc : ∀ (A : List UInt8) (c : UInt8) (n : Nat), foldm (A ++ [c]) n = min (foldm A n * 10 + (c.toNat - 48)) 4294967296
  | [], _, _ => rfl
  | _ :: A, c, _ => foldm_snoc A c _
theorem numL_run (z : Bool) : ∀ (A t : List UInt8) (p n : Nat), (∀ c ∈ A, isDig c) → (z = true → p = 0 ∧ A.length ≤ 1) → numL z (A ++ t) p n = numL z t (p + A.length) (foldm A n)
  | [], _, _, _, _, _ => rfl
  | c :: A, t, p, n, hd, hz => by
    show numL z (c :: (A ++ t)) p n = _
    rw [numL_cons]
    rw [if_neg (by
      rintro (h | ⟨h1, h2⟩)
      · exact h (hd c List.mem_cons_self)
      · have := (hz h2).1; omega)]
    by_cases hzt : z = true
    · have : A = [] := by have := (hz hzt).2; simp at this; exact this
      subst this
      rfl
    · rw [numL_run z A t (p + 1) _ (fun x hx => hd x (List.mem_cons_of_mem _ hx)) (fun h => absurd h hzt)]
      rw [List.length_cons, show p + 1 + A.length = p + (A.length + 1) by omega]
      rfl
/-- The digits from a to i, and their value. -/
structure Run (s : ByteArray) (a i n : Nat) : Prop where
  le : a ≤ i
  hi : i ≤ s.size
  dig : ∀ c ∈ (s.data.toList.drop a).take (i - a), isDig c
  val : foldm ((s.data.toList.drop a).take (i - a)) 0 = n
  max : n ≤ 4294967295
  one : a < i → 1 ≤ n ∧ ∀ h : a < s.size, (s[a]'h).toNat ≠ 48
theorem run_nil (s : ByteArray) (a : Nat) (h : a ≤ s.size) : Run s a a 0 := ⟨Nat.le_refl _, h, by simp, by simp [foldm], by omega, fun h => absurd h (Nat.lt_irrefl _)⟩
theorem take_next (s : ByteArray) (a i : Nat) (h : a ≤ i) (hi : i < s.size) : (s.data.toList.drop a).take (i + 1 - a) = (s.data.toList.drop a).take (i - a) ++ [s[i]'hi] := by
  have e : i + 1 - a = (i - a) + 1 := by omega
  have hl : i - a < (s.data.toList.drop a).length := by rw [List.length_drop, ← Lib.size_eq]; omega
  rw [e, List.take_succ_eq_append_getElem hl]
  congr 1
  rw [List.getElem_drop]
  have : a + (i - a) = i := by omega
  simp only [this]
  rfl
/-- The number of one digit more, as the code reads it. -/
theorem dig_at {s : ByteArray} {a i n : Nat} (h : Run s a i n) (hi : i < s.size) :
    (¬ isDig (s[i]'hi) → (numF (s.extract a (i + 1))).2.2 ≠ 0) ∧
    (isDig (s[i]'hi) → (10 * n + ((s[i]'hi).toNat - 48) = 0 ∨ 4294967295 < 10 * n + ((s[i]'hi).toNat - 48)) → (numF (s.extract a (i + 1))).2.2 ≠ 0 ∨ badN (numF (s.extract a (i + 1))).1) ∧
    (isDig (s[i]'hi) → ¬ (10 * n + ((s[i]'hi).toNat - 48) = 0 ∨ 4294967295 < 10 * n + ((s[i]'hi).toNat - 48)) → numF (s.extract a (i + 1)) = (10 * n + ((s[i]'hi).toNat - 48), 0, 0) ∧ Run s a (i + 1) (10 * n + ((s[i]'hi).toNat - 48))) := by
  have hle := h.le
  have hsz : (s.extract a (i + 1)).size ≠ 0 := by rw [ByteArray.size_extract]; omega
  have hdat : (s.extract a (i + 1)).data.toList = (s.data.toList.drop a).take (i - a) ++ [s[i]'hi] := by
    rw [Lib.extract_data, take_next s a i hle hi]
  have hlen : ((s.data.toList.drop a).take (i - a)).length = i - a := by rw [List.length_take, List.length_drop, ← Lib.size_eq]; omega
  have h0 : 0 < (s.extract a (i + 1)).size := by omega
  have hz : zeroB (s.extract a (i + 1)) = true → i = a := by
    intro hz
    by_cases hai : a < i
    · have := (h.one hai).2 (by omega)
      unfold zeroB at hz
      have hg : (s.extract a (i + 1)).get! 0 = s[a]'(by omega) := by
        rw [get_lt _ 0 h0]
        simp [ByteArray.getElem_extract]
      rw [hg] at hz
      exact absurd (of_decide_eq_true hz) this
    · omega
  have hnum : numF (s.extract a (i + 1)) = numL (zeroB (s.extract a (i + 1))) [s[i]'hi] (i - a) n := by
    unfold numF
    rw [if_neg hsz, numGo_list _ _ _ 0 0 rfl (Nat.zero_le _), List.drop_zero, hdat]
    rw [numL_run _ _ _ 0 0 h.dig (fun hzz => ⟨rfl, by have := hz hzz; omega⟩), h.val, hlen, Nat.zero_add]
  have hzp : ¬ (0 < i - a ∧ zeroB (s.extract a (i + 1)) = true) := fun ⟨h1, h2⟩ => by have := hz h2; omega
  have hmax := h.max
  rw [hnum, numL_cons]
  refine ⟨fun hd => ?_, fun hd hm => ?_, fun hd hm => ?_⟩
  · rw [if_pos (Or.inl hd)]; simp
  · rw [if_neg (by rintro (h | h); exact h hd; exact hzp h)]
    rw [numL_nil]
    rcases hm with hm | hm
    · right
      rw [if_neg (by omega)]
      unfold badN
      simp only
      omega
    · left
      rw [if_pos (by omega)]
      simp
  · rw [if_neg (by rintro (h | h); exact h hd; exact hzp h)]
    rw [numL_nil]
    rw [if_neg (by omega)]
    refine ⟨by simp only [Prod.mk.injEq, and_true]; omega, ⟨by omega, hi, ?_, ?_, by omega, fun _ => ⟨by omega, fun ha e => ?_⟩⟩⟩
    · rw [take_next s a i hle hi]
      intro c hc
      rcases List.mem_append.1 hc with hc | hc
      · exact h.dig c hc
      · rw [List.mem_singleton.1 hc]; exact hd
    · rw [take_next s a i hle hi, foldm_snoc, h.val]
      omega
    · by_cases hai : a < i
      · exact (h.one hai).2 ha e
      · have : a = i := by omega
        subst this
        have hn : n = 0 := by have := h.val; simp [foldm] at this; omega
        omega
end Go.Proofs.YtpmakbjchepkmaaDoor
