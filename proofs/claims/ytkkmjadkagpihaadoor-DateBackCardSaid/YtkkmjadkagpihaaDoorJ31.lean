/- Date: Parse of Print, ParseShort of PrintShort: in plain words. -/
import Derived.Test.YtkkmjadkagpihaaDoorJ30
namespace Go.Proofs.YtkkmjadkagpihaaDoor
open Go Go.RowKit

theorem oneS_hit {t : ByteArray} {s : Stp} {c : UInt8} {r g : List UInt8} (h : Tx t s.at_ (c :: r)) (hs : s.stop = 0) (i : Nat) (hi : Lib.indexByte (low g) (lowB c) = (i : Int)) : oneS t g s = { s with at_ := s.at_ + 1, stop := 0 } ∧ oneV t g s = (g.drop i).take 1 := by
  unfold oneS oneV
  rw [hs, oneR_hit h i hi]
  exact ⟨rfl, rfl⟩
/-- A sign that stands for itself. -/
theorem sign_hit {t : ByteArray} {s : Stp} {c : UInt8} {r : List UInt8} (h : Tx t s.at_ (c :: r)) (hs : s.stop = 0) : oneS t [c] s = { s with at_ := s.at_ + 1, stop := 0 } :=
  (oneS_hit h hs 0 (by simp [low, Lib.indexByte])).1

theorem shortDay_hit {t : ByteArray} {s : Stp} {d : Nat} {c : UInt8} {r : List UInt8} (h : Tx t s.at_ (Lib.decDigits d ++ c :: r)) (hs : s.stop = 0) (hd : d < 100) (hc : Lib.indexByte figL c < 0) :
    shortDayS t s = { s with at_ := s.at_ + (Lib.decDigits d).length, stop := 0, day := d } := by
  unfold shortDayS
  simp only
  rw [hs]
  by_cases h10 : d < 10
  · rw [decDigits_low h10] at h ⊢
    rw [num1_hit (v := d) (r := c :: r) h]
    simp only
    rw [isR_at (Tx.one h), if_neg (by simpa using hc)]
    simp only [Stp.up, List.length_singleton, Nat.mod_eq_of_lt h10]
  · rw [decDigits_high h10, decDigits_low (by omega)] at h ⊢
    have h1 : Tx t s.at_ (dgB (d / 10) :: dgB d :: c :: r) := h
    rw [num1_hit h1]
    simp only
    have h2 := h1.one
    have hq : isR t figL (s.at_ + 1) = true := by
      rw [isR_at h2]
      rcases dg_cases d with e | e | e | e | e | e | e | e | e | e <;> rw [e.1] <;> decide
    rw [hq, if_pos rfl, num1_hit h2]
    simp only [Stp.up, List.cons_append, List.nil_append, List.length_cons, List.length_nil, Nat.add_assoc]
    congr 1
    omega
theorem monthYear_hit {t : ByteArray} {s : Stp} {m y : Nat} {c : UInt8} {r : List UInt8} (h : Tx t s.at_ (c :: (nthL monthsL m ++ c :: (dgs 4 y ++ r)))) (hs : s.stop = 0) (hm : m < 12) (hy : y < 10000) :
    monthYearS t [c] s = { s with at_ := s.at_ + 9, stop := 0, month := (m : Int) + 1, year := y } := by
  unfold monthYearS
  rw [sign_hit h hs]
  have h1 := h.one
  obtain ⟨hw1, hw2⟩ := month_hits m hm
  have hl : (nthL monthsL m).length = 3 := nth_len (by show _ ≤ 36; omega)
  have e1 : myS1 t { s with at_ := s.at_ + 1, stop := 0 } = { s with at_ := s.at_ + 1 + 3, stop := 0, month := 1 + (m : Int) } := by
    unfold myS1 wordS wordV
    simp only
    rw [word_hit h1 hw1]
    simp only [hw2, Stp.up]
  rw [e1]
  have h2 : Tx t (s.at_ + 1 + 3) (c :: (dgs 4 y ++ r)) := by have := h1.go; rwa [hl] at this
  rw [sign_hit (s := { s with at_ := s.at_ + 1 + 3, stop := 0, month := 1 + (m : Int) }) h2 rfl]
  have h3 := h2.one
  unfold myS2 numS numV
  simp only
  rw [num4_hit h3 hy]
  simp only [Stp.up, Nat.add_assoc]
  congr 1
  omega
theorem hourMinute_hit {t : ByteArray} {s : Stp} {a b : Nat} {r : List UInt8} (h : Tx t s.at_ (dgs 2 a ++ 58 :: (dgs 2 b ++ r))) (hs : s.stop = 0) (ha : a < 24) (hb : b < 60) :
    hourMinuteS t s = { s with at_ := s.at_ + 5, stop := 0, clock := 3600 * (a : Int) + 60 * (b : Int) } := by
  unfold hourMinuteS
  have e1 : hmS1 t s = { s with at_ := s.at_ + 2, stop := 0, clock := 3600 * (a : Int) } := by
    unfold hmS1 b24S b24V
    rw [hs, b24_hit h ha]
    rfl
  rw [e1]
  have h1 : Tx t (s.at_ + 2) (58 :: (dgs 2 b ++ r)) := by have := h.go; rwa [dgs_len] at this
  unfold hmS2
  rw [sign_hit (s := { s with at_ := s.at_ + 2, stop := 0, clock := 3600 * (a : Int) }) h1 rfl]
  have h2 := h1.one
  unfold b60S b60V
  simp only
  rw [b60_hit h2 hb]
  simp only [Stp.up, Nat.add_assoc]
theorem second_hit {t : ByteArray} {s : Stp} {b : Nat} {r : List UInt8} (h : Tx t s.at_ (58 :: (dgs 2 b ++ r))) (hs : s.stop = 0) (hb : b < 60) :
    secondS t s = { s with at_ := s.at_ + 3, stop := 0, clock := s.clock + (b : Int) } := by
  unfold secondS
  rw [sign_hit h hs]
  have h2 := h.one
  unfold b60S b60V
  simp only
  rw [b60_hit h2 hb]
  simp only [Stp.up, Nat.add_assoc]
theorem place_hit {t : ByteArray} {s : Stp} {a b : Nat} {neg : Bool} {r : List UInt8} (g : List UInt8) (hg : g = [43, 45, 71, 85] ∨ g = [43, 45]) (h : Tx t s.at_ ((if neg then 45 else 43) :: (dgs 2 a ++ (dgs 2 b ++ r)))) (hs : s.stop = 0) (ha : a < 24) (hb : b < 60) :
    placeS t g s = { s with at_ := s.at_ + 5, stop := 0, zone := if neg then -(60 * (a : Int) + b) else 60 * (a : Int) + b } := by
  have hx : oneS t g s = { s with at_ := s.at_ + 1, stop := 0 } ∧ oneV t g s = [if neg then 45 else 43] := by
    cases neg
    · have := oneS_hit (g := g) h hs 0 (by rcases hg with rfl | rfl <;> decide +kernel)
      rcases hg with rfl | rfl <;> exact this
    · have := oneS_hit (g := g) h hs 1 (by rcases hg with rfl | rfl <;> decide +kernel)
      rcases hg with rfl | rfl <;> exact this
  unfold placeS
  simp only
  rw [hx.1, hx.2]
  have h1 := h.one
  have h2 : Tx t (s.at_ + 1 + 2) (dgs 2 b ++ r) := by have := h1.go; rwa [dgs_len] at this
  have e1 : b24S t { s with at_ := s.at_ + 1, stop := 0 } = { s with at_ := s.at_ + 1 + 2, stop := 0 } ∧ b24V t { s with at_ := s.at_ + 1, stop := 0 } = a := by
    unfold b24S b24V
    simp only
    rw [b24_hit h1 ha]
    exact ⟨rfl, rfl⟩
  have e2 : b60S t { s with at_ := s.at_ + 1 + 2, stop := 0 } = { s with at_ := s.at_ + 1 + 2 + 2, stop := 0 } ∧ b60V t { s with at_ := s.at_ + 1 + 2, stop := 0 } = b := by
    unfold b60S b60V
    simp only
    rw [b60_hit h2 hb]
    exact ⟨rfl, rfl⟩
  cases neg
  · rw [if_pos (by rfl)]
    unfold plus2
    rw [e1.1, e1.2, e2.1, e2.2]
    rfl
  · rw [if_neg (by decide), if_pos (by rfl)]
    unfold minus2
    rw [e1.1, e1.2, e2.1, e2.2]
    simp only [Nat.add_assoc, if_true]
    congr 1
    omega
theorem moment_hit {t : ByteArray} {s : Stp} (h : s.at_ = t.size) (hs : s.stop = 0) (hr : rt s.year s.month s.day = true) (hw : s.weekly = true → s.week = (num s.year s.month s.day + 3) % 7) :
    momR t s = (num s.year s.month s.day * 86400 + s.clock - 60 * s.zone, s.zone, 0, 0) := by
  unfold momR stopE
  rw [if_neg (by omega : ¬ s.at_ < t.size), hs, if_neg (by simp), if_pos hr, if_neg (by intro ⟨a, b⟩; exact b (hw a))]
end Go.Proofs.YtkkmjadkagpihaaDoor
