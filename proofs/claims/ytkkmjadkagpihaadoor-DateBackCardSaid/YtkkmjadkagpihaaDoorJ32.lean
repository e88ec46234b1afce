/- Date: Parse of Print is the moment, ParseShort of PrintShort is, too: in plain words. -/
import Derived.Test.YtkkmjadkagpihaaDoorJ31
namespace Go.Proofs.YtkkmjadkagpihaaDoor
open Go Go.RowKit

theorem week_first : ∀ k, k < 7 → ∃ a r, nthL weeksL k = a :: r ∧ decide (0 ≤ Lib.indexByte figL a) = false := by
  intro k hk
  have h : k = 0 ∨ k = 1 ∨ k = 2 ∨ k = 3 ∨ k = 4 ∨ k = 5 ∨ k = 6 := by omega
  rcases h with rfl | rfl | rfl | rfl | rfl | rfl | rfl
  all_goals exact ⟨_, _, rfl, by decide +kernel⟩
/-- What stands behind the day. -/
def restL (m y o : Nat) (sep : UInt8) (sg : UInt8) (z : Nat) : List UInt8 :=
  sep :: (nthL monthsL m ++ sep :: (dgs 4 y ++ 32 :: (dgs 2 (o / 3600) ++ 58 :: (dgs 2 (o / 60 % 60) ++ 58 :: (dgs 2 (o % 60) ++ 32 :: (sg :: (dgs 2 (z / 60) ++ (dgs 2 (z % 60) ++ []))))))))
theorem printL_form (wk d m y o : Nat) (neg : Bool) (z : Nat) : printL wk d (m + 1) y o neg z = nthL weeksL wk ++ 44 :: 32 :: (Lib.decDigits d ++ restL m y o 32 (if neg then 45 else 43) z) := by
  cases neg <;> simp [printL, clkL, restL]
theorem shortL_form (d m y o : Nat) (neg : Bool) (z : Nat) : shortL d (m + 1) y o neg z = (if d < 10 then [32] else []) ++ (Lib.decDigits d ++ restL m y o 45 (if neg then 45 else 43) z) := by
  cases neg <;> simp [shortL, clkL, restL]

/-- Both end alike: the month, the year, the time and the zone. -/
theorem tail_hit {t : ByteArray} (p m y o z : Nat) (neg : Bool) (sep : UInt8) (d wk : Int) (wkly : Bool) (g : List UInt8) (hg : g = [43, 45, 71, 85] ∨ g = [43, 45]) (h : Tx t p (restL m y o sep (if neg then 45 else 43) z)) (hm : m < 12) (hy : y < 10000) (ho : o < 86400) (hz : z < 1440) :
    ∃ q : Nat, q = t.size ∧ isR t [58] (hourMinuteS t (oneS t [32] (monthYearS t [sep] ⟨p, 0, 0, 0, d, wkly, wk, 0, 0⟩))).at_ = true ∧
      placeS t g (oneS t [32] (secondS t (hourMinuteS t (oneS t [32] (monthYearS t [sep] ⟨p, 0, 0, 0, d, wkly, wk, 0, 0⟩))))) = ⟨q, 0, y, (m : Int) + 1, d, wkly, wk, o, if neg then -(z : Int) else z⟩ := by
  have hl : (nthL monthsL m).length = 3 := nth_len (by show _ ≤ 36; omega)
  have e1 : monthYearS t [sep] ⟨p, 0, 0, 0, d, wkly, wk, 0, 0⟩ = ⟨p + 9, 0, y, (m : Int) + 1, d, wkly, wk, 0, 0⟩ := monthYear_hit (s := ⟨p, 0, 0, 0, d, wkly, wk, 0, 0⟩) h rfl hm hy
  have h1 : Tx t (p + 9) (32 :: (dgs 2 (o / 3600) ++ 58 :: (dgs 2 (o / 60 % 60) ++ 58 :: (dgs 2 (o % 60) ++ 32 :: ((if neg then 45 else 43) :: (dgs 2 (z / 60) ++ (dgs 2 (z % 60) ++ []))))))) := by
    have a := (h.one).go
    rw [hl] at a
    have b := (Tx.one a).go
    rw [dgs_len] at b
    exact b
  have e2 : oneS t [32] ⟨p + 9, 0, y, (m : Int) + 1, d, wkly, wk, 0, 0⟩ = ⟨p + 9 + 1, 0, y, (m : Int) + 1, d, wkly, wk, 0, 0⟩ := sign_hit (s := ⟨p + 9, 0, y, (m : Int) + 1, d, wkly, wk, 0, 0⟩) h1 rfl
  have h2 := h1.one
  have e3 : hourMinuteS t ⟨p + 9 + 1, 0, y, (m : Int) + 1, d, wkly, wk, 0, 0⟩ = ⟨p + 9 + 1 + 5, 0, y, (m : Int) + 1, d, wkly, wk, 3600 * ((o / 3600 : Nat) : Int) + 60 * ((o / 60 % 60 : Nat) : Int), 0⟩ := hourMinute_hit (s := ⟨p + 9 + 1, 0, y, (m : Int) + 1, d, wkly, wk, 0, 0⟩) h2 rfl (by omega) (by omega)
  have h3 : Tx t (p + 9 + 1 + 5) (58 :: (dgs 2 (o % 60) ++ 32 :: ((if neg then 45 else 43) :: (dgs 2 (z / 60) ++ (dgs 2 (z % 60) ++ []))))) := by
    have a := h2.go
    rw [dgs_len] at a
    have b := (Tx.one a).go
    rw [dgs_len] at b
    exact b
  generalize hck : 3600 * ((o / 3600 : Nat) : Int) + 60 * ((o / 60 % 60 : Nat) : Int) = ck at e3
  have e4 : secondS t ⟨p + 9 + 1 + 5, 0, y, (m : Int) + 1, d, wkly, wk, ck, 0⟩ = ⟨p + 9 + 1 + 5 + 3, 0, y, (m : Int) + 1, d, wkly, wk, ck + ((o % 60 : Nat) : Int), 0⟩ := second_hit (s := ⟨p + 9 + 1 + 5, 0, y, (m : Int) + 1, d, wkly, wk, ck, 0⟩) h3 rfl (by omega)
  have h4 : Tx t (p + 9 + 1 + 5 + 3) (32 :: ((if neg then 45 else 43) :: (dgs 2 (z / 60) ++ (dgs 2 (z % 60) ++ [])))) := by
    have a := (h3.one).go
    rw [dgs_len] at a
    exact a
  rw [show ck + ((o % 60 : Nat) : Int) = (o : Int) by omega] at e4
  have e5 : oneS t [32] ⟨p + 9 + 1 + 5 + 3, 0, y, (m : Int) + 1, d, wkly, wk, o, 0⟩ = ⟨p + 9 + 1 + 5 + 3 + 1, 0, y, (m : Int) + 1, d, wkly, wk, o, 0⟩ := sign_hit (s := ⟨p + 9 + 1 + 5 + 3, 0, y, (m : Int) + 1, d, wkly, wk, o, 0⟩) h4 rfl
  have h5 := h4.one
  have e6 := place_hit (s := ⟨p + 9 + 1 + 5 + 3 + 1, 0, y, (m : Int) + 1, d, wkly, wk, o, 0⟩) (a := z / 60) (b := z % 60) g hg h5 rfl (by omega) (by omega)
  have h6 : Tx t (p + 9 + 1 + 5 + 3 + 1 + 1 + 2 + 2) [] := by
    have a := (h5.one).go
    rw [dgs_len] at a
    have b := Tx.go a
    rw [dgs_len] at b
    exact b
  refine ⟨p + 9 + 1 + 5 + 3 + 1 + 5, ?_, ?_, ?_⟩
  · have := h6.nil; omega
  · rw [e1, e2, e3]
    show isR t [58] (p + 9 + 1 + 5) = true
    rw [isR_at h3]; decide +kernel
  · rw [e1, e2, e3, e4, e5, e6]
    cases neg
    · simp only [Bool.false_eq_true, if_false]
      congr 1
      omega
    · simp only [if_true]
      congr 1
      omega

theorem rest_sep (m y o z : Nat) (sep sg : UInt8) : ∃ r, restL m y o sep sg z = sep :: r := ⟨_, rfl⟩
theorem parse_print (sec : Int) (wk d m y o z : Nat) (neg : Bool) (hwk : wk < 7) (hd : d < 100) (hm : m < 12) (hy : y < 10000) (ho : o < 86400) (hz : z < 1440) (hr : rt y ((m : Int) + 1) d = true) (hw : (num y ((m : Int) + 1) d + 3) % 7 = (wk : Int))
    (hsec : num y ((m : Int) + 1) d * 86400 + o - 60 * (if neg then -(z : Int) else z) = sec) :
    parseR ⟨(printL wk d (m + 1) y o neg z).toArray⟩ = (sec, if neg then -(z : Int) else z, 0, 0) := by
  generalize ht : (⟨(printL wk d (m + 1) y o neg z).toArray⟩ : ByteArray) = t
  have h0 : Tx t 0 (nthL weeksL wk ++ 44 :: 32 :: (Lib.decDigits d ++ restL m y o 32 (if neg then 45 else 43) z)) := by
    rw [← printL_form, ← ht]
    have := Tx.all (⟨(printL wk d (m + 1) y o neg z).toArray⟩ : ByteArray)
    rwa [data_mk] at this
  clear ht
  have hl : (nthL weeksL wk).length = 3 := nth_len (by show _ ≤ 21; omega)
  obtain ⟨w1, w2⟩ := week_hits wk hwk
  have hq : isR t figL 0 = false := by
    obtain ⟨a, r, e1, e2⟩ := week_first wk hwk
    rw [e1] at h0
    rw [isR_at h0, e2]
  have e1 : wk0 t s00 = ⟨3, 0, 0, 0, 0, true, wk, 0, 0⟩ := by
    unfold wk0 wordS wordV s00
    simp only
    rw [word_hit h0 w1]
    simp only [w2, Stp.up]
  have h1 : Tx t 3 (44 :: 32 :: (Lib.decDigits d ++ restL m y o 32 (if neg then 45 else 43) z)) := by have := h0.go; rwa [hl] at this
  have e2 : oneS t [44] ⟨3, 0, 0, 0, 0, true, wk, 0, 0⟩ = ⟨4, 0, 0, 0, 0, true, wk, 0, 0⟩ := sign_hit (s := ⟨3, 0, 0, 0, 0, true, wk, 0, 0⟩) h1 rfl
  have h2 := h1.one
  have e3 : oneS t [32] ⟨4, 0, 0, 0, 0, true, wk, 0, 0⟩ = ⟨5, 0, 0, 0, 0, true, wk, 0, 0⟩ := sign_hit (s := ⟨4, 0, 0, 0, 0, true, wk, 0, 0⟩) h2 rfl
  have h3 : Tx t 5 (Lib.decDigits d ++ restL m y o 32 (if neg then 45 else 43) z) := h2.one
  have h4 := h3.go
  obtain ⟨r, er⟩ := rest_sep m y o z 32 (if neg then 45 else 43)
  have h3' := h3
  rw [er] at h3'
  have e4 : shortDayS t ⟨5, 0, 0, 0, 0, true, wk, 0, 0⟩ = ⟨5 + (Lib.decDigits d).length, 0, 0, 0, d, true, wk, 0, 0⟩ := shortDay_hit (s := ⟨5, 0, 0, 0, 0, true, wk, 0, 0⟩) h3' rfl hd (by decide +kernel)
  obtain ⟨q, hqs, hi, hp⟩ := tail_hit (t := t) _ m y o z neg 32 d wk true [43, 45, 71, 85] (Or.inl rfl) h4 hm hy ho hz
  unfold parseR parseA
  simp only [hq, Bool.false_eq_true, if_false, e1, e2, e3, e4, hi, if_true, hp]
  have hmo := moment_hit (t := t) (s := ⟨q, 0, y, (m : Int) + 1, d, true, wk, o, if neg then -(z : Int) else z⟩) hqs rfl hr (fun _ => hw.symm)
  rw [hmo]
  simp only [hsec]
theorem short_print (sec : Int) (d m y o z : Nat) (neg : Bool) (hd : d < 100) (hm : m < 12) (hy : y < 10000) (ho : o < 86400) (hz : z < 1440) (hr : rt y ((m : Int) + 1) d = true)
    (hsec : num y ((m : Int) + 1) d * 86400 + o - 60 * (if neg then -(z : Int) else z) = sec) :
    shortR ⟨(shortL d (m + 1) y o neg z).toArray⟩ = (sec, if neg then -(z : Int) else z, 0, 0) := by
  generalize ht : (⟨(shortL d (m + 1) y o neg z).toArray⟩ : ByteArray) = t
  have h0 : Tx t 0 ((if d < 10 then [32] else []) ++ (Lib.decDigits d ++ restL m y o 45 (if neg then 45 else 43) z)) := by
    rw [← shortL_form, ← ht]
    have := Tx.all (⟨(shortL d (m + 1) y o neg z).toArray⟩ : ByteArray)
    rwa [data_mk] at this
  clear ht
  have fin : ∀ p : Nat, shortS t = ⟨p, 0, 0, 0, d, false, 0, 0, 0⟩ → Tx t p (restL m y o 45 (if neg then 45 else 43) z) → shortR t = (sec, if neg then -(z : Int) else z, 0, 0) := by
    intro p e4 h4
    obtain ⟨q, hqs, hi, hp⟩ := tail_hit (t := t) p m y o z neg 45 d 0 false [43, 45] (Or.inr rfl) h4 hm hy ho hz
    unfold shortR
    rw [e4, hp]
    have hmo := moment_hit (t := t) (s := ⟨q, 0, y, (m : Int) + 1, d, false, 0, o, if neg then -(z : Int) else z⟩) hqs rfl hr (fun h => by cases h)
    rw [hmo]
    simp only [hsec]
  by_cases h10 : d < 10
  · rw [if_pos h10, decDigits_low h10] at h0
    have hq : isR t [32] 0 = true := by rw [isR_at h0]; decide +kernel
    have h1 : Tx t 1 (dgB d :: restL m y o 45 (if neg then 45 else 43) z) := Tx.one h0
    have e1 : oneS t [32] s00 = ⟨1, 0, 0, 0, 0, false, 0, 0, 0⟩ := sign_hit (s := s00) h0 rfl
    refine fin 2 ?_ h1.one
    unfold shortS
    rw [hq, if_pos rfl, e1]
    unfold dayN numS numV
    simp only
    rw [num1_hit h1]
    simp only [Stp.up, Nat.mod_eq_of_lt h10]
  · rw [if_neg h10, decDigits_high h10, decDigits_low (by omega), List.nil_append] at h0
    have h0' : Tx t 0 (dgs 2 d ++ restL m y o 45 (if neg then 45 else 43) z) := by rw [dgs2]; exact h0
    have hq : isR t [32] 0 = false := by
      rw [isR_at (c := dgB (d / 10)) h0]
      rcases dg_cases (d / 10) with e | e | e | e | e | e | e | e | e | e <;> rw [e.1] <;> decide +kernel
    have h1 := h0'.go
    rw [dgs_len] at h1
    refine fin 2 ?_ h1
    unfold shortS
    rw [hq, if_neg (by decide)]
    unfold dayN numS numV s00
    simp only
    rw [num2_hit h0' hd]
    simp only [Stp.up]
end Go.Proofs.YtkkmjadkagpihaaDoor
