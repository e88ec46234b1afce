/- Box: a set's reader: step. -/
import Derived.Test.YtpmakbjchepkmaaDoorBG3
namespace Go.Proofs.YtpmakbjchepkmaaDoor
open Go Go.RowKit

def Rd.step (r : Rd) (s : ByteArray) (i : Nat) : Rd × Bool :=
  if r.far = 0 then
    if (s.get! i).toNat = 42 then (Rd.lay { r with from' := i, far := 2, starry := true } r.most, true)
    else Rd.dig { r with from' := i, far := 1 } s i
  else if r.far = 1 then (if (r.dig s i).2 = true then r.dig s i else r.btw (s.get! i))
  else r.btw (s.get! i)
theorem dig_no {r : Rd} {s : ByteArray} {i : Nat} (h : (r.dig s i).2 = false) : (r.dig s i).1 = r := by
  unfold Rd.dig at h ⊢
  split
  · rfl
  · rename_i h1; rw [if_neg h1] at h; cases h
theorem RdNow.then {D : Nat} {w w1 : World} {v : Value} {r : Rd} {e : Ending} {w' : World} (h : RdNow D w1 v r e w') (hb : Below D w w1) : RdNow D w v r e w' := by
  obtain ⟨pv, h1, h2, h3⟩ := h
  exact ⟨pv, h1, h2, hb.trans h3⟩

set_option maxHeartbeats 4000000 in
set_option maxRecDepth 100000 in
theorem step_any (w : World) (D : Nat) (pv : Value) (r : Rd) (s : ByteArray) (i : Nat) (h : RdAt w D pv r) (hi : i < s.size) (hs : s.size ≤ 9223372036854775806) (hf : r.from' ≤ i) (hn : r.parts.length ≤ 140737488000) :
    Calls Tryd.prog 10 #[.pointer (some ⟨D, 0, none⟩), .string s, .int .i64 (i : Int)] w (RdNow D w (.bool (r.step s i).2) (r.step s i).1) := by
  have d0 := h.cell 0
  have d1 := h.cell 1
  have d2 := h.cell 2
  have d6 := h.cell 7
  have g1 := h.free 1
  have g2 := h.free 2
  have g6 := h.free 7
  simp only [rdC] at d0 d1 d2 d6
  simp at d0 d1 d2 d6
  unfold Rd.step
  have hget := get_lt s i hi
  by_cases h0 : r.far = 0
  · rw [if_pos h0]
    rw [h0] at d1
    have h1 := h.set 2 (.int .i64 (i : Int)) { r with from' := i } (by simp [rdC]) rfl
    by_cases h42 : (s.get! i).toNat = 42
    · rw [if_pos h42]
      rw [hget] at h42
      have e42 : ((s[i].toNat : Int) == 42) = true := by rw [beq_iff_eq]; omega
      have h2 := h1.set 1 (.int .i64 2) { r with from' := i, far := 2 } (by simp [rdC]) rfl
      have h3 := h2.set 7 (.bool true) { r with from' := i, far := 2, starry := true } (by simp [rdC]) rfl
      have HL := Lib.hid (lay_any _ D pv _ r.most h3)
      clear h h1 h2 h3 h0 h42 hget
      go_enter Tryd.func10, Tryd.ntmps10
      go_wp2_with fail
      refine HL.out.mono ?_
      rintro e w1 ⟨rfl, h1, hb1⟩
      have H1 := Lib.hid h1
      have HB := Lib.hid hb1
      clear h1 hb1 HL
      go_wp2
      go_ret
      exact ⟨_, rfl, H1.out, (((setCell_belowD _ _ _ _).trans (setCell_belowD _ _ _ _)).trans (setCell_belowD _ _ _ _)).trans HB.out⟩
    · rw [if_neg h42]
      rw [hget] at h42
      have e42 : ((s[i].toNat : Int) == 42) = false := by rw [beq_eq_false_iff_ne]; omega
      have h2 := h1.set 1 (.int .i64 1) { r with from' := i, far := 1 } (by simp [rdC]) rfl
      have HL := Lib.hid (dig_any _ D pv _ s i h2 hi hs (Nat.le_refl _))
      generalize Rd.dig { r with from' := i, far := 1 } s i = X at *
      clear h h1 h2 h0 h42 hget
      go_enter Tryd.func10, Tryd.ntmps10
      go_wp2_with fail
      refine HL.out.mono ?_
      rintro e w1 ⟨pv1, rfl, h1, hb1⟩
      have H1 := Lib.hid h1
      have HB := Lib.hid hb1
      clear h1 hb1 HL
      go_wp2
      go_ret
      exact ⟨_, rfl, H1.out, ((setCell_belowD _ _ _ _).trans (setCell_belowD _ _ _ _)).trans HB.out⟩
  · rw [if_neg h0]
    have e0 : (r.far == 0) = false := by simpa using h0
    by_cases h1 : r.far = 1
    · rw [if_pos h1]
      have e1 : (r.far == 1) = true := by simpa using h1
      have HD := Lib.hid (dig_any w D pv r s i h hi hs hf)
      cases hd : (r.dig s i).2 with
      | true =>
        rw [if_pos rfl]
        rw [hd] at HD
        have HDD := Lib.hid hd
        generalize (r.dig s i) = X at *
        clear h h0 h1 hget hd
        go_enter Tryd.func10, Tryd.ntmps10
        go_wp2_with fail
        refine HD.out.mono ?_
        rintro e w1 ⟨pv1, rfl, h1, hb1⟩
        have H1 := Lib.hid h1
        have HB := Lib.hid hb1
        clear h1 hb1 HD
        go_wp2
        go_ret
        exact ⟨_, by rw [HDD.out]; rfl, H1.out, HB.out⟩
      | false =>
        rw [if_neg (by simp)]
        rw [hd, dig_no hd] at HD
        rw [hget]
        have HBT := Lib.hid (fun W pv' (hW : RdAt W D pv' r) => btw_any W D pv' r s[i] hW hn)
        generalize (r.btw s[i]) = X at *
        clear h h0 h1 hget hd
        go_enter Tryd.func10, Tryd.ntmps10
        go_wp2_with fail
        refine HD.out.mono ?_
        rintro e w1 ⟨pv1, rfl, h1, hb1⟩
        have HB := Lib.hid hb1
        have HBW := Lib.hid (HBT.out w1 pv1 h1)
        clear h1 hb1 HD HBT
        go_wp2_with fail
        refine HBW.out.mono ?_
        rintro e w2 ⟨pv2, rfl, h2, hb2⟩
        have H2 := Lib.hid h2
        have HB2 := Lib.hid (HB.out.trans hb2)
        clear h2 hb2 HBW
        go_wp2
        go_ret
        exact ⟨_, rfl, H2.out, HB2.out⟩
    · rw [if_neg h1]
      have e1 : (r.far == 1) = false := by simpa using h1
      rw [hget]
      have HBT := Lib.hid (btw_any w D pv r s[i] h hn)
      generalize (r.btw s[i]) = X at *
      clear h h0 h1 hget
      go_enter Tryd.func10, Tryd.ntmps10
      go_wp2_with fail
      refine HBT.out.mono ?_
      rintro e w2 ⟨pv2, rfl, h2, hb2⟩
      have H2 := Lib.hid h2
      have HB2 := Lib.hid hb2
      clear h2 hb2 HBT
      go_wp2
      go_ret
      exact ⟨_, rfl, H2.out, HB2.out⟩
end Go.Proofs.YtpmakbjchepkmaaDoor
