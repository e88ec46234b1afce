/- Box: a set's reader: between, digit. -/
import Derived.Test.YtpmakbjchepkmaaDoorBG2
namespace Go.Proofs.YtpmakbjchepkmaaDoor
open Go Go.RowKit

def Rd.btw (r : Rd) (c : UInt8) : Rd × Bool :=
  if c.toNat = 44 then ({ r.fin with far := 0 }, true) else if c.toNat = 58 ∧ r.second = false then ({ r with second := true, far := 0 }, true) else (r, false)
def Rd.dig (r : Rd) (s : ByteArray) (i : Nat) : Rd × Bool :=
  if (numF (s.extract r.from' (i + 1))).2.2 ≠ 0 ∨ badN (numF (s.extract r.from' (i + 1))).1 then (r, false) else (r.lay (numF (s.extract r.from' (i + 1))).1, true)

set_option maxHeartbeats 4000000 in
set_option maxRecDepth 100000 in
theorem btw_any (w : World) (D : Nat) (pv : Value) (r : Rd) (c : UInt8) (h : RdAt w D pv r) (hn : r.parts.length ≤ 140737488000) :
    Calls Tryd.prog 21 #[.pointer (some ⟨D, 0, none⟩), .int .u8 (c.toNat : Int)] w (RdNow D w (.bool (r.btw c).2) (r.btw c).1) := by
  unfold Rd.btw
  by_cases h44 : c.toNat = 44
  · rw [if_pos h44]
    have e44 : ((c.toNat : Int) == 44) = true := by rw [beq_iff_eq]; omega
    have HF := Lib.hid (fin_any w D pv r h hn)
    have hc := c.toNat_lt
    clear h hn h44
    go_enter Tryd.func21, Tryd.ntmps21
    go_wp2_with fail
    refine HF.out.mono ?_
    rintro e w1 ⟨pv1, rfl, h1, hb1⟩
    have d1 := h1.cell 1
    have g1 := h1.free 1
    simp only [rdC] at d1
    simp at d1
    have H2 := Lib.hid (h1.set 1 (.int .i64 0) { r.fin with far := 0 } (by simp [rdC]) rfl)
    have HB := Lib.hid hb1
    clear h1 hb1 HF
    go_wp2
    go_ret
    exact ⟨_, rfl, H2.out, HB.out.trans (setCell_belowD _ _ _ _)⟩
  · rw [if_neg h44]
    have e44 : ((c.toNat : Int) == 44) = false := by rw [beq_eq_false_iff_ne]; omega
    have d4 := h.cell 5
    have d1 := h.cell 1
    have g5 := h.free 5
    have g1 := h.free 1
    simp only [rdC] at d4 d1
    simp at d4 d1
    by_cases h58 : c.toNat = 58
    · have e58 : ((c.toNat : Int) == 58) = true := by rw [beq_iff_eq]; omega
      cases hs : r.second with
      | false =>
        rw [if_pos ⟨h58, rfl⟩]
        rw [hs] at d4
        have h2 := h.set 5 (.bool true) { r with second := true } (by simp [rdC]) rfl
        have h3 := h2.set 1 (.int .i64 0) { r with second := true, far := 0 } (by simp [rdC]) rfl
        have H3 := Lib.hid h3
        clear h h2 h3 hs h44 h58
        go_enter Tryd.func21, Tryd.ntmps21
        go_wp2
        go_ret
        exact ⟨_, rfl, H3.out, (setCell_belowD _ _ _ _).trans (setCell_belowD _ _ _ _)⟩
      | true =>
        rw [if_neg (by simp)]
        rw [hs] at d4
        have H := Lib.hid h
        clear h hs h44 h58
        go_enter Tryd.func21, Tryd.ntmps21
        go_wp2
        go_ret
        exact ⟨_, rfl, H.out, Below.refl _ _⟩
    · have e58 : ((c.toNat : Int) == 58) = false := by rw [beq_eq_false_iff_ne]; omega
      rw [if_neg (fun e => h58 e.1)]
      have H := Lib.hid h
      clear h h44 h58
      go_enter Tryd.func21, Tryd.ntmps21
      go_wp2
      go_ret
      exact ⟨_, rfl, H.out, Below.refl _ _⟩

set_option maxHeartbeats 4000000 in
set_option maxRecDepth 100000 in
theorem dig_any (w : World) (D : Nat) (pv : Value) (r : Rd) (s : ByteArray) (i : Nat) (h : RdAt w D pv r) (hi : i < s.size) (hs : s.size ≤ 9223372036854775806) (hf : r.from' ≤ i) :
    Calls Tryd.prog 20 #[.pointer (some ⟨D, 0, none⟩), .string s, .int .i64 (i : Int)] w (RdNow D w (.bool (r.dig s i).2) (r.dig s i).1) := by
  have hlt := h.lt
  have d2 := h.cell 2
  simp only [rdC] at d2
  simp at d2
  unfold Rd.dig
  have hsz : (s.extract r.from' (i + 1)).size ≤ 9223372036854775807 := by rw [ByteArray.size_extract]; omega
  have hN := number_any (s.extract r.from' (i + 1)) w hsz
  unfold resN at hN
  generalize numF (s.extract r.from' (i + 1)) = X at hN ⊢
  obtain ⟨n, pl, er⟩ := X
  simp only at hN ⊢
  have h1 : (r.from' : Int) ≤ (i : Int) + 1 := by omega
  have h2 : (i : Int) + 1 ≤ (s.size : Int) := by omega
  have HN := Lib.hid hN
  have H := Lib.hid h
  clear h hN
  by_cases he : er = 0
  · subst he
    by_cases hb : badN n
    · rw [if_pos (Or.inr hb)]
      have HI := Lib.hid (fun W => isNum_no (n : Int) W hb)
      clear hb
      go_enter Tryd.func20, Tryd.ntmps20
      go_wp2_with fail
      refine HN.out.mono ?_
      rintro e w1 ⟨rfl, hb1⟩
      have H1 := Lib.hid (H.out.below hb1)
      have HB := Lib.hid (hb1.mono (Nat.le_of_lt hlt))
      clear hb1 HN d2
      go_wp2_with fail
      refine (HI.out _).mono ?_
      rintro e w' ⟨rfl, rfl⟩
      go_wp2
      go_ret
      exact ⟨_, rfl, H1.out, HB.out⟩
    · rw [if_neg (by intro h; rcases h with h | h; exact h rfl; exact hb h)]
      have HI := Lib.hid (fun W => isNum_yes (n : Int) W hb)
      clear hb
      go_enter Tryd.func20, Tryd.ntmps20
      go_wp2_with fail
      refine HN.out.mono ?_
      rintro e w1 ⟨rfl, hb1⟩
      have HL := Lib.hid (lay_any w1 D pv r (n : Int) (H.out.below hb1))
      have HB := Lib.hid (hb1.mono (Nat.le_of_lt hlt))
      clear hb1 HN d2
      go_wp2_with fail
      refine (HI.out _).mono ?_
      rintro e w' ⟨rfl, rfl⟩
      go_wp2_with fail
      refine HL.out.mono ?_
      rintro e w2 ⟨rfl, h2, hb2⟩
      have H2 := Lib.hid h2
      have HB2 := Lib.hid (HB.out.trans hb2)
      clear h2 hb2
      go_wp2
      go_ret
      exact ⟨_, rfl, H2.out, HB2.out⟩
  · rw [if_pos (Or.inl he)]
    have he' : ((er : Int) != 0) = true := by simp; omega
    clear he
    go_enter Tryd.func20, Tryd.ntmps20
    go_wp2_with fail
    refine HN.out.mono ?_
    rintro e w1 ⟨rfl, hb1⟩
    have H1 := Lib.hid (H.out.below hb1)
    have HB := Lib.hid (hb1.mono (Nat.le_of_lt hlt))
    clear hb1 HN d2
    go_wp2
    go_ret
    exact ⟨_, rfl, H1.out, HB.out⟩
end Go.Proofs.YtpmakbjchepkmaaDoor
