/- Box: Set. -/
import Derived.Test.YtpmakbjchepkmaaDoorBG7
namespace Go.Proofs.YtpmakbjchepkmaaDoor
open Go Go.RowKit

/-- A set read from a place on: the reader, and where it goes on no more. -/
def rdRun (s : ByteArray) : Nat → Nat → Rd → Rd × Option Nat
  | 0, _, r => (r, none)
  | f + 1, i, r => if (r.step s i).2 = true then rdRun s f (i + 1) (r.step s i).1 else ((r.step s i).1, some i)
def Rd.new (most : Int) : Rd := ⟨most, 0, 0, 0, 0, false, [], false⟩
/-- What is known of a reader. -/
structure Rd.Inv (r : Rd) (i : Nat) : Prop where
  most : 0 ≤ r.most ∧ r.most ≤ 4294967295
  a : 0 ≤ r.a ∧ r.a ≤ 4294967295
  b : 0 ≤ r.b ∧ r.b ≤ 4294967295
  from' : r.from' ≤ i
  parts : ∀ p ∈ r.parts, (0 ≤ p.1 ∧ p.1 ≤ 4294967295) ∧ (0 ≤ p.2 ∧ p.2 ≤ 4294967295)
  len : r.parts.length ≤ i
theorem Rd.Inv.lay {r : Rd} {i : Nat} (h : r.Inv i) (n : Int) (hn : 0 ≤ n ∧ n ≤ 4294967295) : (r.lay n).Inv i := by
  refine ⟨h.most, ?_, hn, h.from', h.parts, h.len⟩
  unfold Rd.lay
  simp only
  split
  · exact h.a
  · exact hn
theorem Rd.Inv.fin {r : Rd} {i : Nat} (h : r.Inv i) : r.fin.Inv (i + 1) := by
  have ha := h.a
  have hb := h.b
  refine ⟨h.most, h.a, h.b, Nat.le_succ_of_le h.from', fun p hp => ?_, by have := h.len; simp [Rd.fin]; omega⟩
  rcases List.mem_append.1 hp with hp | hp
  · exact h.parts p hp
  · rw [List.mem_singleton] at hp
    subst hp
    simp only
    omega
theorem Rd.Inv.up {r : Rd} {i : Nat} (h : r.Inv i) : r.Inv (i + 1) := ⟨h.most, h.a, h.b, Nat.le_succ_of_le h.from', h.parts, Nat.le_succ_of_le h.len⟩
theorem Rd.Inv.btw {r : Rd} {i : Nat} (h : r.Inv i) (c : UInt8) : (r.btw c).1.Inv (i + 1) := by
  unfold Rd.btw
  split
  · have h2 := h.fin; exact ⟨h2.most, h2.a, h2.b, h2.from', h2.parts, h2.len⟩
  · split
    · have h2 := h.up; exact ⟨h2.most, h2.a, h2.b, h2.from', h2.parts, h2.len⟩
    · exact h.up
theorem Rd.Inv.dig {r : Rd} {i : Nat} (h : r.Inv i) (s : ByteArray) (j : Nat) : (r.dig s j).1.Inv (i + 1) := by
  unfold Rd.dig
  split
  · exact h.up
  · rename_i h1
    have h2 : ¬ badN (numF (s.extract r.from' (j + 1))).1 := fun e => h1 (Or.inr e)
    unfold badN at h2
    exact h.up.lay _ (by omega)
theorem Rd.Inv.step {r : Rd} {i : Nat} (h : r.Inv i) (s : ByteArray) : (r.step s i).1.Inv (i + 1) := by
  unfold Rd.step
  split
  · split
    · have h2 : Rd.Inv { r with from' := i, far := 2, starry := true } (i + 1) := ⟨h.most, h.a, h.b, Nat.le_succ i, h.parts, Nat.le_succ_of_le h.len⟩
      exact h2.lay _ h.most
    · have h2 : Rd.Inv { r with from' := i, far := 1 } i := ⟨h.most, h.a, h.b, Nat.le_refl i, h.parts, h.len⟩
      exact h2.dig s i
  · split
    · split
      · exact h.dig s i
      · exact h.btw _
    · exact h.btw _
theorem Rd.new_inv {most : Int} (h : 0 ≤ most ∧ most ≤ 4294967295) : (Rd.new most).Inv 0 := ⟨h, by simp [Rd.new], by simp [Rd.new], Nat.le_refl 0, fun p hp => by simp [Rd.new] at hp, Nat.le_refl 0⟩

/-- What is told at the end. -/
def setEnd (size : Nat) (most : Int) : Rd × Option Nat → Int × Int
  | (_, some i) => ((i : Int), 4)
  | (r, none) => if r.far = 0 then ((size : Int), 3) else if 32 < r.fin.parts.length then (0, 6) else if r.starry = true ∧ most = 0 then (0, 2) else (0, 0)
/-- Set's error, its place. -/
def setE (s : ByteArray) (most : Int) : Int × Int :=
  if most < 0 ∨ 4294967295 < most then (0, 2) else setEnd s.size most (rdRun s s.size 0 (Rd.new most))
/-- Its parts, as far as they are right. -/
def setP (s : ByteArray) (most : Int) : List (Int × Int) := (rdRun s s.size 0 (Rd.new most)).1.fin.parts
def SetR (W : World) (s : ByteArray) (most : Int) (e : Ending) (w' : World) : Prop :=
  Below W.heap.size W w' ∧ ((setE s most).2 ≠ 0 → e = .returned (.tuple #[.slice none 0 0, .int .i64 (setE s most).1, .int .i64 (setE s most).2])) ∧
  ((setE s most).2 = 0 → ∃ v l' x t, e = .returned (.tuple #[v, .int .i64 0, .int .i64 0]) ∧ l' = x :: t ∧ l'.Perm (setP s most) ∧ l'.Pairwise (fun x y => x.1 ≤ y.1) ∧ Prs w' v (joinGo [] x.1 x.2 t))
theorem SetR.bad {W w' : World} {s : ByteArray} {most : Int} {x y : Int} (hx : setE s most = (x, y)) (h0 : y ≠ 0) (hb : Below W.heap.size W w') :
    SetR W s most (.returned (.tuple #[.slice none 0 0, .int .i64 x, .int .i64 y])) w' := by
  refine ⟨hb, fun _ => by rw [hx], fun h => ?_⟩
  rw [hx] at h
  exact absurd h h0

set_option maxHeartbeats 1000000 in
set_option maxRecDepth 100000 in
theorem set_arg (s : ByteArray) (most : Int) (w : World) (h : most < 0 ∨ 4294967295 < most) :
    Calls Tryd.prog 5 #[.string s, .int .i64 most] w (SetR w s most) := by
  have HX := Lib.hid (show setE s most = (0, 2) by unfold setE; rw [if_pos h])
  by_cases h0 : most < 0
  · clear h
    go_enter Tryd.func5, Tryd.ntmps5
    go_wp2
    go_ret3
    exact SetR.bad HX.out (by decide) (Below.refl _ _)
  · have h1 : 4294967295 < most := by omega
    clear h
    go_enter Tryd.func5, Tryd.ntmps5
    go_wp2
    go_ret3
    exact SetR.bad HX.out (by decide) (Below.refl _ _)

set_option maxHeartbeats 4000000 in
set_option maxRecDepth 100000 in
theorem set_good (s : ByteArray) (most : Int) (w : World) (hm : 0 ≤ most ∧ most ≤ 4294967295) (hs : s.size ≤ 2000000) :
    Calls Tryd.prog 5 #[.string s, .int .i64 most] w (SetR w s most) := by
  have h0 : ¬ most < 0 := by omega
  have h1 : ¬ 4294967295 < most := by omega
  generalize hR : rdRun s s.size 0 (Rd.new most) = R
  have hE : setE s most = setEnd s.size most R := by unfold setE; rw [if_neg (by omega), hR]
  have hP : setP s most = R.1.fin.parts := by unfold setP; rw [hR]
  have hat : RdAt (w.alloc (.cells #[.int .i64 most, .int .i64 0, .int .i64 0, .int .i64 0, .int .i64 0, .bool false, .slice none 0 0, .bool false] 33)) w.heap.size (.slice none 0 0) (Rd.new most) :=
    ⟨heap_alloc_new w _, World.ownsRow_nil ..⟩
  have hb0 : Below w.heap.size w (w.alloc (.cells #[.int .i64 most, .int .i64 0, .int .i64 0, .int .i64 0, .int .i64 0, .bool false, .slice none 0 0, .bool false] 33)) := (Below.refl _ w).alloc (Nat.le_refl _) _
  have HR := Lib.hid hR
  have HE := Lib.hid hE
  have HP := Lib.hid hP
  have HAT := Lib.hid hat
  have HB0 := Lib.hid hb0
  clear hR hE hP hat hb0
  go_enter Tryd.func5, Tryd.ntmps5
  go_wp2
  go_loopw [19] (fun i wr => ∃ (k : Nat) (r : Rd) (pv : Value), k ≤ s.size ∧ i = .int .i64 k ∧ RdAt wr w.heap.size pv r ∧ r.Inv k ∧ r.most = most ∧ rdRun s (s.size - k) k r = R ∧ Below w.heap.size w wr) (fun i _ => s.size - (intOf i).toNat)
  case atStart => exact ⟨0, Rd.new most, _, Nat.zero_le _, rfl, HAT.out, Rd.new_inv hm, rfl, HR.out, HB0.out⟩
  case round =>
    obtain ⟨k, r, pv, hk, rfl, hat, hinv, hrm, hgo, hb⟩ := hrel
    by_cases hlt : k < s.size
    · have hgo2 : (if (r.step s k).2 = true then rdRun s (s.size - (k + 1)) (k + 1) (r.step s k).1 else ((r.step s k).1, some k)) = R := by
        rw [← hgo, show s.size - k = (s.size - (k + 1)) + 1 by omega]; rfl
      have hst := step_any wr w.heap.size pv r s k hat hlt (by omega) hinv.from' (by have := hinv.len; omega)
      have hi2 := hinv.step s
      have hm2 : (r.step s k).1.most = most := by
        rw [← hrm]
        unfold Rd.step Rd.dig Rd.btw Rd.lay Rd.fin
        repeat' split
        all_goals rfl
      generalize r.step s k = X at *
      have HST := Lib.hid hst
      have HI := Lib.hid hi2
      have HM := Lib.hid hm2
      have HB := Lib.hid hb
      have HGo := Lib.hid hgo2
      clear hgo hgo2 hst hi2 hm2 hb hat hinv hrm
      cases hx : X.2 with
      | true =>
        rw [hx] at HST
        have hg3 : rdRun s (s.size - (k + 1)) (k + 1) X.1 = R := by have := HGo.out; rwa [if_pos hx] at this
        have HG3 := Lib.hid hg3
        clear hx hg3 HGo
        go_wp2_with fail
        refine HST.out.mono ?_
        rintro e w1 ⟨pv1, rfl, h1', hb1⟩
        have H1 := Lib.hid h1'
        have HB1 := Lib.hid (HB.out.trans hb1)
        clear h1' hb1 HST
        go_wp2
        go_roundw
        case rel => exact ⟨k + 1, X.1, pv1, by omega, by go_num, H1.out, HI.out, HM.out, HG3.out, HB1.out⟩
        case measure => simp [intOf]; omega
      | false =>
        rw [hx] at HST
        have hg3 : (X.1, some k) = R := by have := HGo.out; rwa [if_neg (by simp [hx])] at this
        have hE2 : setE s most = ((k : Int), 4) := by rw [HE.out, ← hg3]; rfl
        have HX := Lib.hid hE2
        clear hx hg3 HGo hE2
        go_wp2_with fail
        refine HST.out.mono ?_
        rintro e w1 ⟨pv1, rfl, h1', hb1⟩
        have HB1 := Lib.hid (HB.out.trans hb1)
        clear h1' hb1 HST
        go_wp2
        go_ret3
        exact SetR.bad HX.out (by decide) HB1.out
    · have hk : k = s.size := by omega
      subst hk
      rw [Nat.sub_self] at hgo
      have hRr : R = (r, none) := hgo.symm
      have HRr := Lib.hid hRr
      clear hgo hRr
      have d1 := hat.cell 1
      simp only [rdC] at d1
      simp at d1
      by_cases hfar : r.far = 0
      · have hE2 : setE s most = ((s.size : Int), 3) := by rw [HE.out, HRr.out]; simp only [setEnd]; rw [if_pos hfar]
        have HX := Lib.hid hE2
        rw [hfar] at d1
        clear hE2 hat hinv hfar hrm
        go_wp2
        go_ret3
        exact SetR.bad HX.out (by decide) hb
      · have hfar' : (r.far == 0) = false := by simpa using hfar
        have HF := Lib.hid (fin_any wr w.heap.size pv r hat (by have := hinv.len; omega))
        have HIF := Lib.hid hinv.fin
        have HB := Lib.hid hb
        have HSTAR : Hid (r.fin.starry = r.starry) := Lib.hid rfl
        have HFAR := Lib.hid hfar
        clear hat hinv hb hfar
        generalize hrf : r.fin = rf at *
        have HRF := Lib.hid hrf
        clear hrf
        go_wp2_with fail
        refine HF.out.mono ?_
        rintro e w1 ⟨pv1, rfl, h1', hb1⟩
        have hbb := HB.out.trans hb1
        obtain ⟨pa, pc, rfl⟩ := h1'.shape
        have c5 := h1'.cell 6
        have c6 := h1'.cell 7
        simp only [rdC] at c5 c6
        simp at c5 c6
        rw [HSTAR.out] at c6
        have HBB := Lib.hid hbb
        have H1 := Lib.hid h1'
        have hDlt := h1'.lt
        clear hb1 hbb h1' HF d1 hfar'
        by_cases h32 : 32 < rf.parts.length
        · have hE2 : setE s most = (0, 6) := by rw [HE.out, HRr.out]; simp only [setEnd]; rw [if_neg HFAR.out, HRF.out, if_pos h32]
          have HX := Lib.hid hE2
          clear hE2 hrm
          go_wp2
          go_ret3
          exact SetR.bad HX.out (by decide) HBB.out
        · by_cases hst : r.starry = true ∧ most = 0
          · have hE2 : setE s most = (0, 2) := by rw [HE.out, HRr.out]; simp only [setEnd]; rw [if_neg HFAR.out, HRF.out, if_neg h32, if_pos hst]
            have HX := Lib.hid hE2
            rw [hst.1] at c6
            have hm0 : (most == 0) = true := by simpa using hst.2
            clear hE2 hrm hst hm
            go_wp2
            go_ret3
            exact SetR.bad HX.out (by decide) HBB.out
          · have hE2 : setE s most = (0, 0) := by rw [HE.out, HRr.out]; simp only [setEnd]; rw [if_neg HFAR.out, HRF.out, if_neg h32, if_neg hst]
            have HX := Lib.hid hE2
            have hlen1 : 1 ≤ rf.parts.length := by rw [← HRF.out]; simp [Rd.fin]
            have hjo := joined_any_v w.heap.size w1 (.slice pa rf.parts.length pc) rf.parts H1.out.own (by omega) hlen1 hDlt (fun p hp => by
              obtain ⟨⟨u1, u2⟩, u3, u4⟩ := HIF.out.parts p hp
              exact ⟨⟨by omega, by omega⟩, by omega, by omega⟩)
            have HJ := Lib.hid hjo
            have HPP := Lib.hid (show setP s most = rf.parts by rw [HP.out, HRr.out, ← HRF.out])
            cases hstar : r.starry with
            | true =>
              rw [hstar] at c6
              have hm0 : (most == 0) = false := by
                rw [beq_eq_false_iff_ne]
                intro e
                exact hst ⟨hstar, e⟩
              clear hE2 hrm hst hm hjo hstar
              go_wp2_with fail
              refine HJ.out.mono ?_
              rintro e w2 ⟨v, l', x, t, rfl, rfl, hperm, hsort, hprs, hb2⟩
              have HQ : Hid (SetR w s most (.returned (.tuple #[v, .int .i64 0, .int .i64 0])) w2) := Lib.hid ⟨HBB.out.trans hb2, fun h => absurd (by rw [HX.out]) h, fun _ => ⟨v, x :: t, x, t, rfl, rfl, by rw [HPP.out]; exact hperm, hsort, hprs⟩⟩
              clear hperm hsort hprs hb2 HJ
              go_wp2
              go_ret3
              exact HQ.out
            | false =>
              rw [hstar] at c6
              clear hE2 hrm hst hm hjo hstar
              go_wp2_with fail
              refine HJ.out.mono ?_
              rintro e w2 ⟨v, l', x, t, rfl, rfl, hperm, hsort, hprs, hb2⟩
              have HQ : Hid (SetR w s most (.returned (.tuple #[v, .int .i64 0, .int .i64 0])) w2) := Lib.hid ⟨HBB.out.trans hb2, fun h => absurd (by rw [HX.out]) h, fun _ => ⟨v, x :: t, x, t, rfl, rfl, by rw [HPP.out]; exact hperm, hsort, hprs⟩⟩
              clear hperm hsort hprs hb2 HJ
              go_wp2
              go_ret3
              exact HQ.out
end Go.Proofs.YtpmakbjchepkmaaDoor
