/- Box: a set's reader: end, between, digit. -/
import Derived.Test.YtpmakbjchepkmaaDoorBG1
namespace Go.Proofs.YtpmakbjchepkmaaDoor
open Go Go.RowKit

/-- What became of a reader. -/
def RdNow (D : Nat) (w : World) (v : Value) (r : Rd) (e : Ending) (w' : World) : Prop := ∃ pv', e = .returned v ∧ RdAt w' D pv' r ∧ Below D w w'
set_option maxHeartbeats 4000000 in
set_option maxRecDepth 100000 in
theorem fin_any (w : World) (D : Nat) (pv : Value) (r : Rd) (h : RdAt w D pv r) (hn : r.parts.length ≤ 140737488000) :
    Calls Tryd.prog 11 #[.pointer (some ⟨D, 0, none⟩)] w (RdNow D w (.tuple #[]) r.fin) := by
  obtain ⟨most, far, fr, x, y, sec, parts, starry⟩ := r
  have c3 := h.cell 3
  have c4 := h.cell 4
  simp only [rdC] at c3 c4
  simp at c3 c4
  obtain ⟨pa, pc, rfl⟩ := h.shape
  simp only at h
  have HH := Lib.hid h
  have HN := Lib.hid hn
  clear h hn
  have htri : (x < y ∧ x ≤ y ∧ ¬ y < x ∧ ¬ y ≤ x) ∨ x = y ∨ (y < x ∧ y ≤ x ∧ ¬ x < y ∧ ¬ x ≤ y) := by omega
  rcases htri with ⟨t1, t2, t3, t4⟩ | rfl | ⟨t1, t2, t3, t4⟩
  · have hmm : (min x y, max x y) = (x, y) := by rw [Prod.mk.injEq]; omega
    have hfin : Rd.fin ⟨most, far, fr, x, y, sec, parts, starry⟩ = ⟨most, far, fr, x, y, false, parts ++ [(x, y)], starry⟩ := by unfold Rd.fin; simp only [hmm]
    rw [hfin]
    clear hmm hfin
    go_enter Tryd.func11, Tryd.ntmps11
    go_wp2_with fail
    go_quiet (fail)
    have h1 : RdAt (w.drewN nq) D (.slice pa parts.length pc) ⟨most, far, fr, x, y, sec, parts, starry⟩ := ⟨HH.out.blk, HH.out.own⟩
    have hb1 : Below D w (w.drewN nq) := ⟨rfl, rfl, rfl, Nat.le_refl _, fun _ _ => rfl⟩
    generalize w.drewN nq = W at *
    obtain ⟨a, c, w', hr, ho, hg, _⟩ := appP W (x, y) h1.own h1.lt (by have := HN.out; simp only at this ⊢; omega)
    have hlt := h1.lt
    have hne : (Value.slice pa parts.length pc).ownBlock ≠ some D := fun e => by have := (World.ownsRow.lt h1.own D e).1; omega
    have hblk : w'.heap[D]? = some (.cells (rdC ⟨most, far, fr, x, y, sec, parts, starry⟩ (.slice pa parts.length pc)) 33 (0, 0)) := (hg.block D hlt (fun e => hne e.symm)).trans h1.blk
    have hll : (parts ++ [(x, y)]).length = parts.length + 1 := by simp
    have h2 : RdAt (w'.setCell ⟨D, 6, none⟩ (.slice a (parts.length + 1) c)) D (.slice a (parts.length + 1) c) ⟨most, far, fr, x, y, sec, parts ++ [(x, y)], starry⟩ := by
      refine ⟨?_, own_setD (by rw [← hll]; exact ho) (by omega) _ _⟩
      rw [heap_setCell_same w' D 6 _ _ _ hblk]
      simp [rdC]
    have h3 := h2.set 5 (.bool false) ⟨most, far, fr, x, y, false, parts ++ [(x, y)], starry⟩ (by simp [rdC]) rfl
    have hB : Below D w (w'.setCell ⟨D, 6, none⟩ (.slice a (parts.length + 1) c)) := (hb1.grown hg (by omega) (fun k hk => by have := (World.ownsRow.lt h1.own k hk).1; omega)).setCell (Nat.le_refl _) _
    have e6 := h1.cell 6
    have d6 : w'.cell? ⟨D, 6, none⟩ = some (.slice pa parts.length pc) := by rw [cell_of_row _ _ _ _ _ _ hblk]; simp [rdC]
    have g6 : w'.frozen? ⟨D, 6, none⟩ = false := frozen_of_row _ _ _ _ _ hblk
    have d5 := h2.cell 5
    have g5 := h2.free 5
    simp only [rdC] at e6 d5
    simp at e6 d5
    rw [hll] at hr
    have HR := Lib.hid hr
    have H3 := Lib.hid h3
    have HB := Lib.hid hB
    clear hr h3 hB h2 hblk hg ho h1 hb1 HH c3 c4 hll
    go_wp2_with (at_builtin; refine wpList_append_run _ rfl _ _ 22 22 rfl _ _ rfl rfl _ w' HR.out ?_)
    exact bodyPost_end (results_none rfl _ _ _) rfl ⟨_, rfl, H3.out, HB.out.trans (setCell_belowD _ _ _ _)⟩
  · have hmm : (min x x, max x x) = (x, x) := by rw [Prod.mk.injEq]; omega
    have hfin : Rd.fin ⟨most, far, fr, x, x, sec, parts, starry⟩ = ⟨most, far, fr, x, x, false, parts ++ [(x, x)], starry⟩ := by unfold Rd.fin; simp only [hmm]
    rw [hfin]
    clear hmm hfin
    go_enter Tryd.func11, Tryd.ntmps11
    go_wp2_with fail
    go_quiet (fail)
    have h1 : RdAt (w.drewN nq) D (.slice pa parts.length pc) ⟨most, far, fr, x, x, sec, parts, starry⟩ := ⟨HH.out.blk, HH.out.own⟩
    have hb1 : Below D w (w.drewN nq) := ⟨rfl, rfl, rfl, Nat.le_refl _, fun _ _ => rfl⟩
    generalize w.drewN nq = W at *
    obtain ⟨a, c, w', hr, ho, hg, _⟩ := appP W (x, x) h1.own h1.lt (by have := HN.out; simp only at this ⊢; omega)
    have hlt := h1.lt
    have hne : (Value.slice pa parts.length pc).ownBlock ≠ some D := fun e => by have := (World.ownsRow.lt h1.own D e).1; omega
    have hblk : w'.heap[D]? = some (.cells (rdC ⟨most, far, fr, x, x, sec, parts, starry⟩ (.slice pa parts.length pc)) 33 (0, 0)) := (hg.block D hlt (fun e => hne e.symm)).trans h1.blk
    have hll : (parts ++ [(x, x)]).length = parts.length + 1 := by simp
    have h2 : RdAt (w'.setCell ⟨D, 6, none⟩ (.slice a (parts.length + 1) c)) D (.slice a (parts.length + 1) c) ⟨most, far, fr, x, x, sec, parts ++ [(x, x)], starry⟩ := by
      refine ⟨?_, own_setD (by rw [← hll]; exact ho) (by omega) _ _⟩
      rw [heap_setCell_same w' D 6 _ _ _ hblk]
      simp [rdC]
    have h3 := h2.set 5 (.bool false) ⟨most, far, fr, x, x, false, parts ++ [(x, x)], starry⟩ (by simp [rdC]) rfl
    have hB : Below D w (w'.setCell ⟨D, 6, none⟩ (.slice a (parts.length + 1) c)) := (hb1.grown hg (by omega) (fun k hk => by have := (World.ownsRow.lt h1.own k hk).1; omega)).setCell (Nat.le_refl _) _
    have e6 := h1.cell 6
    have d6 : w'.cell? ⟨D, 6, none⟩ = some (.slice pa parts.length pc) := by rw [cell_of_row _ _ _ _ _ _ hblk]; simp [rdC]
    have g6 : w'.frozen? ⟨D, 6, none⟩ = false := frozen_of_row _ _ _ _ _ hblk
    have d5 := h2.cell 5
    have g5 := h2.free 5
    simp only [rdC] at e6 d5
    simp at e6 d5
    rw [hll] at hr
    have HR := Lib.hid hr
    have H3 := Lib.hid h3
    have HB := Lib.hid hB
    clear hr h3 hB h2 hblk hg ho h1 hb1 HH c3 c4 hll
    go_wp2_with (at_builtin; refine wpList_append_run _ rfl _ _ 22 22 rfl _ _ rfl rfl _ w' HR.out ?_)
    exact bodyPost_end (results_none rfl _ _ _) rfl ⟨_, rfl, H3.out, HB.out.trans (setCell_belowD _ _ _ _)⟩
  · have hmm : (min x y, max x y) = (y, x) := by rw [Prod.mk.injEq]; omega
    have hfin : Rd.fin ⟨most, far, fr, x, y, sec, parts, starry⟩ = ⟨most, far, fr, x, y, false, parts ++ [(y, x)], starry⟩ := by unfold Rd.fin; simp only [hmm]
    rw [hfin]
    clear hmm hfin
    go_enter Tryd.func11, Tryd.ntmps11
    go_wp2_with fail
    go_quiet (fail)
    have h1 : RdAt (w.drewN nq) D (.slice pa parts.length pc) ⟨most, far, fr, x, y, sec, parts, starry⟩ := ⟨HH.out.blk, HH.out.own⟩
    have hb1 : Below D w (w.drewN nq) := ⟨rfl, rfl, rfl, Nat.le_refl _, fun _ _ => rfl⟩
    generalize w.drewN nq = W at *
    obtain ⟨a, c, w', hr, ho, hg, _⟩ := appP W (y, x) h1.own h1.lt (by have := HN.out; simp only at this ⊢; omega)
    have hlt := h1.lt
    have hne : (Value.slice pa parts.length pc).ownBlock ≠ some D := fun e => by have := (World.ownsRow.lt h1.own D e).1; omega
    have hblk : w'.heap[D]? = some (.cells (rdC ⟨most, far, fr, x, y, sec, parts, starry⟩ (.slice pa parts.length pc)) 33 (0, 0)) := (hg.block D hlt (fun e => hne e.symm)).trans h1.blk
    have hll : (parts ++ [(y, x)]).length = parts.length + 1 := by simp
    have h2 : RdAt (w'.setCell ⟨D, 6, none⟩ (.slice a (parts.length + 1) c)) D (.slice a (parts.length + 1) c) ⟨most, far, fr, x, y, sec, parts ++ [(y, x)], starry⟩ := by
      refine ⟨?_, own_setD (by rw [← hll]; exact ho) (by omega) _ _⟩
      rw [heap_setCell_same w' D 6 _ _ _ hblk]
      simp [rdC]
    have h3 := h2.set 5 (.bool false) ⟨most, far, fr, x, y, false, parts ++ [(y, x)], starry⟩ (by simp [rdC]) rfl
    have hB : Below D w (w'.setCell ⟨D, 6, none⟩ (.slice a (parts.length + 1) c)) := (hb1.grown hg (by omega) (fun k hk => by have := (World.ownsRow.lt h1.own k hk).1; omega)).setCell (Nat.le_refl _) _
    have e6 := h1.cell 6
    have d6 : w'.cell? ⟨D, 6, none⟩ = some (.slice pa parts.length pc) := by rw [cell_of_row _ _ _ _ _ _ hblk]; simp [rdC]
    have g6 : w'.frozen? ⟨D, 6, none⟩ = false := frozen_of_row _ _ _ _ _ hblk
    have d5 := h2.cell 5
    have g5 := h2.free 5
    simp only [rdC] at e6 d5
    simp at e6 d5
    rw [hll] at hr
    have HR := Lib.hid hr
    have H3 := Lib.hid h3
    have HB := Lib.hid hB
    clear hr h3 hB h2 hblk hg ho h1 hb1 HH c3 c4 hll
    go_wp2_with (at_builtin; refine wpList_append_run _ rfl _ _ 22 22 rfl _ _ rfl rfl _ w' HR.out ?_)
    exact bodyPost_end (results_none rfl _ _ _) rfl ⟨_, rfl, H3.out, HB.out.trans (setCell_belowD _ _ _ _)⟩
end Go.Proofs.YtpmakbjchepkmaaDoor
