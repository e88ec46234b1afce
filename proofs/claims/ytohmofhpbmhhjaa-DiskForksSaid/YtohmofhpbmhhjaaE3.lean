/- Disk, the document's own: set. -/
import Derived.Test.YtohmofhpbmhhjaaE2
namespace Go.Proofs.Ytohmofhpbmhhjaa
open Go Go.RowKit

set_option maxHeartbeats 1000000 in
theorem rset_any {O : Nat → Prop} {w : World} {D : Nat} {pv lv : Value} {s : St} (h : RDsk O w D pv lv s) (i : Nat) (hi : i < s.sure.length) (q : List UInt8) (hq : q.length = 64) :
    Calls Try.prog 40 #[.pointer (some ⟨D, 0, none⟩), .int .i64 (i : Int), .string ⟨q.toArray⟩] w fun e w' => e = .returned (.tuple #[]) ∧ RNow O w D { s with sure := s.sure.set i q } w' := by
  have hD := h.lt D h.memD
  have hsn := h.ok.some
  have hfew := h.ok.few
  obtain ⟨i0, hi0, hz0, hz1, hz2⟩ := info_parts infoS9
  obtain ⟨g, c, w2, hrun, hown, hb, hg⟩ := app_copy (P := Try.prog) w 70 9 i0 _ 1 16 Try.underlying70 hi0 hz0 hz1 hz2 rfl (by decide) (by decide) pv s.sure.length _ h.pages (fun e => by omega) strC_cell (by omega)
  have hgl := row_lt hown g rfl
  have hgc : w2.cell? ⟨g, i, none⟩ = some (.string ⟨(s.sure[i]).toArray⟩) := by
    have := World.ownsRow.cells hown (g := g) rfl (i * 1 + 0) _ (flat_at strC 1 s.sure i (fun _ _ => rfl) _ (List.getElem?_eq_getElem hi) 0 _ rfl)
    rwa [Addr.add_mid, Nat.zero_add, Nat.mul_one] at this
  have hgf : w2.frozen? ⟨g, i, none⟩ = false := by
    rcases hown.2 with ⟨h0, _⟩ | ⟨g', cap', cur, hv, _, hgb, _⟩
    · cases h0
    · cases hv
      exact frozen_of_row _ _ _ _ _ hgb
  have hb1 : Below w.heap.size w (w.alloc (.cells #[] 9)) := (Below.refl _ w).alloc (Nat.le_refl _) _
  have c0 := (hb1.cell (p := ⟨D, 0, none⟩) hD).trans h.c0
  have hblk2 := (hb.block D hD).trans h.blk
  have c02 : w2.cell? ⟨D, 0, none⟩ = some pv := by rw [cell_of_row _ _ _ _ _ _ hblk2]; rfl
  have f02 : w2.frozen? ⟨D, 0, none⟩ = false := frozen_of_row _ _ _ _ _ hblk2
  have hown3 := owns_set hown i [.string ⟨q.toArray⟩] (by simp only [List.length_cons, List.length_nil]; omega)
  rw [set_one] at hown3
  have hov : over (s.sure.flatMap strC) i [.string ⟨q.toArray⟩] = (s.sure.set i q).flatMap strC := by
    have := flat_set strC 1 s.sure i (fun _ _ => rfl) q rfl hi
    rwa [Nat.mul_one] at this
  rw [hov] at hown3
  have hb3 : Below w.heap.size w (w2.setCell ⟨g, i, none⟩ (.string ⟨q.toArray⟩)) := (((Fr.of_below (fun k => w.heap.size ≤ k) hb).setCell ⟨g, i, none⟩ (Or.inl hg) _)).below (Nat.le_refl _) (fun _ h => h)
  have hfin := h.setted hb3 g c (s.sure.set i q) (by simp) (fun p hp => by
    rcases List.mem_or_eq_of_mem_set hp with h0 | h0
    · exact h.ok.pages p h0
    · rw [h0]; exact hq) hown3 hg
  have hgD : g ≠ D := by omega
  have hDg : D ≠ g := by omega
  obtain ⟨pg, pc, rfl, _⟩ := h.pshape
  have FIN := Lib.hid hfin
  have RUN := Lib.hid hrun
  clear hfin hrun hown hown3 hov hb3 hb hb1 hblk2 h
  generalize s.sure[i] = si at *
  generalize s.sure.length = n at *
  go_enter Try.func40, Try.ntmps40
  go_wp2_with (at_builtin; refine wpList_runs (some 12) rfl rfl (ex_append (.tmp 7) (.tmp 11) 70 70 rfl _ _ _ rfl rfl RUN.out) ?_)
  exact bodyPost_end (results_none rfl _ _ _) rfl ⟨rfl, FIN.out⟩
end Go.Proofs.Ytohmofhpbmhhjaa
