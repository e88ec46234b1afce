/- Deed: DeedChecks. -/
import Derived.Test.YtjljbnilckkjnaaDoorGR6
namespace Go.Proofs.YtjljbnilckkjnaaDoor
open Go Go.RowKit

set_option maxHeartbeats 4000000 in
set_option maxRecDepth 100000 in
theorem walk_checks (d : Di) (pv : Value) (w : World) (hp : Byz w pv d.bytes) (hl : d.bytes.length ≤ 9223372036854775807) (hs : d.user.size + d.box.size + d.dest.size ≤ 1048576) (hT : Tabs w) :
    Calls Tryd.prog 4 #[diV d pv] w fun e w' => e = .returned (.bool true) ∧ Below w.heap.size w w' := by
  obtain ⟨pa, pc, rfl⟩ := hp.1
  obtain ⟨wb, hwb⟩ : ∃ wb, wb = w.alloc (.cells (diC d (.slice pa d.bytes.length pc)) 28) := ⟨_, rfl⟩
  have hb0 : Below w.heap.size w wb := by rw [hwb]; exact (Below.refl _ w).alloc (Nat.le_refl _) _
  have hrow : wb.heap[w.heap.size]? = some (.cells (diC d (.slice pa d.bytes.length pc)) 28 (0, 0)) := by rw [hwb]; exact heap_alloc_new w _
  have hNlt := (Array.getElem?_eq_some_iff.1 hrow).1
  have HROW : Hid (∀ u, Below wb.heap.size wb u → u.heap[w.heap.size]? = some (.cells (diC d (.slice pa d.bytes.length pc)) 28 (0, 0))) := Lib.hid (fun u hu => below_row hrow hu hNlt)
  have HTT : Hid (∀ u, Below wb.heap.size wb u → Tabs u) := Lib.hid (fun u hu => (hT.below hb0 (Nat.le_refl _)).below hu (Nat.le_refl _))
  have H1 : Hid (∀ u, Below wb.heap.size wb u → Calls Tryd.prog 18 #[.agg (diC d (.slice pa d.bytes.length pc))] u fun e w' => e = .returned (.int .i64 (ckDeed d)) ∧ Below wb.heap.size wb w') := Lib.hid (fun u hu => bel_bring hu (check_deed d _ u ((hp.below hb0).below hu) hl (by omega) (HTT.out u hu)))
  have H2 : Hid (∀ u, Below wb.heap.size wb u → Calls Tryd.prog 19 #[.agg (diC d (.slice pa d.bytes.length pc))] u fun e w' => e = .returned (.int .i64 (ckDeed d)) ∧ Below wb.heap.size wb w') := Lib.hid (fun u hu => bel_bring hu (refCheckD d _ u ((hp.below hb0).below hu) hl (by omega) (by omega) (by omega) (HTT.out u hu)))
  have HK : Hid (∀ u, Below wb.heap.size wb u → u.cell? ⟨w.heap.size, 0, none⟩ = some (.int .i64 d.act) ∧ u.cell? ⟨w.heap.size, 1, none⟩ = some (.string d.user) ∧ u.cell? ⟨w.heap.size, 2, none⟩ = some (.string d.box) ∧ u.cell? ⟨w.heap.size, 3, none⟩ = some (.string d.dest) ∧ u.cell? ⟨w.heap.size, 4, none⟩ = some (.int .i64 d.uid) ∧ u.cell? ⟨w.heap.size, 5, none⟩ = some (.int .i64 d.how) ∧ u.cell? ⟨w.heap.size, 6, none⟩ = some (.int .u8 (d.flags.toNat : Int)) ∧ u.cell? ⟨w.heap.size, 7, none⟩ = some (.int .i64 d.shard) ∧ u.cell? ⟨w.heap.size, 8, none⟩ = some (.int .i64 d.epoch) ∧ u.cell? ⟨w.heap.size, 9, none⟩ = some (.slice pa d.bytes.length pc)) := Lib.hid (fun u hu => by
    have hr := HROW.out u hu
    exact ⟨cell_of_row _ _ _ _ _ _ hr, cell_of_row _ _ _ _ _ _ hr, cell_of_row _ _ _ _ _ _ hr, cell_of_row _ _ _ _ _ _ hr, cell_of_row _ _ _ _ _ _ hr, cell_of_row _ _ _ _ _ _ hr, cell_of_row _ _ _ _ _ _ hr, cell_of_row _ _ _ _ _ _ hr, cell_of_row _ _ _ _ _ _ hr, cell_of_row _ _ _ _ _ _ hr⟩)
  have HLV : Hid (∀ u, Below wb.heap.size wb u → Calls Tryd.prog 11 #[] u fun e w' => e = .returned (.bool true) ∧ Below wb.heap.size wb w') := Lib.hid (fun u hu => bel_bring hu (live_any u (HTT.out u hu)))
  have HFIN : Hid (∀ u, Below wb.heap.size wb u → Below w.heap.size w u) := Lib.hid (fun u hu => hb0.trans (hu.mono hb0.size))
  have HWB := Lib.hid (show w.alloc (.cells (diC d (.slice pa d.bytes.length pc)) 28) = wb from hwb.symm)
  have HB := Lib.hid (Below.refl wb.heap.size wb)
  generalize ckDeed d = E at *
  clear hwb hb0 hrow hNlt hp hl hs hT
  unfold diV
  rw [show diC d (.slice pa d.bytes.length pc) = #[.int .i64 d.act, .string d.user, .string d.box, .string d.dest, .int .i64 d.uid, .int .i64 d.how, .int .u8 (d.flags.toNat : Int), .int .i64 d.shard, .int .i64 d.epoch, .slice pa d.bytes.length pc] from rfl] at *
  go_enter Tryd.func4, Tryd.ntmps4
  go_wp2_with (first | rw [HWB.out])
  have hbw := HB.out
  go_region_held3 (fun u => Below wb.heap.size wb u ∧ u.cell? ⟨w.heap.size, 0, none⟩ = some (.int .i64 d.act) ∧ u.cell? ⟨w.heap.size, 1, none⟩ = some (.string d.user) ∧ u.cell? ⟨w.heap.size, 2, none⟩ = some (.string d.box) ∧ u.cell? ⟨w.heap.size, 3, none⟩ = some (.string d.dest) ∧ u.cell? ⟨w.heap.size, 4, none⟩ = some (.int .i64 d.uid) ∧ u.cell? ⟨w.heap.size, 5, none⟩ = some (.int .i64 d.how) ∧ u.cell? ⟨w.heap.size, 6, none⟩ = some (.int .u8 (d.flags.toNat : Int)) ∧ u.cell? ⟨w.heap.size, 7, none⟩ = some (.int .i64 d.shard) ∧ u.cell? ⟨w.heap.size, 8, none⟩ = some (.int .i64 d.epoch) ∧ u.cell? ⟨w.heap.size, 9, none⟩ = some (.slice pa d.bytes.length pc)) (first | exact ⟨hbw, HK.out _ hbw⟩ | exact ⟨hbw.drew, HK.out _ hbw.drew⟩ | exact ⟨by assumption, HK.out _ (by assumption)⟩)
    (first
      | (go_at_call 11; ((with_reducible refine (HLV.out _ (by first | assumption | exact hbw.drew)).mono ?_); rintro e wn ⟨rfl, hBn⟩))
      | (go_at_call 18; ((with_reducible refine (H1.out _ (by first | assumption | exact hbw.drew)).mono ?_); rintro e wn ⟨rfl, hBn⟩))
      | (go_at_call 19; ((with_reducible refine (H2.out _ (by first | assumption | exact hbw.drew)).mono ?_); rintro e wn ⟨rfl, hBn⟩)))
  all_goals
    have HF := Lib.hid (HFIN.out _ (by assumption))
    go_wp2
    go_ret
    exact ⟨ret_bool (by simp), HF.out⟩
end Go.Proofs.YtjljbnilckkjnaaDoor
