/- Bag: what the law's do tells of the two. -/
import Derived.Test.YtdcpdeiljabkaaaN15
namespace Go.Proofs.Ytdcpdeiljabkaaa
open Go Go.RowKit

set_option maxRecDepth 100000 in
set_option maxHeartbeats 8000000 in
theorem do_lose {E : Nat → Prop} {N : Nat} {w0 w : World} {p q : Nat} {b : Bg} {c : Nat} (H : Two E (fun _ => False) N w0 w p q b b c) (d : Cl) (bv : Value) (h1 : d.act = 2) (hby : Byz w0 bv d.x.bytes) (hby0 : w0.heap.size = N) (hlo : d.x.bytes ≠ [] → ∀ g, bv.ownBlock = some g → g < N) (hbl : d.x.bytes.length ≤ 140737488351232) (hib : d.i ≤ 9223372036854775807) (hc : c ≤ 800) :
    Calls Try.prog 19 #[.pointer (some ⟨p, 0, none⟩), .pointer (some ⟨q, 0, none⟩), .agg #[.int .i64 d.act, .int .i64 d.x.src, .int .i64 d.x.dst, bv, .int .i64 d.i, .bool d.keep]] w fun e w' => e = .returned (.bool true) ∧ Two E (fun _ => False) N w0 w' p q ((b.lose d.i).2) ((b.lose d.i).2) (c + 2) ∧ Same2 E w w' := by
  obtain ⟨act, ⟨src, dst, bs⟩, i, keep⟩ := d
  dsimp only at h1 hby hlo hbl hib ⊢
  obtain ⟨ba, bc, rfl⟩ := hby.1
  obtain ⟨wb, hwb⟩ : ∃ wb, w.alloc (.cells #[.int .i64 act, .int .i64 src, .int .i64 dst, .slice ba bs.length bc, .int .i64 i, .bool keep] 36) = wb := ⟨_, rfl⟩
  have hb : Below w.heap.size w wb := by rw [← hwb]; exact (Below.refl _ w).alloc (Nat.le_refl _) _
  have hbx : wb.heap[w.heap.size]? = some (.cells #[.int .i64 act, .int .i64 src, .int .i64 dst, .slice ba bs.length bc, .int .i64 i, .bool keep] 36 (0, 0)) := by rw [← hwb]; exact heap_alloc_new w _
  have hsb : wb.heap.size = w.heap.size + 1 := by rw [← hwb]; simp
  have k0 : wb.cell? ⟨w.heap.size, 0, none⟩ = some (.int .i64 act) := cell_of_row _ _ _ _ _ _ hbx
  have hns := H.ns
  have HLT := Lib.hid H.elt

  have q0 : (act == 0) = false := by rw [h1]; rfl
  have q1 : (act == 1) = false := by rw [h1]; rfl
  have q2 : (act == 2) = true := by rw [h1]; rfl
  have HW := Lib.hid (H.widen hb (fun k => k = w.heap.size) (fun k e => ⟨by omega, by omega⟩))
  have hbd : Below wb.heap.size wb wb.drew := (Below.refl _ wb).drew
  have HW5 := Lib.hid (HW.out.below hbd)
  have HC := Lib.hid (two_lose HW5.out i (by omega))
  have BX := Lib.hid hbx
  have hld : Hid (∀ W : World, W.heap[w.heap.size]? = some (.cells #[.int .i64 act, .int .i64 src, .int .i64 dst, .slice ba bs.length bc, .int .i64 i, .bool keep] 36 (0, 0)) → (Instr.loadAt 3 (.pointer (some ⟨w.heap.size, 4, none⟩))).run Try.prog W = .ok (.int .i64 i) W) := Lib.hid (fun W hW => run_load_int W _ _ _ (cell_of_row _ _ _ _ _ _ hW))
  have HB := Lib.hid hb
  clear hb hbx hsb hbd hby hlo hbl HW HW5 h1 H hns
  go_enter Try.func19, Try.ntmps19
  go_wp2_with fail
  clear k0 hwb q0 q1 q2
  refine wp_region_held_drew (S := fun W : World => W.heap[w.heap.size]? = some (.cells #[.int .i64 act, .int .i64 src, .int .i64 dst, .slice ba bs.length bc, .int .i64 i, .bool keep] 36 (0, 0))) (by kernel_rfl) BX.out (fun _ => ?_)
  refine hh_take 0 (some 119) (.pointer (some ⟨p, 0, none⟩)) rfl rfl (by kernel_rfl) (by kernel_rfl) (by kernel_rfl) (fun _ _ _ h => h) rfl (fun _ _ => rfl) BX.out ?_
  simp only [Act.put, List.setIfInBounds_toArray, List.set_cons_zero, List.set_cons_succ]
  refine hh_take 1 (some 120) (.pointer (some ⟨w.heap.size, 4, none⟩)) rfl rfl (by kernel_rfl) (by kernel_rfl) (by kernel_rfl) (fun _ _ _ h => h) rfl (fun _ _ => by kernel_rfl) BX.out ?_
  simp only [Act.put, List.setIfInBounds_toArray, List.set_cons_zero, List.set_cons_succ]
  refine hh_take 2 (some 121) (.int .i64 i) rfl rfl (by kernel_rfl) (by kernel_rfl) (by kernel_rfl) (fun _ _ _ h => h) rfl (fun W hW => ex_load 3 (.tmp 120) rfl _ _ rfl (hld.out W hW)) BX.out ?_
  simp only [Act.put, List.setIfInBounds_toArray, List.set_cons_zero, List.set_cons_succ]
  refine hh_take 4 (some 123) (.pointer (some ⟨q, 0, none⟩)) rfl rfl (by kernel_rfl) (by kernel_rfl) (by kernel_rfl) (fun _ _ _ h => h) rfl (fun _ _ => rfl) BX.out ?_
  simp only [Act.put, List.setIfInBounds_toArray, List.set_cons_zero, List.set_cons_succ]
  refine hh_take 5 (some 124) (.pointer (some ⟨w.heap.size, 4, none⟩)) rfl rfl (by kernel_rfl) (by kernel_rfl) (by kernel_rfl) (fun _ _ _ h => h) rfl (fun _ _ => by kernel_rfl) BX.out ?_
  simp only [Act.put, List.setIfInBounds_toArray, List.set_cons_zero, List.set_cons_succ]
  refine hh_take 6 (some 125) (.int .i64 i) rfl rfl (by kernel_rfl) (by kernel_rfl) (by kernel_rfl) (fun _ _ _ h => h) rfl (fun W hW => ex_load 3 (.tmp 124) rfl _ _ rfl (hld.out W hW)) BX.out ?_
  simp only [Act.put, List.setIfInBounds_toArray, List.set_cons_zero, List.set_cons_succ]
  refine hh_one 3 (by kernel_rfl) rfl rfl (fun K hK => wp_callsh (some 122) rfl 12 _ (ex_call2 12 (.tmp 119) (.tmp 121) _ rfl _ _ rfl rfl (fun _ _ => rfl)) (.int .i64 (b.lose i).1) _ HC.out (fun W1 hR1 => hK _ _ ((hR1.2 _ (Or.inr rfl)).trans BX.out) ?_))
  clear hK K
  simp only [Act.put, List.setIfInBounds_toArray, List.set_cons_zero, List.set_cons_succ]
  have B1 := Lib.hid ((hR1.2 _ (Or.inr rfl)).trans BX.out)
  have S1 := Lib.hid hR1.2
  have HC2 := Lib.hid (two_rlose hR1.1 i hib (by omega))
  clear hR1
  refine hh_one 7 (by kernel_rfl) rfl rfl (fun K hK => wp_callsh (some 126) rfl 29 _ (ex_call2 29 (.tmp 123) (.tmp 125) _ rfl _ _ rfl rfl (fun _ _ => rfl)) (.int .i64 (b.lose i).1) _ HC2.out (fun W2 hR2 => hK _ _ ((hR2.2 _ (Or.inr rfl)).trans B1.out) ?_))
  clear hK K
  simp only [Act.put, List.setIfInBounds_toArray, List.set_cons_zero, List.set_cons_succ]
  have B2 := Lib.hid ((hR2.2 _ (Or.inr rfl)).trans B1.out)
  have HE : Hid (Two E (fun _ => False) N w0 W2 p q (b.lose i).2 (b.lose i).2 (c + 2) ∧ Same2 E w W2) := Lib.hid ⟨hR2.1.weak E _ (fun k h => Or.inl h) (fun k h => h.elim), fun g hg => ((hR2.2 g (Or.inl hg)).trans (S1.out g (Or.inl hg))).trans (HB.out.block g (HLT.out g hg))⟩
  obtain ⟨z, hz⟩ : ∃ z, (b.lose i).2 = z := ⟨_, rfl⟩
  rw [hz] at HE
  have HZ := Lib.hid hz
  clear hR2 hz
  refine hh_take 8 (some 127) (.bool true) rfl rfl (by kernel_rfl) (by kernel_rfl) (by kernel_rfl) (fun _ _ _ h => h) rfl (fun W _ => ex_eqlI 29 29 (.tmp 122) (.tmp 126) .i64 _ rfl rfl rfl) B2.out ?_
  simp only [Act.put, List.setIfInBounds_toArray, List.set_cons_zero, List.set_cons_succ]
  refine hh_take 9 (some 7) (.bool true) rfl rfl (by kernel_rfl) (by kernel_rfl) (by kernel_rfl) (fun _ _ _ h => h) rfl (fun _ _ => rfl) B2.out ?_
  simp only [Act.put, List.setIfInBounds_toArray, List.set_cons_zero, List.set_cons_succ]
  refine wpAnyH_done (by kernel_rfl) ?_ _
  clear B1 B2 BX S1 HC HC2 hld
  have HLN := Lib.hid (fun n => two_len ((HE.out.1).below (drewN_below W2 n)))
  have HRL := Lib.hid (fun n => two_rlen ((HE.out.1).below (drewN_below W2 n)) (by omega))
  have HLO := Lib.hid (fun n => two_lost ((HE.out.1).below (drewN_below W2 n)))
  have hgo := two_gone HE.out.1

  go_wp2_with fail
  go_quiet (first
    | (go_at_call 13; exact Calls.quiet_of_same ((HLN.out _).mono fun _ _ ⟨h1, h2⟩ => ⟨h1, h2.symm⟩))
    | (go_at_call 20; exact Calls.quiet_of_same ((HRL.out _).mono fun _ _ ⟨h1, h2⟩ => ⟨h1, h2.symm⟩))
    | (go_at_call 14; exact Calls.quiet_of_same ((HLO.out _).mono fun _ _ ⟨h1, h2⟩ => ⟨h1, h2.symm⟩)))
  have FIN := Lib.hid (HE.out.1.below (drewN_below _ nq))
  have FS : Hid (Same2 E w (W2.drewN nq)) := Lib.hid HE.out.2
  clear HE HLN HRL HLO hgo
  go_wp2
  go_ret
  exact ⟨rfl, by rw [HZ.out]; exact FIN.out, FS.out⟩
set_option maxRecDepth 100000 in
set_option maxHeartbeats 8000000 in
theorem do_first {E : Nat → Prop} {N : Nat} {w0 w : World} {p q : Nat} {b : Bg} {c : Nat} (H : Two E (fun _ => False) N w0 w p q b b c) (d : Cl) (bv : Value) (h1 : d.act ≠ 0 ∧ d.act ≠ 1 ∧ d.act ≠ 2) (hby : Byz w0 bv d.x.bytes) (hby0 : w0.heap.size = N) (hlo : d.x.bytes ≠ [] → ∀ g, bv.ownBlock = some g → g < N) (hbl : d.x.bytes.length ≤ 140737488351232) (hib : d.i ≤ 9223372036854775807) (hc : c ≤ 800) :
    Calls Try.prog 19 #[.pointer (some ⟨p, 0, none⟩), .pointer (some ⟨q, 0, none⟩), .agg #[.int .i64 d.act, .int .i64 d.x.src, .int .i64 d.x.dst, bv, .int .i64 d.i, .bool d.keep]] w fun e w' => e = .returned (.bool true) ∧ Two E (fun _ => False) N w0 w' p q (b) (b) (c + 2) ∧ Same2 E w w' := by
  obtain ⟨act, ⟨src, dst, bs⟩, i, keep⟩ := d
  dsimp only at h1 hby hlo hbl hib ⊢
  obtain ⟨ba, bc, rfl⟩ := hby.1
  obtain ⟨wb, hwb⟩ : ∃ wb, w.alloc (.cells #[.int .i64 act, .int .i64 src, .int .i64 dst, .slice ba bs.length bc, .int .i64 i, .bool keep] 36) = wb := ⟨_, rfl⟩
  have hb : Below w.heap.size w wb := by rw [← hwb]; exact (Below.refl _ w).alloc (Nat.le_refl _) _
  have hbx : wb.heap[w.heap.size]? = some (.cells #[.int .i64 act, .int .i64 src, .int .i64 dst, .slice ba bs.length bc, .int .i64 i, .bool keep] 36 (0, 0)) := by rw [← hwb]; exact heap_alloc_new w _
  have hsb : wb.heap.size = w.heap.size + 1 := by rw [← hwb]; simp
  have k0 : wb.cell? ⟨w.heap.size, 0, none⟩ = some (.int .i64 act) := cell_of_row _ _ _ _ _ _ hbx
  have hns := H.ns
  have HLT := Lib.hid H.elt

  have q0 : (act == 0) = false := beq_eq_false_iff_ne.2 h1.1
  have q1 : (act == 1) = false := beq_eq_false_iff_ne.2 h1.2.1
  have q2 : (act == 2) = false := beq_eq_false_iff_ne.2 h1.2.2
  have HW := Lib.hid (H.widen hb (fun k => k = w.heap.size) (fun k e => ⟨by omega, by omega⟩))
  have hc1 := two_first HW.out i
  have hc2 := two_rfirst HW.out i (by omega)
  obtain ⟨F1, hF1⟩ : ∃ z, (firstF i 0 b.us).1 = z := ⟨_, rfl⟩
  obtain ⟨F2, hF2⟩ : ∃ z, (firstF i 0 b.us).2 = z := ⟨_, rfl⟩
  rw [hF1, hF2] at hc1 hc2
  have HC := Lib.hid hc1
  have HC2 := Lib.hid hc2
  have k4 : wb.cell? ⟨w.heap.size, 4, none⟩ = some (.int .i64 i) := cell_of_row _ _ _ _ _ _ hbx
  have HE : Hid (Two E (fun _ => False) N w0 wb p q b b (c + 2) ∧ Same2 E w wb) := Lib.hid ⟨(HW.out.weak E (fun _ => False) (fun k h => Or.inl h) (fun k h => h.elim)).more (by omega), fun g hg => hb.block g (HLT.out g hg)⟩
  clear hb hbx hsb hby hlo hbl HW h1 H hns hc1 hc2 hF1 hF2 HLT hby0
  go_enter Try.func19, Try.ntmps19
  go_wp2_with fail
  refine HC.out.mono ?_
  rintro e w1 ⟨rfl, rfl⟩
  go_wp2_with fail
  refine HC2.out.mono ?_
  rintro e w1 ⟨rfl, rfl⟩
  clear HC HC2
  have HLN := Lib.hid (fun n => two_len ((HE.out.1).below (drewN_below wb n)))
  have HRL := Lib.hid (fun n => two_rlen ((HE.out.1).below (drewN_below wb n)) (by omega))
  have HLO := Lib.hid (fun n => two_lost ((HE.out.1).below (drewN_below wb n)))
  have hgo := two_gone HE.out.1

  go_wp2_with fail
  go_quiet (first
    | (go_at_call 13; exact Calls.quiet_of_same ((HLN.out _).mono fun _ _ ⟨h1, h2⟩ => ⟨h1, h2.symm⟩))
    | (go_at_call 20; exact Calls.quiet_of_same ((HRL.out _).mono fun _ _ ⟨h1, h2⟩ => ⟨h1, h2.symm⟩))
    | (go_at_call 14; exact Calls.quiet_of_same ((HLO.out _).mono fun _ _ ⟨h1, h2⟩ => ⟨h1, h2.symm⟩)))
  have FIN := Lib.hid (HE.out.1.below (drewN_below _ nq))
  have FS : Hid (Same2 E w (wb.drewN nq)) := Lib.hid HE.out.2
  clear HE HLN HRL HLO hgo
  go_wp2
  go_ret
  exact ⟨rfl, FIN.out, FS.out⟩
set_option maxRecDepth 100000 in
set_option maxHeartbeats 16000000 in
theorem do_take {E : Nat → Prop} {N : Nat} {w0 w : World} {p q : Nat} {b : Bg} {c : Nat} (H : Two E (fun _ => False) N w0 w p q b b c) (d : Cl) (bv : Value) (h1 : d.act = 1) (hby : Byz w0 bv d.x.bytes) (hby0 : w0.heap.size = N) (hlo : d.x.bytes ≠ [] → ∀ g, bv.ownBlock = some g → g < N) (hbl : d.x.bytes.length ≤ 140737488351232) (hib : d.i ≤ 9223372036854775807) (hc : c ≤ 800) :
    Calls Try.prog 19 #[.pointer (some ⟨p, 0, none⟩), .pointer (some ⟨q, 0, none⟩), .agg #[.int .i64 d.act, .int .i64 d.x.src, .int .i64 d.x.dst, bv, .int .i64 d.i, .bool d.keep]] w fun e w' => e = .returned (.bool true) ∧ Two E (fun _ => False) N w0 w' p q (b.took d.i d.keep) (b.took d.i d.keep) (c + 2) ∧ Same2 E w w' := by
  obtain ⟨act, ⟨src, dst, bs⟩, i, keep⟩ := d
  dsimp only at h1 hby hlo hbl hib ⊢
  obtain ⟨ba, bc, rfl⟩ := hby.1
  obtain ⟨wb, hwb⟩ : ∃ wb, w.alloc (.cells #[.int .i64 act, .int .i64 src, .int .i64 dst, .slice ba bs.length bc, .int .i64 i, .bool keep] 36) = wb := ⟨_, rfl⟩
  have hb : Below w.heap.size w wb := by rw [← hwb]; exact (Below.refl _ w).alloc (Nat.le_refl _) _
  have hbx : wb.heap[w.heap.size]? = some (.cells #[.int .i64 act, .int .i64 src, .int .i64 dst, .slice ba bs.length bc, .int .i64 i, .bool keep] 36 (0, 0)) := by rw [← hwb]; exact heap_alloc_new w _
  have hsb : wb.heap.size = w.heap.size + 1 := by rw [← hwb]; simp
  have k0 : wb.cell? ⟨w.heap.size, 0, none⟩ = some (.int .i64 act) := cell_of_row _ _ _ _ _ _ hbx
  have hns := H.ns
  have HLT := Lib.hid H.elt

  have q0 : (act == 0) = false := by rw [h1]; rfl
  have q1 : (act == 1) = true := by rw [h1]; rfl
  have HW := Lib.hid (H.widen hb (fun k => k = w.heap.size) (fun k e => ⟨by omega, by omega⟩))
  have hc1 := two_take HW.out i keep (by omega)
  obtain ⟨bz, hbz⟩ : ∃ z, b.took i keep = z := ⟨_, rfl⟩
  rw [hbz] at hc1 ⊢
  have HC := Lib.hid hc1
  have HBZ := Lib.hid hbz
  clear hc1 hbz
  have BX := Lib.hid hbx
  have HB := Lib.hid hb
  have k4 : wb.cell? ⟨w.heap.size, 4, none⟩ = some (.int .i64 i) := cell_of_row _ _ _ _ _ _ hbx
  have k5 : wb.cell? ⟨w.heap.size, 5, none⟩ = some (.bool keep) := cell_of_row _ _ _ _ _ _ hbx
  clear hb hbx hby hlo hbl HW h1 H hns hby0
  go_enter Try.func19, Try.ntmps19
  go_wp2_with fail
  refine HC.out.mono ?_
  rintro e w1 ⟨x, v, f, rfl, hx, hrow, hT, hS⟩
  clear HC k0 q0 q1 hwb
  obtain ⟨va, vc, rfl, _⟩ := hrow.1.shape
  obtain ⟨wa, hwa⟩ : ∃ wa, w1.alloc (.cells #[.int .i64 x.src, .int .i64 x.dst, .slice va x.bytes.length vc] 34) = wa := ⟨_, rfl⟩
  have hba : Below w1.heap.size w1 wa := by rw [← hwa]; exact (Below.refl _ w1).alloc (Nat.le_refl _) _
  have hra : wa.heap[w1.heap.size]? = some (.cells #[.int .i64 x.src, .int .i64 x.dst, .slice va x.bytes.length vc] 34 (0, 0)) := by rw [← hwa]; exact heap_alloc_new w1 _
  have hsa : wa.heap.size = w1.heap.size + 1 := by rw [← hwa]; simp
  have hbx1 : w1.heap[w.heap.size]? = _ := (hS _ (Or.inr rfl)).trans BX.out
  have hbxa : wa.heap[w.heap.size]? = _ := (hba.block _ (Array.getElem?_eq_some_iff.1 hbx1).1).trans hbx1
  have hT2 := hT.widen hba (fun k => k = w1.heap.size) (fun k e => ⟨by omega, by omega⟩)
  have hc2 := two_rtake hT2 i keep hib (by omega)
  rw [HBZ.out] at hc2
  have n4 : wa.cell? ⟨w.heap.size, 4, none⟩ = some (.int .i64 i) := cell_of_row _ _ _ _ _ _ hbxa
  have n5 : wa.cell? ⟨w.heap.size, 5, none⟩ = some (.bool keep) := cell_of_row _ _ _ _ _ _ hbxa
  have hrowa := hrow.below hba
  have hvlt := hrow.1.lt
  have hvb := row_base hrow
  have hwb1 : w.heap.size < w1.heap.size := (Array.getElem?_eq_some_iff.1 hbx1).1
  have HWA := Lib.hid hwa
  have HC2 := Lib.hid hc2
  have HSZ := Lib.hid hsa
  have HYL := Lib.hid (row_len hrow)
  have HRA := Lib.hid hra
  have HROW := Lib.hid hrowa
  have HX0 := Lib.hid hx
  have HSA : Hid (Same2 E w wa) := Lib.hid (fun j hj => ((hba.block j (by have := HLT.out j hj; omega)).trans (hS j (Or.inl hj))).trans (HB.out.block j (HLT.out j hj)))
  have HD : Hid (∀ g, (Value.slice va x.bytes.length vc).ownBlock = some g → (((False ∨ g = w.heap.size) ∨ OwnV (.slice va x.bytes.length vc) g) ∨ g = w1.heap.size) ∧ g ≠ w1.heap.size ∧ ∀ j, E j → j ≠ g) := Lib.hid (fun g hg => ⟨Or.inl (Or.inr hg), by have := hvlt g hg; omega, fun j hj e => by have h1 := HLT.out j hj; have h2 := hvb g hg; omega⟩)
  clear hx hrow hT hS hba hwa hra hsa hbx1 hbxa hT2 hc2 hrowa hvlt hvb k4 k5 BX
  go_wp2_with (first | rw [HWA.out])
  refine HC2.out.mono ?_
  rintro e w2 ⟨y, u, f2, rfl, hy, hz, hT3, hS3⟩
  obtain ⟨rfl, rfl⟩ : y = x ∧ f2 = f := by
    have := HX0.out.symm.trans hy
    injection this with e1 e2
    exact ⟨e1.symm, e2.symm⟩
  obtain ⟨ua, uc, rfl⟩ := hz.1
  obtain ⟨wc, hwc⟩ : ∃ wc, w2.alloc (.cells #[.int .i64 y.src, .int .i64 y.dst, .slice ua y.bytes.length uc] 34) = wc := ⟨_, rfl⟩
  have hbc : Below w2.heap.size w2 wc := by rw [← hwc]; exact (Below.refl _ w2).alloc (Nat.le_refl _) _
  have hrc : wc.heap[w2.heap.size]? = some (.cells #[.int .i64 y.src, .int .i64 y.dst, .slice ua y.bytes.length uc] 34 (0, 0)) := by rw [← hwc]; exact heap_alloc_new w2 _
  have hra2 : w2.heap[w1.heap.size]? = _ := (hS3 _ (Or.inr rfl)).trans HRA.out
  have hrac : wc.heap[w1.heap.size]? = _ := (hbc.block _ (Array.getElem?_eq_some_iff.1 hra2).1).trans hra2
  have hs2 := hT3.elt _ (Or.inr rfl)
  have hrow2 := (HROW.out.kept (w' := w2) (by have := HSZ.out; omega) (fun g hg => hS3 g (Or.inl (Or.inr hg)))).below hbc
  have hsm := same_any y y _ _ wc hrow2.1.z (hz.below hbc)
  rw [(sameU_iff y y).2 rfl] at hsm
  have HSM := Lib.hid hsm
  have HT := Lib.hid (hT3.below hbc)
  have HROW2 := Lib.hid hrow2
  have HRC := Lib.hid hrc
  have HRAC := Lib.hid hrac
  have HSC : Hid (Same2 E w wc) := Lib.hid (fun j hj => ((hbc.block j (hT3.elt j (Or.inl (Or.inl (Or.inl hj))))).trans (hS3 j (Or.inl (Or.inl (Or.inl hj))))).trans (HSA.out j hj))
  have HWC := Lib.hid hwc
  have HI1 : Hid ((Try.prog.info? 34).map (·.size) = some (#[.int .i64 y.src, .int .i64 y.dst, .slice va y.bytes.length vc] : Array Value).size) := Lib.hid (infoU3 _ rfl)
  have HI2 : Hid ((Try.prog.info? 34).map (·.size) = some (#[.int .i64 y.src, .int .i64 y.dst, .slice ua y.bytes.length uc] : Array Value).size) := Lib.hid (infoU3 _ rfl)
  have hyl : y.bytes.length ≤ 9223372036854775807 := HYL.out
  clear hy hz hT3 hS3 hwc hbc hrc hra2 hrac hs2 hrow2 hsm HC2 HX0 HRA HROW HSA HSZ HYL HBZ HWA
  go_wp2_with (first
    | rw [HWC.out]
    | (refine wpList_load_row rfl 34 _ rfl w1.heap.size rfl 34 _ (0, 0) _ HRAC.out Try.underlying34 rfl HI1.out ?_)
    | (refine wpList_load_row rfl 34 _ rfl w2.heap.size rfl 34 _ (0, 0) _ HRC.out Try.underlying34 rfl HI2.out ?_))
  refine HSM.out.mono ?_
  rintro e w3 ⟨rfl, hb3⟩
  have hrow3 := HROW2.out.below hb3
  have HX : Hid (XorI E (fun k => ((E k ∨ k = w.heap.size) ∨ OwnV (.slice va y.bytes.length vc) k) ∨ k = w1.heap.size) (fun k => ((False ∨ k = w.heap.size) ∨ OwnV (.slice va y.bytes.length vc) k) ∨ k = w1.heap.size) N w0 w w3 p q bz bz (c + 2) w1.heap.size (.slice va y.bytes.length vc) y.bytes.length) := Lib.hid
    ⟨HT.out.below hb3, flips_row hrow3, cell_of_row _ _ _ _ _ _ ((hb3.block _ (Array.getElem?_eq_some_iff.1 HRAC.out).1).trans HRAC.out), fun j hj => (hb3.block j (HT.out.elt j (Or.inl (Or.inl (Or.inl hj))))).trans (HSC.out j hj)⟩
  clear HSM HRAC HRC HWC HT HROW2 HSC hrow3 hb3 HI1 HI2 n4 n5
  go_wp2_with fail

  go_loopw [14] (fun iv wr => ∃ k : Nat, iv = .int .i64 (k : Int) ∧ k ≤ y.bytes.length ∧ Hid (XorI E (fun k => ((E k ∨ k = w.heap.size) ∨ OwnV (.slice va y.bytes.length vc) k) ∨ k = w1.heap.size) (fun k => ((False ∨ k = w.heap.size) ∨ OwnV (.slice va y.bytes.length vc) k) ∨ k = w1.heap.size) N w0 w wr p q bz bz (c + 2) w1.heap.size (.slice va y.bytes.length vc) y.bytes.length)) (fun iv _ => y.bytes.length - (intOf iv).toNat)
  case atStart => exact ⟨0, rfl, Nat.zero_le _, HX⟩
  case round =>
    clear HX
    obtain ⟨k, rfl, hk, hH⟩ := hrel
    by_cases hgo : k < y.bytes.length
    · have hgo' : (k : Int) < (y.bytes.length : Int) := by omega
      obtain ⟨a', c', he, hj⟩ := hH.out.fl
      cases he
      obtain ⟨g, o, he, hj2⟩ := hj (by omega)
      clear hj
      subst he
      obtain ⟨⟨x0, hx0, hc0⟩, hf⟩ := hj2 k (by omega)
      obtain ⟨y0, hy0, hxy⟩ := xor_one x0 hx0
      have kc := hH.out.cell
      have hN := Lib.hid (hH.out.step k y0 hy0 (HD.out g rfl) (fun j hj => Or.inl (Or.inl (Or.inl hj))))
      clear hj2 hH HD
      go_wp2
      go_roundw
      case rel => exact ⟨k + 1, by go_num, by omega, hN⟩
      case measure => simp [intOf]; omega
    · have hgo' : ¬ (k : Int) < (y.bytes.length : Int) := by omega
      have kc := hH.out.cell
      have HE : Hid (Two E (fun _ => False) N w0 wr p q bz bz (c + 2) ∧ Same2 E w wr) := Lib.hid ⟨hH.out.two.weak E (fun _ => False) (fun k h => Or.inl (Or.inl (Or.inl h))) (fun k h => h.elim), hH.out.same⟩
      clear hH HD
      have HLN := Lib.hid (fun n => two_len ((HE.out.1).below (drewN_below wr n)))
      have HRL := Lib.hid (fun n => two_rlen ((HE.out.1).below (drewN_below wr n)) (by omega))
      have HLO := Lib.hid (fun n => two_lost ((HE.out.1).below (drewN_below wr n)))
      have hgo := two_gone HE.out.1

      go_wp2_with fail
      go_quiet (first
        | (go_at_call 13; exact Calls.quiet_of_same ((HLN.out _).mono fun _ _ ⟨h1, h2⟩ => ⟨h1, h2.symm⟩))
        | (go_at_call 20; exact Calls.quiet_of_same ((HRL.out _).mono fun _ _ ⟨h1, h2⟩ => ⟨h1, h2.symm⟩))
        | (go_at_call 14; exact Calls.quiet_of_same ((HLO.out _).mono fun _ _ ⟨h1, h2⟩ => ⟨h1, h2.symm⟩)))
      have FIN := Lib.hid (HE.out.1.below (drewN_below _ nq))
      have FS : Hid (Same2 E w (wr.drewN nq)) := Lib.hid HE.out.2
      clear HE HLN HRL HLO hgo
      go_wp2
      go_ret
      exact ⟨rfl, FIN.out, FS.out⟩
set_option maxRecDepth 100000 in
set_option maxHeartbeats 16000000 in
theorem do_add {E : Nat → Prop} {N : Nat} {w0 w : World} {p q : Nat} {b : Bg} {c : Nat} (H : Two E (fun _ => False) N w0 w p q b b c) (d : Cl) (bv : Value) (h1 : d.act = 0) (hby : Byz w0 bv d.x.bytes) (hby0 : w0.heap.size = N) (hlo : d.x.bytes ≠ [] → ∀ g, bv.ownBlock = some g → g < N) (hbl : d.x.bytes.length ≤ 140737488351232) (hib : d.i ≤ 9223372036854775807) (hc : c ≤ 800) :
    Calls Try.prog 19 #[.pointer (some ⟨p, 0, none⟩), .pointer (some ⟨q, 0, none⟩), .agg #[.int .i64 d.act, .int .i64 d.x.src, .int .i64 d.x.dst, bv, .int .i64 d.i, .bool d.keep]] w fun e w' => e = .returned (.bool true) ∧ Two E (fun _ => False) N w0 w' p q ((b.add d.x).2) ((b.add d.x).2) (c + 2) ∧ Same2 E w w' := by
  obtain ⟨act, ⟨src, dst, bs⟩, i, keep⟩ := d
  dsimp only at h1 hby hlo hbl hib ⊢
  obtain ⟨ba, bc, rfl⟩ := hby.1
  obtain ⟨wb, hwb⟩ : ∃ wb, w.alloc (.cells #[.int .i64 act, .int .i64 src, .int .i64 dst, .slice ba bs.length bc, .int .i64 i, .bool keep] 36) = wb := ⟨_, rfl⟩
  have hb : Below w.heap.size w wb := by rw [← hwb]; exact (Below.refl _ w).alloc (Nat.le_refl _) _
  have hbx : wb.heap[w.heap.size]? = some (.cells #[.int .i64 act, .int .i64 src, .int .i64 dst, .slice ba bs.length bc, .int .i64 i, .bool keep] 36 (0, 0)) := by rw [← hwb]; exact heap_alloc_new w _
  have hsb : wb.heap.size = w.heap.size + 1 := by rw [← hwb]; simp
  have k0 : wb.cell? ⟨w.heap.size, 0, none⟩ = some (.int .i64 act) := cell_of_row _ _ _ _ _ _ hbx
  have hns := H.ns
  have HLT := Lib.hid H.elt

  have q0 : (act == 0) = true := by rw [h1]; rfl
  obtain ⟨wo, hwo⟩ : ∃ wo, wb.alloc (.cells #[.int .i64 src, .int .i64 dst, .slice ba bs.length bc] 34) = wo := ⟨_, rfl⟩
  have hbo : Below wb.heap.size wb wo := by rw [← hwo]; exact (Below.refl _ wb).alloc (Nat.le_refl _) _
  have hro : wo.heap[wb.heap.size]? = some (.cells #[.int .i64 src, .int .i64 dst, .slice ba bs.length bc] 34 (0, 0)) := by rw [← hwo]; exact heap_alloc_new wb _
  have hso : wo.heap.size = wb.heap.size + 1 := by rw [← hwo]; simp
  have hbyb := hby.below (hby0 ▸ H.bel)
  have hbyo := (hbyb.below hb).below hbo
  obtain ⟨ov, w5, hrun, hrow, hb5, hog⟩ := own_bytes wo _ bs hbyo hbl
  have hb1 : Below wo.heap.size wo (wo.alloc (.cells #[] 5)) := (Below.refl _ wo).alloc (Nat.le_refl _) _
  have hbxo : wo.heap[w.heap.size]? = _ := (hbo.block _ (by omega)).trans hbx
  have k3 : (wo.alloc (.cells #[] 5)).cell? ⟨w.heap.size, 3, none⟩ = some (.slice ba bs.length bc) := by rw [cell_of_row _ _ _ _ _ _ ((hb1.block _ (by omega)).trans hbxo)]; rfl
  obtain ⟨oa, oc, rfl, _⟩ := hrow.1.shape
  have holt := hrow.1.lt
  have hr5 : w5.heap[wb.heap.size]? = _ := (hb5.block _ (by omega)).trans hro
  have hbx5 : w5.heap[w.heap.size]? = _ := (hb5.block _ (by omega)).trans hbxo
  obtain ⟨w6, hw6⟩ : ∃ w6, w5.setCell ⟨wb.heap.size, 2, none⟩ (.slice oa bs.length oc) = w6 := ⟨_, rfl⟩
  have hf6 : Fr (· = wb.heap.size) w5 w6 := by rw [← hw6]; exact (Fr.refl (· = wb.heap.size) w5).setCell ⟨wb.heap.size, 2, none⟩ (Or.inl rfl) _
  have hr6 : w6.heap[wb.heap.size]? = some (.cells #[.int .i64 src, .int .i64 dst, .slice oa bs.length oc] 34 (0, 0)) := by rw [← hw6]; exact heap_setCell_same w5 wb.heap.size 2 _ _ _ hr5
  have hbx6 : w6.heap[w.heap.size]? = some (.cells #[.int .i64 act, .int .i64 src, .int .i64 dst, .slice ba bs.length bc, .int .i64 i, .bool keep] 36 (0, 0)) := (hf6.block _ (by have := hb5.size; omega) (by omega)).trans hbx5
  have hrow6 := hrow.kept hf6.size (fun g hg => hf6.block g (holt g hg) (by have := hog g hg; omega))
  have hs5 := hb5.size
  have H6 : Two (fun k => (E k ∨ (k = w.heap.size ∨ k = wb.heap.size ∨ OwnV (.slice oa bs.length oc) k))) (fun k => (False ∨ (k = w.heap.size ∨ k = wb.heap.size ∨ OwnV (.slice oa bs.length oc) k))) N w0 w6 p q b b c := (H.widen ((hb.trans (hbo.mono hb.size)).trans (hb5.mono (by omega))) (fun k => k = w.heap.size ∨ k = wb.heap.size ∨ OwnV (.slice oa bs.length oc) k) (fun k hk => by
    rcases hk with rfl | rfl | hk
    · exact ⟨Nat.le_refl _, by omega⟩
    · exact ⟨by omega, by omega⟩
    · exact ⟨by have := hog k hk; omega, holt k hk⟩)).fr hf6 (fun k e _ => by rw [e]; exact Or.inr (Or.inr (Or.inl rfl)))
  have hbd : Below w6.heap.size w6 w6.drew := (Below.refl _ w6).drew
  have c5 : w5.cell? ⟨wb.heap.size, 2, none⟩ = some (.slice ba bs.length bc) := cell_of_row _ _ _ _ _ _ hr5
  have f5 : w5.frozen? ⟨wb.heap.size, 2, none⟩ = false := frozen_of_row _ _ _ _ _ hr5
  have hbs : bs.length ≤ 9223372036854775807 := by omega
  have HC := Lib.hid (two_add (H6.below hbd) ⟨src, dst, bs⟩ (.slice oa bs.length oc) (hrow6.below hbd).1.z hbs (by omega))
  have HFL := Lib.hid (flips_row hrow6)
  have HR : Hid (wb.rangeAt w.heap.size 1 [.int .i64 src, .int .i64 dst, .slice ba bs.length bc]) := Lib.hid (fun j v hj => by
    match j, hj with
    | 0, hj => cases hj; exact cell_of_row _ _ _ _ _ _ hbx
    | 1, hj => cases hj; exact cell_of_row _ _ _ _ _ _ hbx
    | 2, hj => cases hj; exact cell_of_row _ _ _ _ _ _ hbx)
  have HL3 : Hid ((Try.prog.info? 34).map (·.size) = some ([.int .i64 src, .int .i64 dst, .slice ba bs.length bc] : List Value).length) := Lib.hid (by show _ = some 3; kernel_rfl)
  have HLD : Hid (∀ W : World, W.heap[w.heap.size]? = some (.cells #[.int .i64 act, .int .i64 src, .int .i64 dst, .slice ba bs.length bc, .int .i64 i, .bool keep] 36 (0, 0)) → (Instr.loadAt 34 (.pointer (some ⟨w.heap.size, 1, none⟩))).run Try.prog W = .ok (.agg #[.int .i64 src, .int .i64 dst, .slice ba bs.length bc]) W) := Lib.hid (fun W hW =>
    run_loadAt_mid W w.heap.size 1 34 [.int .i64 src, .int .i64 dst, .slice ba bs.length bc] _ (fun j v hj => by
      match j, hj with
      | 0, hj => cases hj; exact cell_of_row _ _ _ _ _ _ hW
      | 1, hj => cases hj; exact cell_of_row _ _ _ _ _ _ hW
      | 2, hj => cases hj; exact cell_of_row _ _ _ _ _ _ hW) Try.underlying34 rfl (by kernel_rfl))
  have HSM : Hid (Same2 E w w6) := Lib.hid (fun j hj => by
    have hj1 := HLT.out j hj
    exact (((hf6.block j (by omega) (by omega)).trans (hb5.block j (by omega))).trans (hbo.block j (by omega))).trans (hb.block j hj1))
  have HD : Hid (∀ g, (Value.slice oa bs.length oc).ownBlock = some g → (False ∨ (g = w.heap.size ∨ g = wb.heap.size ∨ OwnV (.slice oa bs.length oc) g)) ∧ g ≠ wb.heap.size ∧ ∀ j, E j → j ≠ g) := Lib.hid (fun g hg => ⟨Or.inr (Or.inr (Or.inr hg)), by have := hog g hg; omega, fun j hj e => by have h1 := HLT.out j hj; have h2 := hog g hg; omega⟩)
  have BX := Lib.hid hbx6
  have RX := Lib.hid hr6
  have RUN := Lib.hid hrun
  have HWO := Lib.hid hwo
  have HW6 := Lib.hid hw6
  have HBY := Lib.hid hby
  have HLO := Lib.hid hlo
  have HBS := Lib.hid hbs
  have HLT2 := Lib.hid HLT.out
  clear hb hbx hsb hby hlo hbl h1 H hns hwo hbo hro hso hbyb hbyo hrun hrow hb5 hog hb1 hbxo holt hr5 hbx5 hw6 hf6 hr6 hbx6 hrow6 hs5 H6 hbd hbs
  go_enter Try.func19, Try.ntmps19
  go_wp2_with (first
    | rw [HWO.out]
    | rw [HW6.out]
    | (refine wpList_load_mid rfl 34 _ rfl w.heap.size 1 rfl _ _ HR.out Try.underlying34 rfl HL3.out ?_)
    | (at_builtin; refine wpList_append_run _ rfl _ _ 32 32 rfl _ _ rfl rfl _ w5 RUN.out ?_))
  clear k0 hwb q0 k3 RUN HWO HW6 HR HL3 c5 f5
  refine wp_region_held_drew (S := fun W : World => W.heap[w.heap.size]? = some (.cells #[.int .i64 act, .int .i64 src, .int .i64 dst, .slice ba bs.length bc, .int .i64 i, .bool keep] 36 (0, 0)) ∧ W.heap[wb.heap.size]? = some (.cells #[.int .i64 src, .int .i64 dst, .slice oa bs.length oc] 34 (0, 0))) (by kernel_rfl) ⟨BX.out, RX.out⟩ (fun _ => ?_)
  refine hh_take 0 (some 53) (.pointer (some ⟨p, 0, none⟩)) rfl rfl (by kernel_rfl) (by kernel_rfl) (by kernel_rfl) (fun _ _ _ h => h) rfl (fun _ _ => rfl) ⟨BX.out, RX.out⟩ ?_
  simp only [Act.put, List.setIfInBounds_toArray, List.set_cons_zero, List.set_cons_succ]
  refine hh_take 1 (some 54) (.agg #[.int .i64 src, .int .i64 dst, .slice oa bs.length oc]) rfl rfl (by kernel_rfl) (by kernel_rfl) (by kernel_rfl) (fun _ _ _ h => h) rfl (fun W hW => ex_load 34 (.tmp 8) rfl _ _ rfl (run_load_und W _ _ _ _ ⟨_, _, _, rfl⟩ hW.2)) ⟨BX.out, RX.out⟩ ?_
  simp only [Act.put, List.setIfInBounds_toArray, List.set_cons_zero, List.set_cons_succ]
  refine hh_take 3 (some 56) (.pointer (some ⟨q, 0, none⟩)) rfl rfl (by kernel_rfl) (by kernel_rfl) (by kernel_rfl) (fun _ _ _ h => h) rfl (fun _ _ => rfl) ⟨BX.out, RX.out⟩ ?_
  simp only [Act.put, List.setIfInBounds_toArray, List.set_cons_zero, List.set_cons_succ]
  refine hh_take 4 (some 57) (.pointer (some ⟨w.heap.size, 1, none⟩)) rfl rfl (by kernel_rfl) (by kernel_rfl) (by kernel_rfl) (fun _ _ _ h => h) rfl (fun _ _ => by kernel_rfl) ⟨BX.out, RX.out⟩ ?_
  simp only [Act.put, List.setIfInBounds_toArray, List.set_cons_zero, List.set_cons_succ]
  refine hh_take 5 (some 58) (.agg #[.int .i64 src, .int .i64 dst, .slice ba bs.length bc]) rfl rfl (by kernel_rfl) (by kernel_rfl) (by kernel_rfl) (fun _ _ _ h => h) rfl (fun W hW => ex_load 34 (.tmp 57) rfl _ _ rfl (HLD.out W hW.1)) ⟨BX.out, RX.out⟩ ?_
  simp only [Act.put, List.setIfInBounds_toArray, List.set_cons_zero, List.set_cons_succ]
  refine hh_one 2 (by kernel_rfl) rfl rfl (fun K hK => wp_callsh (some 55) rfl 10 _ (ex_call2 10 (.tmp 53) (.tmp 54) _ rfl _ _ rfl rfl (fun _ _ => rfl)) (.int .i64 (b.add ⟨src, dst, bs⟩).1) _ HC.out (fun W1 hR1 => hK _ _ ⟨(hR1.2 _ (Or.inr (Or.inl rfl))).trans BX.out, (hR1.2 _ (Or.inr (Or.inr (Or.inl rfl)))).trans RX.out⟩ ?_))
  clear hK K
  simp only [Act.put, List.setIfInBounds_toArray, List.set_cons_zero, List.set_cons_succ]
  have BX1 := Lib.hid ((hR1.2 _ (Or.inr (Or.inl rfl))).trans BX.out)
  have RX1 := Lib.hid ((hR1.2 _ (Or.inr (Or.inr (Or.inl rfl)))).trans RX.out)
  have S1 : Hid (Same2 E w W1) := Lib.hid (fun j hj => (hR1.2 j (Or.inl hj)).trans (HSM.out j hj))
  have FL1 := Lib.hid (HFL.out.kept (w' := W1) (fun g hg => hR1.2 g (Or.inr (Or.inr (Or.inr hg)))))
  have HC2 := Lib.hid (two_radd hR1.1 ⟨src, dst, bs⟩ (.slice ba bs.length bc) (HBY.out.below (hby0 ▸ hR1.1.bel)) HLO.out HBS.out (by omega))
  clear hR1
  refine hh_one 6 (by kernel_rfl) rfl rfl (fun K hK => wp_callsh (some 59) rfl 27 _ (ex_call2 27 (.tmp 56) (.tmp 58) _ rfl _ _ rfl rfl (fun _ _ => rfl)) (.int .i64 (b.add ⟨src, dst, bs⟩).1) _ HC2.out (fun W2 hR2 => hK _ _ ⟨(hR2.2 _ (Or.inr (Or.inl rfl))).trans BX1.out, (hR2.2 _ (Or.inr (Or.inr (Or.inl rfl)))).trans RX1.out⟩ ?_))
  clear hK K
  simp only [Act.put, List.setIfInBounds_toArray, List.set_cons_zero, List.set_cons_succ]
  have hb2 : W2.heap[w.heap.size]? = some (.cells #[.int .i64 act, .int .i64 src, .int .i64 dst, .slice ba bs.length bc, .int .i64 i, .bool keep] 36 (0, 0)) ∧ W2.heap[wb.heap.size]? = some (.cells #[.int .i64 src, .int .i64 dst, .slice oa bs.length oc] 34 (0, 0)) := ⟨(hR2.2 _ (Or.inr (Or.inl rfl))).trans BX1.out, (hR2.2 _ (Or.inr (Or.inr (Or.inl rfl)))).trans RX1.out⟩
  obtain ⟨bz, hbz⟩ : ∃ z, (b.add ⟨src, dst, bs⟩).2 = z := ⟨_, rfl⟩
  have HZ := Lib.hid hbz
  have hx2 := hR2.1
  rw [hbz] at hx2
  have B2 := Lib.hid hb2
  have HX : Hid (XorI E (fun k => (E k ∨ (k = w.heap.size ∨ k = wb.heap.size ∨ OwnV (.slice oa bs.length oc) k))) (fun k => (False ∨ (k = w.heap.size ∨ k = wb.heap.size ∨ OwnV (.slice oa bs.length oc) k))) N w0 w W2 p q bz bz (c + 2) wb.heap.size (.slice oa bs.length oc) bs.length) := Lib.hid
    ⟨hx2, FL1.out.kept (fun g hg => hR2.2 g (Or.inr (Or.inr (Or.inr hg)))), cell_of_row _ _ _ _ _ _ hb2.2, fun j hj => (hR2.2 j (Or.inl hj)).trans (S1.out j hj)⟩
  clear hR2 hbz hx2 hb2
  refine hh_take 7 (some 60) (.bool true) rfl rfl (by kernel_rfl) (by kernel_rfl) (by kernel_rfl) (fun _ _ _ h => h) rfl (fun W _ => ex_eqlI 29 29 (.tmp 55) (.tmp 59) .i64 _ rfl rfl rfl) B2.out ?_
  simp only [Act.put, List.setIfInBounds_toArray, List.set_cons_zero, List.set_cons_succ]
  refine hh_take 8 (some 7) (.bool true) rfl rfl (by kernel_rfl) (by kernel_rfl) (by kernel_rfl) (fun _ _ _ h => h) rfl (fun _ _ => rfl) B2.out ?_
  simp only [Act.put, List.setIfInBounds_toArray, List.set_cons_zero, List.set_cons_succ]
  refine wpAnyH_done (by kernel_rfl) ?_ _
  clear BX RX BX1 RX1 S1 FL1 HC HC2 HLD HFL HSM B2 HBY HLO
  have hbs := HBS.out
  clear HBS
  go_wp2_with fail
  go_loopw [9] (fun iv wr => ∃ k : Nat, iv = .int .i64 (k : Int) ∧ k ≤ bs.length ∧ Hid (XorI E (fun k => (E k ∨ (k = w.heap.size ∨ k = wb.heap.size ∨ OwnV (.slice oa bs.length oc) k))) (fun k => (False ∨ (k = w.heap.size ∨ k = wb.heap.size ∨ OwnV (.slice oa bs.length oc) k))) N w0 w wr p q bz bz (c + 2) wb.heap.size (.slice oa bs.length oc) bs.length)) (fun iv _ => bs.length - (intOf iv).toNat)
  case atStart => exact ⟨0, rfl, Nat.zero_le _, HX⟩
  case round =>
    clear HX
    obtain ⟨k, rfl, hk, hH⟩ := hrel
    by_cases hgo : k < bs.length
    · have hgo' : (k : Int) < (bs.length : Int) := by omega
      obtain ⟨a', c', he, hj⟩ := hH.out.fl
      cases he
      obtain ⟨g, o, he, hj2⟩ := hj (by omega)
      clear hj
      subst he
      obtain ⟨⟨x0, hx0, hc0⟩, hf⟩ := hj2 k (by omega)
      obtain ⟨y0, hy0, hxy⟩ := xor_one x0 hx0
      have kc := hH.out.cell
      have hN := Lib.hid (hH.out.step k y0 hy0 (HD.out g rfl) (fun j hj => Or.inl hj))
      clear hj2 hH HD
      go_wp2
      go_roundw
      case rel => exact ⟨k + 1, by go_num, by omega, hN⟩
      case measure => simp [intOf]; omega
    · have hgo' : ¬ (k : Int) < (bs.length : Int) := by omega
      have kc := hH.out.cell
      have HE : Hid (Two E (fun _ => False) N w0 wr p q bz bz (c + 2) ∧ Same2 E w wr) := Lib.hid ⟨hH.out.two.weak E (fun _ => False) (fun k h => Or.inl h) (fun k h => h.elim), hH.out.same⟩
      clear hH HD
      have HLN := Lib.hid (fun n => two_len ((HE.out.1).below (drewN_below wr n)))
      have HRL := Lib.hid (fun n => two_rlen ((HE.out.1).below (drewN_below wr n)) (by omega))
      have HLO := Lib.hid (fun n => two_lost ((HE.out.1).below (drewN_below wr n)))
      have hgo := two_gone HE.out.1

      go_wp2_with fail
      go_quiet (first
        | (go_at_call 13; exact Calls.quiet_of_same ((HLN.out _).mono fun _ _ ⟨h1, h2⟩ => ⟨h1, h2.symm⟩))
        | (go_at_call 20; exact Calls.quiet_of_same ((HRL.out _).mono fun _ _ ⟨h1, h2⟩ => ⟨h1, h2.symm⟩))
        | (go_at_call 14; exact Calls.quiet_of_same ((HLO.out _).mono fun _ _ ⟨h1, h2⟩ => ⟨h1, h2.symm⟩)))
      have FIN := Lib.hid (HE.out.1.below (drewN_below _ nq))
      have FS : Hid (Same2 E w (wr.drewN nq)) := Lib.hid HE.out.2
      clear HE HLN HRL HLO hgo
      go_wp2
      go_ret
      exact ⟨rfl, by rw [HZ.out]; exact FIN.out, FS.out⟩
end Go.Proofs.Ytdcpdeiljabkaaa
