/- Disk: what the law's do tells of the two: Cut, Crash. -/
import Derived.Test.YtohmofhpbmhhjaaE13
namespace Go.Proofs.Ytohmofhpbmhhjaa
open Go Go.RowKit

set_option maxRecDepth 100000 in
set_option maxHeartbeats 4000000 in
theorem do_cut {w0 w : World} {D S c F : Nat} {s : St} (H : TwoE (fun _ => False) w0 w D S c F s s) (d : Dd) (bv kv : Value) (h1 : d.do' = 3) (hwi : d.i ≤ 9223372036854775807) :
    Calls Try.prog 21 #[.pointer (some ⟨D, 0, none⟩), .pointer (some ⟨F, 0, none⟩), .agg #[.int .i64 d.do', .int .i64 d.i, bv, kv, .int .i64 d.torn, .int .i64 d.at']] w fun e w' => e = .returned (.bool true) ∧ TwoE (fun _ => False) w0 w' D S c F (s.cutS d.i) (s.cutS d.i) := by
  obtain ⟨do', i, bytes, keep, torn, at'⟩ := d
  simp only at h1 hwi
  simp only
  have hb : Below w.heap.size w (w.alloc (.cells #[.int .i64 do', .int .i64 i, bv, kv, .int .i64 torn, .int .i64 at'] 39)) := (Below.refl _ w).alloc (Nat.le_refl _) _
  obtain ⟨wb, hwb⟩ : ∃ wb, w.alloc (.cells #[.int .i64 do', .int .i64 i, bv, kv, .int .i64 torn, .int .i64 at'] 39) = wb := ⟨_, rfl⟩
  have hbx : wb.heap[w.heap.size]? = some (.cells #[.int .i64 do', .int .i64 i, bv, kv, .int .i64 torn, .int .i64 at'] 39) := by rw [← hwb]; exact heap_alloc_last w _
  have hsb : wb.heap.size = w.heap.size + 1 := by rw [← hwb]; simp
  have k0 : wb.cell? ⟨w.heap.size, 0, none⟩ = some (.int .i64 do') := by rw [cell_of_row _ _ _ _ _ _ hbx]; rfl
  rw [hwb] at hb
  have Hb := H.apart hb (fun k => k = w.heap.size) (fun k hk => by subst hk; exact ⟨Nat.le_refl _, by omega⟩)
  have q0 : (do' == 0) = false := by rw [h1]; rfl
  have q1 : (do' == 1) = false := by rw [h1]; rfl
  have q2 : (do' == 2) = false := by rw [h1]; rfl
  have q3 : (do' == 3) = true := by rw [h1]; rfl
  have hbd : Below wb.heap.size wb wb.drew := (Below.refl _ wb).drew
  have hc1 := two_cut (Hb.below hbd) i hwi
  have hl : ∀ W : World, W.heap[w.heap.size]? = some (.cells #[.int .i64 do', .int .i64 i, bv, kv, .int .i64 torn, .int .i64 at'] 39) → (Instr.loadAt 3 (.pointer (some ⟨w.heap.size, 1, none⟩))).run Try.prog W = .ok (.int .i64 i) W := fun W hW => by
    have hc : W.cell? ⟨w.heap.size, 1, none⟩ = some (.int .i64 i) := by rw [cell_of_row W _ _ _ _ _ hW]; rfl
    go_simp
  have HC := Lib.hid hc1
  have HL := Lib.hid hl
  have BX := Lib.hid hbx
  have HWI := Lib.hid hwi
  clear hb hbx H Hb hbd hc1 hl hwi hsb h1
  go_enter Try.func21, Try.ntmps21
  go_wp2_with fail
  clear k0 hwb q0 q1 q2 q3
  refine wp_region_held_drew (S := fun W : World => W.heap[w.heap.size]? = some (.cells #[.int .i64 do', .int .i64 i, bv, kv, .int .i64 torn, .int .i64 at'] 39)) (by kernel_rfl) BX.out (fun _ => ?_)
  refine anyH_take 0 (some 103) (.pointer (some ⟨D, 0, none⟩)) rfl rfl (by kernel_rfl) (by kernel_rfl) (by kernel_rfl) (fun _ _ _ h => h) rfl (fun _ _ => rfl) BX.out ?_
  simp only [Act.put, List.setIfInBounds_toArray, List.set_cons_zero, List.set_cons_succ]
  refine anyH_take 1 (some 104) (.pointer (some ⟨w.heap.size, 1, none⟩)) rfl rfl (by kernel_rfl) (by kernel_rfl) (by kernel_rfl) (fun _ _ _ h => h) rfl (fun _ _ => by kernel_rfl) BX.out ?_
  simp only [Act.put, List.setIfInBounds_toArray, List.set_cons_zero, List.set_cons_succ]
  refine anyH_take 2 (some 105) (.int .i64 i) rfl rfl (by kernel_rfl) (by kernel_rfl) (by kernel_rfl) (fun _ _ _ h => h) rfl (fun W hW => ex_load 3 (.tmp 104) rfl _ _ rfl (HL.out W hW)) BX.out ?_
  simp only [Act.put, List.setIfInBounds_toArray, List.set_cons_zero, List.set_cons_succ]
  refine anyH_take 4 (some 107) (.pointer (some ⟨F, 0, none⟩)) rfl rfl (by kernel_rfl) (by kernel_rfl) (by kernel_rfl) (fun _ _ _ h => h) rfl (fun _ _ => rfl) BX.out ?_
  simp only [Act.put, List.setIfInBounds_toArray, List.set_cons_zero, List.set_cons_succ]
  refine anyH_take 5 (some 108) (.pointer (some ⟨w.heap.size, 1, none⟩)) rfl rfl (by kernel_rfl) (by kernel_rfl) (by kernel_rfl) (fun _ _ _ h => h) rfl (fun _ _ => by kernel_rfl) BX.out ?_
  simp only [Act.put, List.setIfInBounds_toArray, List.set_cons_zero, List.set_cons_succ]
  refine anyH_take 6 (some 109) (.int .i64 i) rfl rfl (by kernel_rfl) (by kernel_rfl) (by kernel_rfl) (fun _ _ _ h => h) rfl (fun W hW => ex_load 3 (.tmp 108) rfl _ _ rfl (HL.out W hW)) BX.out ?_
  simp only [Act.put, List.setIfInBounds_toArray, List.set_cons_zero, List.set_cons_succ]
  refine anyH_one 3 (by kernel_rfl) rfl rfl (fun K hK => ?_)
  refine wp_calls (some 106) rfl 13 _ (ex_call2 13 (.tmp 103) (.tmp 105) _ rfl _ _ rfl rfl (fun _ _ => rfl)) (.int .i64 (s.cutE i : Nat)) _ HC.out (fun W1 hR1 => hK _ _ ((hR1.2 _ rfl).trans BX.out) ?_)
  clear hK K
  simp only [Act.put, List.setIfInBounds_toArray, List.set_cons_zero, List.set_cons_succ]
  have B1 := Lib.hid ((hR1.2 _ rfl).trans BX.out)
  have HC2 := Lib.hid (two_rcut hR1.1 i HWI.out)
  clear hR1
  refine anyH_one 7 (by kernel_rfl) rfl rfl (fun K hK => ?_)
  refine wp_calls (some 110) rfl 34 _ (ex_call2 34 (.tmp 107) (.tmp 109) _ rfl _ _ rfl rfl (fun _ _ => rfl)) (.int .i64 (s.cutE i : Nat)) _ HC2.out (fun wz hR2 => hK _ _ ((hR2.2 _ rfl).trans B1.out) ?_)
  clear hK K
  simp only [Act.put, List.setIfInBounds_toArray, List.set_cons_zero, List.set_cons_succ]
  have B2 := Lib.hid ((hR2.2 _ rfl).trans B1.out)
  obtain ⟨sz, hsz⟩ : ∃ sz, s.cutS i = sz := ⟨_, rfl⟩
  have HE := Lib.hid hR2.1.any
  rw [hsz] at HE
  have HSZ := Lib.hid hsz
  clear hR2 hsz
  refine anyH_take 8 (some 111) (.bool true) rfl rfl (by kernel_rfl) (by kernel_rfl) (by kernel_rfl) (fun _ _ _ h => h) rfl (fun W _ => ex_eqlI 33 33 (.tmp 106) (.tmp 110) .i64 _ rfl rfl rfl) B2.out ?_
  simp only [Act.put, List.setIfInBounds_toArray, List.set_cons_zero, List.set_cons_succ]
  refine anyH_take 9 (some 7) (.bool true) rfl rfl (by kernel_rfl) (by kernel_rfl) (by kernel_rfl) (fun _ _ _ h => h) rfl (fun _ _ => rfl) B2.out ?_
  simp only [Act.put, List.setIfInBounds_toArray, List.set_cons_zero, List.set_cons_succ]
  refine wpAnyH_done (by kernel_rfl) ?_ _
  clear HC HC2 HL BX B1 B2 HWI
  go_wp2_with fail
  have hbd : Below wz.heap.size wz wz.drew := (Below.refl _ wz).drew
  have hdn : ∀ W, Below wz.heap.size wz W → Calls Try.prog 17 #[.pointer (some ⟨D, 0, none⟩)] W fun e w' => e = .returned (.bool sz.down) ∧ Below wz.heap.size wz w' := fun W hW => (two_down (HE.out.below hW)).mono fun e w' ⟨q1, q2⟩ => by subst q2; exact ⟨q1, hW⟩
  have hag : ∀ W, Below wz.heap.size wz W → Calls Try.prog 23 #[.pointer (some ⟨D, 0, none⟩)] W fun e w' => e = .returned (.int .i64 (sz.age : Int)) ∧ Below wz.heap.size wz w' := fun W hW => (two_age (HE.out.below hW)).mono fun e w' ⟨q1, q2⟩ => by subst q2; exact ⟨q1, hW⟩
  have hwt : ∀ W, Below wz.heap.size wz W → Calls Try.prog 18 #[.pointer (some ⟨D, 0, none⟩)] W fun e w' => e = .returned (.int .i64 (sz.waits.length : Int)) ∧ Below wz.heap.size wz w' := fun W hW => (two_waits (HE.out.below hW)).mono fun e w' ⟨q1, q2⟩ => by subst q2; exact ⟨q1, hW⟩
  obtain ⟨_, _, la, lc, _, d1, d2, d4⟩ := HE.out.cells
  have hl119 : ∀ W, Below wz.heap.size wz W → (Instr.loadAt 4 (.pointer (some ⟨F, 2, none⟩))).run Try.prog W = .ok (.bool sz.down) W := fun W hW => by
    have hc := (hW.cell (p := ⟨F, 2, none⟩) (World.block_lt_of_cell? _ _ d2)).trans d2
    go_simp
  have hl128 : ∀ W, Below wz.heap.size wz W → (Instr.loadAt 3 (.pointer (some ⟨F, 4, none⟩))).run Try.prog W = .ok (.int .i64 (sz.age : Int)) W := fun W hW => by
    have hc := (hW.cell (p := ⟨F, 4, none⟩) (World.block_lt_of_cell? _ _ d4)).trans d4
    go_simp
  have hl137 : ∀ W, Below wz.heap.size wz W → (Instr.loadAt 71 (.pointer (some ⟨F, 1, none⟩))).run Try.prog W = .ok (.slice la sz.waits.length lc) W := fun W hW => by
    have hc := (hW.cell (p := ⟨F, 1, none⟩) (World.block_lt_of_cell? _ _ d1)).trans d1
    go_simp
  have BD := Lib.hid hbd
  have DN := Lib.hid hdn
  have AG := Lib.hid hag
  have WT := Lib.hid hwt
  have L119 := Lib.hid hl119
  have L128 := Lib.hid hl128
  have L137 := Lib.hid hl137
  clear hbd hdn hag hwt hl119 hl128 hl137 d1 d2 d4
  generalize sz.down = zd at *
  generalize (sz.age : Int) = za at *
  generalize sz.waits.length = zl at *
  refine wp_region_held_drew (S := Below wz.heap.size wz) (by kernel_rfl) BD.out (fun _ => ?_)
  refine anyH_take 0 (some 112) (.bool true) rfl rfl (by kernel_rfl) (by kernel_rfl) (by kernel_rfl) (fun _ _ _ h => h) rfl (fun _ _ => rfl) BD.out ?_
  simp only [Act.put, List.setIfInBounds_toArray, List.set_cons_zero, List.set_cons_succ]
  refine anyH_take 1 (some 113) (.bool true) rfl rfl (by kernel_rfl) (by kernel_rfl) (by kernel_rfl) (fun _ _ _ h => h) rfl (fun _ _ => rfl) BD.out ?_
  simp only [Act.put, List.setIfInBounds_toArray, List.set_cons_zero, List.set_cons_succ]
  refine anyH_take 2 (some 114) (.pointer (some ⟨D, 0, none⟩)) rfl rfl (by kernel_rfl) (by kernel_rfl) (by kernel_rfl) (fun _ _ _ h => h) rfl (fun _ _ => rfl) BD.out ?_
  simp only [Act.put, List.setIfInBounds_toArray, List.set_cons_zero, List.set_cons_succ]
  refine anyH_take 4 (some 116) (.pointer (some ⟨F, 0, none⟩)) rfl rfl (by kernel_rfl) (by kernel_rfl) (by kernel_rfl) (fun _ _ _ h => h) rfl (fun _ _ => rfl) BD.out ?_
  simp only [Act.put, List.setIfInBounds_toArray, List.set_cons_zero, List.set_cons_succ]
  refine anyH_take 5 (some 117) (.pointer (some ⟨F, 0, none⟩)) rfl rfl (by kernel_rfl) (by kernel_rfl) (by kernel_rfl) (fun _ _ _ h => h) rfl (fun _ _ => rfl) BD.out ?_
  simp only [Act.put, List.setIfInBounds_toArray, List.set_cons_zero, List.set_cons_succ]
  refine anyH_take 6 (some 118) (.pointer (some ⟨F, 2, none⟩)) rfl rfl (by kernel_rfl) (by kernel_rfl) (by kernel_rfl) (fun _ _ _ h => h) rfl (fun _ _ => by kernel_rfl) BD.out ?_
  simp only [Act.put, List.setIfInBounds_toArray, List.set_cons_zero, List.set_cons_succ]
  refine anyH_take 7 (some 119) (.bool zd) rfl rfl (by kernel_rfl) (by kernel_rfl) (by kernel_rfl) (fun _ _ _ h => h) rfl (fun W hW => ex_load 4 (.tmp 118) rfl _ _ rfl (L119.out W hW)) BD.out ?_
  simp only [Act.put, List.setIfInBounds_toArray, List.set_cons_zero, List.set_cons_succ]
  refine anyH_oneG 3 (by kernel_rfl) rfl rfl (fun K hK => ?_)
  refine wp_calls (some 115) rfl 17 _ (ex_call1 17 (.tmp 114) _ rfl _ rfl (fun _ _ => rfl)) (.bool zd) (fun w' => Below wz.heap.size wz w') (DN.out _ BD.out) (fun W1 hR1 => hK _ _ hR1 ?_)
  clear hK K
  simp only [Act.put, List.setIfInBounds_toArray, List.set_cons_zero, List.set_cons_succ]
  have R1 := Lib.hid hR1
  clear hR1
  refine anyH_take 8 (some 120) (.bool true) rfl rfl (by kernel_rfl) (by kernel_rfl) (by kernel_rfl) (fun _ _ _ h => h) rfl (fun W _ => ex_eqlB 4 4 (.tmp 115) (.tmp 119) zd Try.underlying4 rfl rfl rfl) R1.out ?_
  simp only [Act.put, List.setIfInBounds_toArray, List.set_cons_zero, List.set_cons_succ]
  refine anyH_take 9 (some 121) (.bool true) rfl rfl (by kernel_rfl) (by kernel_rfl) (by kernel_rfl) (fun _ _ _ h => h) rfl (fun _ _ => rfl) R1.out ?_
  simp only [Act.put, List.setIfInBounds_toArray, List.set_cons_zero, List.set_cons_succ]
  refine anyH_take 10 (some 122) (.bool true) rfl rfl (by kernel_rfl) (by kernel_rfl) (by kernel_rfl) (fun _ _ _ h => h) rfl (fun _ _ => rfl) R1.out ?_
  simp only [Act.put, List.setIfInBounds_toArray, List.set_cons_zero, List.set_cons_succ]
  refine anyH_take 11 (some 123) (.pointer (some ⟨D, 0, none⟩)) rfl rfl (by kernel_rfl) (by kernel_rfl) (by kernel_rfl) (fun _ _ _ h => h) rfl (fun _ _ => rfl) R1.out ?_
  simp only [Act.put, List.setIfInBounds_toArray, List.set_cons_zero, List.set_cons_succ]
  refine anyH_take 13 (some 125) (.pointer (some ⟨F, 0, none⟩)) rfl rfl (by kernel_rfl) (by kernel_rfl) (by kernel_rfl) (fun _ _ _ h => h) rfl (fun _ _ => rfl) R1.out ?_
  simp only [Act.put, List.setIfInBounds_toArray, List.set_cons_zero, List.set_cons_succ]
  refine anyH_take 14 (some 126) (.pointer (some ⟨F, 0, none⟩)) rfl rfl (by kernel_rfl) (by kernel_rfl) (by kernel_rfl) (fun _ _ _ h => h) rfl (fun _ _ => rfl) R1.out ?_
  simp only [Act.put, List.setIfInBounds_toArray, List.set_cons_zero, List.set_cons_succ]
  refine anyH_take 15 (some 127) (.pointer (some ⟨F, 4, none⟩)) rfl rfl (by kernel_rfl) (by kernel_rfl) (by kernel_rfl) (fun _ _ _ h => h) rfl (fun _ _ => by kernel_rfl) R1.out ?_
  simp only [Act.put, List.setIfInBounds_toArray, List.set_cons_zero, List.set_cons_succ]
  refine anyH_take 16 (some 128) (.int .i64 za) rfl rfl (by kernel_rfl) (by kernel_rfl) (by kernel_rfl) (fun _ _ _ h => h) rfl (fun W hW => ex_load 3 (.tmp 127) rfl _ _ rfl (L128.out W hW)) R1.out ?_
  simp only [Act.put, List.setIfInBounds_toArray, List.set_cons_zero, List.set_cons_succ]
  refine anyH_oneG 12 (by kernel_rfl) rfl rfl (fun K hK => ?_)
  refine wp_calls (some 124) rfl 23 _ (ex_call1 23 (.tmp 123) _ rfl _ rfl (fun _ _ => rfl)) (.int .i64 za) (fun w' => Below wz.heap.size wz w') (AG.out _ R1.out) (fun W2 hR2 => hK _ _ hR2 ?_)
  clear hK K
  simp only [Act.put, List.setIfInBounds_toArray, List.set_cons_zero, List.set_cons_succ]
  have R2 := Lib.hid hR2
  clear hR2
  refine anyH_take 17 (some 129) (.bool true) rfl rfl (by kernel_rfl) (by kernel_rfl) (by kernel_rfl) (fun _ _ _ h => h) rfl (fun W _ => ex_eqlI 3 3 (.tmp 124) (.tmp 128) .i64 za rfl rfl rfl) R2.out ?_
  simp only [Act.put, List.setIfInBounds_toArray, List.set_cons_zero, List.set_cons_succ]
  refine anyH_take 18 (some 130) (.bool true) rfl rfl (by kernel_rfl) (by kernel_rfl) (by kernel_rfl) (fun _ _ _ h => h) rfl (fun _ _ => rfl) R2.out ?_
  simp only [Act.put, List.setIfInBounds_toArray, List.set_cons_zero, List.set_cons_succ]
  refine anyH_take 19 (some 131) (.bool true) rfl rfl (by kernel_rfl) (by kernel_rfl) (by kernel_rfl) (fun _ _ _ h => h) rfl (fun _ _ => rfl) R2.out ?_
  simp only [Act.put, List.setIfInBounds_toArray, List.set_cons_zero, List.set_cons_succ]
  refine anyH_take 20 (some 132) (.pointer (some ⟨D, 0, none⟩)) rfl rfl (by kernel_rfl) (by kernel_rfl) (by kernel_rfl) (fun _ _ _ h => h) rfl (fun _ _ => rfl) R2.out ?_
  simp only [Act.put, List.setIfInBounds_toArray, List.set_cons_zero, List.set_cons_succ]
  refine anyH_take 22 (some 134) (.pointer (some ⟨F, 0, none⟩)) rfl rfl (by kernel_rfl) (by kernel_rfl) (by kernel_rfl) (fun _ _ _ h => h) rfl (fun _ _ => rfl) R2.out ?_
  simp only [Act.put, List.setIfInBounds_toArray, List.set_cons_zero, List.set_cons_succ]
  refine anyH_take 23 (some 135) (.pointer (some ⟨F, 0, none⟩)) rfl rfl (by kernel_rfl) (by kernel_rfl) (by kernel_rfl) (fun _ _ _ h => h) rfl (fun _ _ => rfl) R2.out ?_
  simp only [Act.put, List.setIfInBounds_toArray, List.set_cons_zero, List.set_cons_succ]
  refine anyH_take 24 (some 136) (.pointer (some ⟨F, 1, none⟩)) rfl rfl (by kernel_rfl) (by kernel_rfl) (by kernel_rfl) (fun _ _ _ h => h) rfl (fun _ _ => by kernel_rfl) R2.out ?_
  simp only [Act.put, List.setIfInBounds_toArray, List.set_cons_zero, List.set_cons_succ]
  refine anyH_take 25 (some 137) (.slice la zl lc) rfl rfl (by kernel_rfl) (by kernel_rfl) (by kernel_rfl) (fun _ _ _ h => h) rfl (fun W hW => ex_load 71 (.tmp 136) rfl _ _ rfl (L137.out W hW)) R2.out ?_
  simp only [Act.put, List.setIfInBounds_toArray, List.set_cons_zero, List.set_cons_succ]
  refine anyH_take 26 (some 138) (.int .i64 (zl : Int)) rfl rfl (by kernel_rfl) (by kernel_rfl) (by kernel_rfl) (fun _ _ _ h => h) rfl (fun _ _ => ex_len 71 77 (.tmp 137) rfl Try.underlying71 rfl) R2.out ?_
  simp only [Act.put, List.setIfInBounds_toArray, List.set_cons_zero, List.set_cons_succ]
  refine anyH_oneG 21 (by kernel_rfl) rfl rfl (fun K hK => ?_)
  refine wp_calls (some 133) rfl 18 _ (ex_call1 18 (.tmp 132) _ rfl _ rfl (fun _ _ => rfl)) (.int .i64 (zl : Int)) (fun w' => Below wz.heap.size wz w') (WT.out _ R2.out) (fun W3 hR3 => hK _ _ hR3 ?_)
  clear hK K
  simp only [Act.put, List.setIfInBounds_toArray, List.set_cons_zero, List.set_cons_succ]
  have R3 := Lib.hid hR3
  clear hR3
  refine anyH_take 27 (some 139) (.bool true) rfl rfl (by kernel_rfl) (by kernel_rfl) (by kernel_rfl) (fun _ _ _ h => h) rfl (fun W _ => ex_eqlI 3 3 (.tmp 133) (.tmp 138) .i64 (zl : Int) rfl rfl rfl) R3.out ?_
  simp only [Act.put, List.setIfInBounds_toArray, List.set_cons_zero, List.set_cons_succ]
  refine anyH_take 28 (some 140) (.bool true) rfl rfl (by kernel_rfl) (by kernel_rfl) (by kernel_rfl) (fun _ _ _ h => h) rfl (fun _ _ => rfl) R3.out ?_
  simp only [Act.put, List.setIfInBounds_toArray, List.set_cons_zero, List.set_cons_succ]
  refine anyH_take 29 (some 6) (.bool true) rfl rfl (by kernel_rfl) (by kernel_rfl) (by kernel_rfl) (fun _ _ _ h => h) rfl (fun _ _ => rfl) R3.out ?_
  simp only [Act.put, List.setIfInBounds_toArray, List.set_cons_zero, List.set_cons_succ]
  refine wpAnyH_done (by kernel_rfl) ?_ _
  have HFIN := Lib.hid (HE.out.below R3.out)
  clear HE BD DN AG WT L119 L128 L137 R1 R2 R3
  go_wp2
  go_ret
  exact ⟨rfl, by rw [HSZ.out]; exact HFIN.out⟩
set_option maxRecDepth 100000 in
set_option maxHeartbeats 4000000 in
theorem do_crash {w0 w : World} {D S c F : Nat} {s : St} (H : TwoE (fun _ => False) w0 w D S c F s s) (d : Dd) (bv kv : Value) (h1 : d.do' ≠ 0 ∧ d.do' ≠ 1 ∧ d.do' ≠ 2 ∧ d.do' ≠ 3) (hv : DeedV w0 d bv kv) (ha : s.age + 1 ≤ 1000) :
    Calls Try.prog 21 #[.pointer (some ⟨D, 0, none⟩), .pointer (some ⟨F, 0, none⟩), .agg #[.int .i64 d.do', .int .i64 d.i, bv, kv, .int .i64 d.torn, .int .i64 d.at']] w fun e w' => e = .returned (.bool true) ∧ TwoE (fun _ => False) w0 w' D S c F (s.crashed d.keep d.torn d.at') (s.crashed d.keep d.torn d.at') := by
  obtain ⟨_, _, _, hk, hkl, hkn, _⟩ := hv
  obtain ⟨do', i, bytes, keep, torn, at'⟩ := d
  simp only at h1 hk hkl hkn
  simp only
  have hb : Below w.heap.size w (w.alloc (.cells #[.int .i64 do', .int .i64 i, bv, kv, .int .i64 torn, .int .i64 at'] 39)) := (Below.refl _ w).alloc (Nat.le_refl _) _
  obtain ⟨wb, hwb⟩ : ∃ wb, w.alloc (.cells #[.int .i64 do', .int .i64 i, bv, kv, .int .i64 torn, .int .i64 at'] 39) = wb := ⟨_, rfl⟩
  have hbx : wb.heap[w.heap.size]? = some (.cells #[.int .i64 do', .int .i64 i, bv, kv, .int .i64 torn, .int .i64 at'] 39) := by rw [← hwb]; exact heap_alloc_last w _
  have hsb : wb.heap.size = w.heap.size + 1 := by rw [← hwb]; simp
  have k0 : wb.cell? ⟨w.heap.size, 0, none⟩ = some (.int .i64 do') := by rw [cell_of_row _ _ _ _ _ _ hbx]; rfl
  rw [hwb] at hb
  have Hb := H.apart hb (fun k => k = w.heap.size) (fun k hk => by subst hk; exact ⟨Nat.le_refl _, by omega⟩)
  have q0 : (do' == 0) = false := by rw [beq_eq_false_iff_ne]; exact h1.1
  have q1 : (do' == 1) = false := by rw [beq_eq_false_iff_ne]; exact h1.2.1
  have q2 : (do' == 2) = false := by rw [beq_eq_false_iff_ne]; exact h1.2.2.1
  have q3 : (do' == 3) = false := by rw [beq_eq_false_iff_ne]; exact h1.2.2.2
  have hbd : Below wb.heap.size wb wb.drew := (Below.refl _ wb).drew
  have hkb := hk.below (Hb.below hbd).bel
  have hc1 := two_crash (Hb.below hbd) ha kv keep torn at' hkb hkl hkn
  have hl : ∀ W : World, W.heap[w.heap.size]? = some (.cells #[.int .i64 do', .int .i64 i, bv, kv, .int .i64 torn, .int .i64 at'] 39) → (Instr.loadAt 32 (.pointer (some ⟨w.heap.size, 3, none⟩))).run Try.prog W = .ok (.agg #[kv, .int .i64 torn, .int .i64 at']) W := fun W hW =>
    run_loadAt_mid W w.heap.size 3 32 [kv, .int .i64 torn, .int .i64 at'] _ (fun j v hj => by
      rw [cell_of_row W _ _ _ _ _ hW]
      rcases j with _ | _ | _ | j
      · simpa using hj
      · simpa using hj
      · simpa using hj
      · simp at hj) Try.underlying32 rfl (by kernel_rfl)
  have HC := Lib.hid hc1
  have HL := Lib.hid hl
  have BX := Lib.hid hbx
  have HK := Lib.hid hk
  have HKL := Lib.hid hkl
  have HKN := Lib.hid hkn
  have HA := Lib.hid ha
  clear hb hbx H Hb hbd hc1 hl hsb h1 hk hkl hkn hkb ha
  go_enter Try.func21, Try.ntmps21
  go_wp2_with fail
  clear k0 hwb q0 q1 q2 q3
  refine wp_region_held_drew (S := fun W : World => W.heap[w.heap.size]? = some (.cells #[.int .i64 do', .int .i64 i, bv, kv, .int .i64 torn, .int .i64 at'] 39)) (by kernel_rfl) BX.out (fun _ => ?_)
  refine anyH_take 0 (some 17) (.pointer (some ⟨D, 0, none⟩)) rfl rfl (by kernel_rfl) (by kernel_rfl) (by kernel_rfl) (fun _ _ _ h => h) rfl (fun _ _ => rfl) BX.out ?_
  simp only [Act.put, List.setIfInBounds_toArray, List.set_cons_zero, List.set_cons_succ]
  refine anyH_take 1 (some 18) (.pointer (some ⟨w.heap.size, 3, none⟩)) rfl rfl (by kernel_rfl) (by kernel_rfl) (by kernel_rfl) (fun _ _ _ h => h) rfl (fun _ _ => by kernel_rfl) BX.out ?_
  simp only [Act.put, List.setIfInBounds_toArray, List.set_cons_zero, List.set_cons_succ]
  refine anyH_take 2 (some 19) (.agg #[kv, .int .i64 torn, .int .i64 at']) rfl rfl (by kernel_rfl) (by kernel_rfl) (by kernel_rfl) (fun _ _ _ h => h) rfl (fun W hW => ex_load 32 (.tmp 18) rfl _ _ rfl (HL.out W hW)) BX.out ?_
  simp only [Act.put, List.setIfInBounds_toArray, List.set_cons_zero, List.set_cons_succ]
  refine anyH_take 4 (some 21) (.pointer (some ⟨F, 0, none⟩)) rfl rfl (by kernel_rfl) (by kernel_rfl) (by kernel_rfl) (fun _ _ _ h => h) rfl (fun _ _ => rfl) BX.out ?_
  simp only [Act.put, List.setIfInBounds_toArray, List.set_cons_zero, List.set_cons_succ]
  refine anyH_take 5 (some 22) (.pointer (some ⟨w.heap.size, 3, none⟩)) rfl rfl (by kernel_rfl) (by kernel_rfl) (by kernel_rfl) (fun _ _ _ h => h) rfl (fun _ _ => by kernel_rfl) BX.out ?_
  simp only [Act.put, List.setIfInBounds_toArray, List.set_cons_zero, List.set_cons_succ]
  refine anyH_take 6 (some 23) (.agg #[kv, .int .i64 torn, .int .i64 at']) rfl rfl (by kernel_rfl) (by kernel_rfl) (by kernel_rfl) (fun _ _ _ h => h) rfl (fun W hW => ex_load 32 (.tmp 22) rfl _ _ rfl (HL.out W hW)) BX.out ?_
  simp only [Act.put, List.setIfInBounds_toArray, List.set_cons_zero, List.set_cons_succ]
  refine anyH_one 3 (by kernel_rfl) rfl rfl (fun K hK => ?_)
  refine wp_calls (some 20) rfl 14 _ (ex_call2 14 (.tmp 17) (.tmp 19) _ rfl _ _ rfl rfl (fun _ _ => rfl)) (.int .i64 0) _ HC.out (fun W1 hR1 => hK _ _ ((hR1.2 _ rfl).trans BX.out) ?_)
  clear hK K
  simp only [Act.put, List.setIfInBounds_toArray, List.set_cons_zero, List.set_cons_succ]
  have B1 := Lib.hid ((hR1.2 _ rfl).trans BX.out)
  have HC2 := Lib.hid (two_rcrash hR1.1 HA.out kv keep torn at' (HK.out.below hR1.1.bel) HKL.out HKN.out)
  clear hR1
  refine anyH_one 7 (by kernel_rfl) rfl rfl (fun K hK => ?_)
  refine wp_calls (some 24) rfl 35 _ (ex_call2 35 (.tmp 21) (.tmp 23) _ rfl _ _ rfl rfl (fun _ _ => rfl)) (.int .i64 0) _ HC2.out (fun wz hR2 => hK _ _ ((hR2.2 _ rfl).trans B1.out) ?_)
  clear hK K
  simp only [Act.put, List.setIfInBounds_toArray, List.set_cons_zero, List.set_cons_succ]
  have B2 := Lib.hid ((hR2.2 _ rfl).trans B1.out)
  obtain ⟨sz, hsz⟩ : ∃ sz, s.crashed keep torn at' = sz := ⟨_, rfl⟩
  have HE := Lib.hid hR2.1.any
  rw [hsz] at HE
  have HSZ := Lib.hid hsz
  clear hR2 hsz
  refine anyH_take 8 (some 25) (.bool true) rfl rfl (by kernel_rfl) (by kernel_rfl) (by kernel_rfl) (fun _ _ _ h => h) rfl (fun W _ => ex_eqlI 33 33 (.tmp 20) (.tmp 24) .i64 _ rfl rfl rfl) B2.out ?_
  simp only [Act.put, List.setIfInBounds_toArray, List.set_cons_zero, List.set_cons_succ]
  refine anyH_take 9 (some 7) (.bool true) rfl rfl (by kernel_rfl) (by kernel_rfl) (by kernel_rfl) (fun _ _ _ h => h) rfl (fun _ _ => rfl) B2.out ?_
  simp only [Act.put, List.setIfInBounds_toArray, List.set_cons_zero, List.set_cons_succ]
  refine wpAnyH_done (by kernel_rfl) ?_ _
  clear HC HC2 HL BX B1 B2 HK HKL HKN HA
  go_wp2_with fail
  have hbd : Below wz.heap.size wz wz.drew := (Below.refl _ wz).drew
  have hdn : ∀ W, Below wz.heap.size wz W → Calls Try.prog 17 #[.pointer (some ⟨D, 0, none⟩)] W fun e w' => e = .returned (.bool sz.down) ∧ Below wz.heap.size wz w' := fun W hW => (two_down (HE.out.below hW)).mono fun e w' ⟨q1, q2⟩ => by subst q2; exact ⟨q1, hW⟩
  have hag : ∀ W, Below wz.heap.size wz W → Calls Try.prog 23 #[.pointer (some ⟨D, 0, none⟩)] W fun e w' => e = .returned (.int .i64 (sz.age : Int)) ∧ Below wz.heap.size wz w' := fun W hW => (two_age (HE.out.below hW)).mono fun e w' ⟨q1, q2⟩ => by subst q2; exact ⟨q1, hW⟩
  have hwt : ∀ W, Below wz.heap.size wz W → Calls Try.prog 18 #[.pointer (some ⟨D, 0, none⟩)] W fun e w' => e = .returned (.int .i64 (sz.waits.length : Int)) ∧ Below wz.heap.size wz w' := fun W hW => (two_waits (HE.out.below hW)).mono fun e w' ⟨q1, q2⟩ => by subst q2; exact ⟨q1, hW⟩
  obtain ⟨_, _, la, lc, _, d1, d2, d4⟩ := HE.out.cells
  have hl119 : ∀ W, Below wz.heap.size wz W → (Instr.loadAt 4 (.pointer (some ⟨F, 2, none⟩))).run Try.prog W = .ok (.bool sz.down) W := fun W hW => by
    have hc := (hW.cell (p := ⟨F, 2, none⟩) (World.block_lt_of_cell? _ _ d2)).trans d2
    go_simp
  have hl128 : ∀ W, Below wz.heap.size wz W → (Instr.loadAt 3 (.pointer (some ⟨F, 4, none⟩))).run Try.prog W = .ok (.int .i64 (sz.age : Int)) W := fun W hW => by
    have hc := (hW.cell (p := ⟨F, 4, none⟩) (World.block_lt_of_cell? _ _ d4)).trans d4
    go_simp
  have hl137 : ∀ W, Below wz.heap.size wz W → (Instr.loadAt 71 (.pointer (some ⟨F, 1, none⟩))).run Try.prog W = .ok (.slice la sz.waits.length lc) W := fun W hW => by
    have hc := (hW.cell (p := ⟨F, 1, none⟩) (World.block_lt_of_cell? _ _ d1)).trans d1
    go_simp
  have BD := Lib.hid hbd
  have DN := Lib.hid hdn
  have AG := Lib.hid hag
  have WT := Lib.hid hwt
  have L119 := Lib.hid hl119
  have L128 := Lib.hid hl128
  have L137 := Lib.hid hl137
  clear hbd hdn hag hwt hl119 hl128 hl137 d1 d2 d4
  generalize sz.down = zd at *
  generalize (sz.age : Int) = za at *
  generalize sz.waits.length = zl at *
  refine wp_region_held_drew (S := Below wz.heap.size wz) (by kernel_rfl) BD.out (fun _ => ?_)
  refine anyH_take 0 (some 112) (.bool true) rfl rfl (by kernel_rfl) (by kernel_rfl) (by kernel_rfl) (fun _ _ _ h => h) rfl (fun _ _ => rfl) BD.out ?_
  simp only [Act.put, List.setIfInBounds_toArray, List.set_cons_zero, List.set_cons_succ]
  refine anyH_take 1 (some 113) (.bool true) rfl rfl (by kernel_rfl) (by kernel_rfl) (by kernel_rfl) (fun _ _ _ h => h) rfl (fun _ _ => rfl) BD.out ?_
  simp only [Act.put, List.setIfInBounds_toArray, List.set_cons_zero, List.set_cons_succ]
  refine anyH_take 2 (some 114) (.pointer (some ⟨D, 0, none⟩)) rfl rfl (by kernel_rfl) (by kernel_rfl) (by kernel_rfl) (fun _ _ _ h => h) rfl (fun _ _ => rfl) BD.out ?_
  simp only [Act.put, List.setIfInBounds_toArray, List.set_cons_zero, List.set_cons_succ]
  refine anyH_take 4 (some 116) (.pointer (some ⟨F, 0, none⟩)) rfl rfl (by kernel_rfl) (by kernel_rfl) (by kernel_rfl) (fun _ _ _ h => h) rfl (fun _ _ => rfl) BD.out ?_
  simp only [Act.put, List.setIfInBounds_toArray, List.set_cons_zero, List.set_cons_succ]
  refine anyH_take 5 (some 117) (.pointer (some ⟨F, 0, none⟩)) rfl rfl (by kernel_rfl) (by kernel_rfl) (by kernel_rfl) (fun _ _ _ h => h) rfl (fun _ _ => rfl) BD.out ?_
  simp only [Act.put, List.setIfInBounds_toArray, List.set_cons_zero, List.set_cons_succ]
  refine anyH_take 6 (some 118) (.pointer (some ⟨F, 2, none⟩)) rfl rfl (by kernel_rfl) (by kernel_rfl) (by kernel_rfl) (fun _ _ _ h => h) rfl (fun _ _ => by kernel_rfl) BD.out ?_
  simp only [Act.put, List.setIfInBounds_toArray, List.set_cons_zero, List.set_cons_succ]
  refine anyH_take 7 (some 119) (.bool zd) rfl rfl (by kernel_rfl) (by kernel_rfl) (by kernel_rfl) (fun _ _ _ h => h) rfl (fun W hW => ex_load 4 (.tmp 118) rfl _ _ rfl (L119.out W hW)) BD.out ?_
  simp only [Act.put, List.setIfInBounds_toArray, List.set_cons_zero, List.set_cons_succ]
  refine anyH_oneG 3 (by kernel_rfl) rfl rfl (fun K hK => ?_)
  refine wp_calls (some 115) rfl 17 _ (ex_call1 17 (.tmp 114) _ rfl _ rfl (fun _ _ => rfl)) (.bool zd) (fun w' => Below wz.heap.size wz w') (DN.out _ BD.out) (fun W1 hR1 => hK _ _ hR1 ?_)
  clear hK K
  simp only [Act.put, List.setIfInBounds_toArray, List.set_cons_zero, List.set_cons_succ]
  have R1 := Lib.hid hR1
  clear hR1
  refine anyH_take 8 (some 120) (.bool true) rfl rfl (by kernel_rfl) (by kernel_rfl) (by kernel_rfl) (fun _ _ _ h => h) rfl (fun W _ => ex_eqlB 4 4 (.tmp 115) (.tmp 119) zd Try.underlying4 rfl rfl rfl) R1.out ?_
  simp only [Act.put, List.setIfInBounds_toArray, List.set_cons_zero, List.set_cons_succ]
  refine anyH_take 9 (some 121) (.bool true) rfl rfl (by kernel_rfl) (by kernel_rfl) (by kernel_rfl) (fun _ _ _ h => h) rfl (fun _ _ => rfl) R1.out ?_
  simp only [Act.put, List.setIfInBounds_toArray, List.set_cons_zero, List.set_cons_succ]
  refine anyH_take 10 (some 122) (.bool true) rfl rfl (by kernel_rfl) (by kernel_rfl) (by kernel_rfl) (fun _ _ _ h => h) rfl (fun _ _ => rfl) R1.out ?_
  simp only [Act.put, List.setIfInBounds_toArray, List.set_cons_zero, List.set_cons_succ]
  refine anyH_take 11 (some 123) (.pointer (some ⟨D, 0, none⟩)) rfl rfl (by kernel_rfl) (by kernel_rfl) (by kernel_rfl) (fun _ _ _ h => h) rfl (fun _ _ => rfl) R1.out ?_
  simp only [Act.put, List.setIfInBounds_toArray, List.set_cons_zero, List.set_cons_succ]
  refine anyH_take 13 (some 125) (.pointer (some ⟨F, 0, none⟩)) rfl rfl (by kernel_rfl) (by kernel_rfl) (by kernel_rfl) (fun _ _ _ h => h) rfl (fun _ _ => rfl) R1.out ?_
  simp only [Act.put, List.setIfInBounds_toArray, List.set_cons_zero, List.set_cons_succ]
  refine anyH_take 14 (some 126) (.pointer (some ⟨F, 0, none⟩)) rfl rfl (by kernel_rfl) (by kernel_rfl) (by kernel_rfl) (fun _ _ _ h => h) rfl (fun _ _ => rfl) R1.out ?_
  simp only [Act.put, List.setIfInBounds_toArray, List.set_cons_zero, List.set_cons_succ]
  refine anyH_take 15 (some 127) (.pointer (some ⟨F, 4, none⟩)) rfl rfl (by kernel_rfl) (by kernel_rfl) (by kernel_rfl) (fun _ _ _ h => h) rfl (fun _ _ => by kernel_rfl) R1.out ?_
  simp only [Act.put, List.setIfInBounds_toArray, List.set_cons_zero, List.set_cons_succ]
  refine anyH_take 16 (some 128) (.int .i64 za) rfl rfl (by kernel_rfl) (by kernel_rfl) (by kernel_rfl) (fun _ _ _ h => h) rfl (fun W hW => ex_load 3 (.tmp 127) rfl _ _ rfl (L128.out W hW)) R1.out ?_
  simp only [Act.put, List.setIfInBounds_toArray, List.set_cons_zero, List.set_cons_succ]
  refine anyH_oneG 12 (by kernel_rfl) rfl rfl (fun K hK => ?_)
  refine wp_calls (some 124) rfl 23 _ (ex_call1 23 (.tmp 123) _ rfl _ rfl (fun _ _ => rfl)) (.int .i64 za) (fun w' => Below wz.heap.size wz w') (AG.out _ R1.out) (fun W2 hR2 => hK _ _ hR2 ?_)
  clear hK K
  simp only [Act.put, List.setIfInBounds_toArray, List.set_cons_zero, List.set_cons_succ]
  have R2 := Lib.hid hR2
  clear hR2
  refine anyH_take 17 (some 129) (.bool true) rfl rfl (by kernel_rfl) (by kernel_rfl) (by kernel_rfl) (fun _ _ _ h => h) rfl (fun W _ => ex_eqlI 3 3 (.tmp 124) (.tmp 128) .i64 za rfl rfl rfl) R2.out ?_
  simp only [Act.put, List.setIfInBounds_toArray, List.set_cons_zero, List.set_cons_succ]
  refine anyH_take 18 (some 130) (.bool true) rfl rfl (by kernel_rfl) (by kernel_rfl) (by kernel_rfl) (fun _ _ _ h => h) rfl (fun _ _ => rfl) R2.out ?_
  simp only [Act.put, List.setIfInBounds_toArray, List.set_cons_zero, List.set_cons_succ]
  refine anyH_take 19 (some 131) (.bool true) rfl rfl (by kernel_rfl) (by kernel_rfl) (by kernel_rfl) (fun _ _ _ h => h) rfl (fun _ _ => rfl) R2.out ?_
  simp only [Act.put, List.setIfInBounds_toArray, List.set_cons_zero, List.set_cons_succ]
  refine anyH_take 20 (some 132) (.pointer (some ⟨D, 0, none⟩)) rfl rfl (by kernel_rfl) (by kernel_rfl) (by kernel_rfl) (fun _ _ _ h => h) rfl (fun _ _ => rfl) R2.out ?_
  simp only [Act.put, List.setIfInBounds_toArray, List.set_cons_zero, List.set_cons_succ]
  refine anyH_take 22 (some 134) (.pointer (some ⟨F, 0, none⟩)) rfl rfl (by kernel_rfl) (by kernel_rfl) (by kernel_rfl) (fun _ _ _ h => h) rfl (fun _ _ => rfl) R2.out ?_
  simp only [Act.put, List.setIfInBounds_toArray, List.set_cons_zero, List.set_cons_succ]
  refine anyH_take 23 (some 135) (.pointer (some ⟨F, 0, none⟩)) rfl rfl (by kernel_rfl) (by kernel_rfl) (by kernel_rfl) (fun _ _ _ h => h) rfl (fun _ _ => rfl) R2.out ?_
  simp only [Act.put, List.setIfInBounds_toArray, List.set_cons_zero, List.set_cons_succ]
  refine anyH_take 24 (some 136) (.pointer (some ⟨F, 1, none⟩)) rfl rfl (by kernel_rfl) (by kernel_rfl) (by kernel_rfl) (fun _ _ _ h => h) rfl (fun _ _ => by kernel_rfl) R2.out ?_
  simp only [Act.put, List.setIfInBounds_toArray, List.set_cons_zero, List.set_cons_succ]
  refine anyH_take 25 (some 137) (.slice la zl lc) rfl rfl (by kernel_rfl) (by kernel_rfl) (by kernel_rfl) (fun _ _ _ h => h) rfl (fun W hW => ex_load 71 (.tmp 136) rfl _ _ rfl (L137.out W hW)) R2.out ?_
  simp only [Act.put, List.setIfInBounds_toArray, List.set_cons_zero, List.set_cons_succ]
  refine anyH_take 26 (some 138) (.int .i64 (zl : Int)) rfl rfl (by kernel_rfl) (by kernel_rfl) (by kernel_rfl) (fun _ _ _ h => h) rfl (fun _ _ => ex_len 71 77 (.tmp 137) rfl Try.underlying71 rfl) R2.out ?_
  simp only [Act.put, List.setIfInBounds_toArray, List.set_cons_zero, List.set_cons_succ]
  refine anyH_oneG 21 (by kernel_rfl) rfl rfl (fun K hK => ?_)
  refine wp_calls (some 133) rfl 18 _ (ex_call1 18 (.tmp 132) _ rfl _ rfl (fun _ _ => rfl)) (.int .i64 (zl : Int)) (fun w' => Below wz.heap.size wz w') (WT.out _ R2.out) (fun W3 hR3 => hK _ _ hR3 ?_)
  clear hK K
  simp only [Act.put, List.setIfInBounds_toArray, List.set_cons_zero, List.set_cons_succ]
  have R3 := Lib.hid hR3
  clear hR3
  refine anyH_take 27 (some 139) (.bool true) rfl rfl (by kernel_rfl) (by kernel_rfl) (by kernel_rfl) (fun _ _ _ h => h) rfl (fun W _ => ex_eqlI 3 3 (.tmp 133) (.tmp 138) .i64 (zl : Int) rfl rfl rfl) R3.out ?_
  simp only [Act.put, List.setIfInBounds_toArray, List.set_cons_zero, List.set_cons_succ]
  refine anyH_take 28 (some 140) (.bool true) rfl rfl (by kernel_rfl) (by kernel_rfl) (by kernel_rfl) (fun _ _ _ h => h) rfl (fun _ _ => rfl) R3.out ?_
  simp only [Act.put, List.setIfInBounds_toArray, List.set_cons_zero, List.set_cons_succ]
  refine anyH_take 29 (some 6) (.bool true) rfl rfl (by kernel_rfl) (by kernel_rfl) (by kernel_rfl) (fun _ _ _ h => h) rfl (fun _ _ => rfl) R3.out ?_
  simp only [Act.put, List.setIfInBounds_toArray, List.set_cons_zero, List.set_cons_succ]
  refine wpAnyH_done (by kernel_rfl) ?_ _
  have HFIN := Lib.hid (HE.out.below R3.out)
  clear HE BD DN AG WT L119 L128 L137 R1 R2 R3
  go_wp2
  go_ret
  exact ⟨rfl, by rw [HSZ.out]; exact HFIN.out⟩
end Go.Proofs.Ytohmofhpbmhhjaa

