/- Disk: what the law's do tells of the two: Write; every deed. -/
import Derived.Test.YtohmofhpbmhhjaaE15
namespace Go.Proofs.Ytohmofhpbmhhjaa
open Go Go.RowKit

set_option maxRecDepth 100000 in
set_option maxHeartbeats 8000000 in
theorem do_write {w0 w : World} {D S c F : Nat} {s : St} (H : TwoE (fun _ => False) w0 w D S c F s s) (d : Dd) (bv kv : Value) (h1 : d.do' = 0) (hv : DeedV w0 d bv kv) (hn : s.waits.length + 1 ≤ 1000) :
    Calls Try.prog 21 #[.pointer (some ⟨D, 0, none⟩), .pointer (some ⟨F, 0, none⟩), .agg #[.int .i64 d.do', .int .i64 d.i, bv, kv, .int .i64 d.torn, .int .i64 d.at']] w fun e w' => e = .returned (.bool true) ∧ TwoE (fun _ => False) w0 w' D S c F (s.wrote d.i d.bytes).1 (s.wrote d.i d.bytes).1 := by
  obtain ⟨hby, hbl, hbn, _, _, _, _⟩ := hv
  obtain ⟨do', i, bytes, keep, torn, at'⟩ := d
  simp only at h1 hby hbl hbn
  simp only
  have hb : Below w.heap.size w (w.alloc (.cells #[.int .i64 do', .int .i64 i, bv, kv, .int .i64 torn, .int .i64 at'] 39)) := (Below.refl _ w).alloc (Nat.le_refl _) _
  obtain ⟨wb, hwb⟩ : ∃ wb, w.alloc (.cells #[.int .i64 do', .int .i64 i, bv, kv, .int .i64 torn, .int .i64 at'] 39) = wb := ⟨_, rfl⟩
  have hbx : wb.heap[w.heap.size]? = some (.cells #[.int .i64 do', .int .i64 i, bv, kv, .int .i64 torn, .int .i64 at'] 39) := by rw [← hwb]; exact heap_alloc_last w _
  have hsb : wb.heap.size = w.heap.size + 1 := by rw [← hwb]; simp
  have k0 : wb.cell? ⟨w.heap.size, 0, none⟩ = some (.int .i64 do') := by rw [cell_of_row _ _ _ _ _ _ hbx]; rfl
  rw [hwb] at hb
  have q0 : (do' == 0) = true := by rw [h1]; rfl
  obtain ⟨ba, bc, rfl⟩ := hby.1
  have hbyb := hby.below (H.below hb).bel
  obtain ⟨ov, w5, hrun, hrow, hb5, hog⟩ := own_bytes wb _ bytes hbyb hbn
  have hb1 : Below wb.heap.size wb (wb.alloc (.cells #[] 5)) := (Below.refl _ wb).alloc (Nat.le_refl _) _
  have k2 : (wb.alloc (.cells #[] 5)).cell? ⟨w.heap.size, 2, none⟩ = some (.slice ba bytes.length bc) := by rw [cell_of_row _ _ _ _ _ _ ((hb1.block _ (by omega)).trans hbx)]; rfl
  have hov := hrow.1.shape
  obtain ⟨oa, oc, rfl, _⟩ := hov
  have holt := hrow.1.lt
  have H5 : TwoE (fun k => k = w.heap.size ∨ (Value.slice oa bytes.length oc).ownBlock = some k) w0 w5 D S c F s s := H.apart (hb.trans (hb5.mono hb.size)) _ (fun k hk => by
    rcases hk with rfl | hk
    · exact ⟨Nat.le_refl _, by have := hb5.size; omega⟩
    · exact ⟨Nat.le_trans hb.size (hog k hk), holt k hk⟩)
  have hbx5 : w5.heap[w.heap.size]? = some (.cells #[.int .i64 do', .int .i64 i, (.slice ba bytes.length bc), kv, .int .i64 torn, .int .i64 at'] 39) := (hb5.block _ (by omega)).trans hbx
  have hbd : Below w5.heap.size w5 w5.drew := (Below.refl _ w5).drew
  have hc1 := two_write (H5.below hbd) i (.slice oa bytes.length oc) bytes (hrow.1.below hbd).z (fun g hg _ => Or.inr hg) hn
  have hfl := flips_row hrow
  have hl : ∀ W : World, W.heap[w.heap.size]? = some (.cells #[.int .i64 do', .int .i64 i, (.slice ba bytes.length bc), kv, .int .i64 torn, .int .i64 at'] 39) → (Instr.loadAt 3 (.pointer (some ⟨w.heap.size, 1, none⟩))).run Try.prog W = .ok (.int .i64 i) W := fun W hW => by
    have hc : W.cell? ⟨w.heap.size, 1, none⟩ = some (.int .i64 i) := by rw [cell_of_row W _ _ _ _ _ hW]; rfl
    go_simp
  have hl2 : ∀ W : World, W.heap[w.heap.size]? = some (.cells #[.int .i64 do', .int .i64 i, (.slice ba bytes.length bc), kv, .int .i64 torn, .int .i64 at'] 39) → (Instr.loadAt 29 (.pointer (some ⟨w.heap.size, 2, none⟩))).run Try.prog W = .ok (.slice ba bytes.length bc) W := fun W hW => by
    have hc : W.cell? ⟨w.heap.size, 2, none⟩ = some (.slice ba bytes.length bc) := by rw [cell_of_row W _ _ _ _ _ hW]; rfl
    go_simp
  have RUN := Lib.hid hrun
  have HC := Lib.hid hc1
  have FL := Lib.hid hfl
  have HL := Lib.hid hl
  have HL2 := Lib.hid hl2
  have BX := Lib.hid hbx5
  have HBY := Lib.hid hby
  have HBL := Lib.hid hbl
  have HBN := Lib.hid hbn
  have HN := Lib.hid hn
  have HOG := Lib.hid (fun g hg => Nat.le_trans (H.below hb).bel.size (hog g hg))
  clear hb hbx H hbyb hrun hrow hb5 hog hb1 holt H5 hbx5 hbd hc1 hfl hl hl2 hby hbl hbn hn hsb h1
  go_enter Try.func21, Try.ntmps21
  go_wp2_with (at_builtin; refine wpList_append_run _ rfl _ _ 29 29 rfl _ _ rfl rfl _ w5 RUN.out ?_)
  clear k0 hwb q0 k2 RUN
  refine wp_region_held_drew (S := fun W : World => W.heap[w.heap.size]? = some (.cells #[.int .i64 do', .int .i64 i, (.slice ba bytes.length bc), kv, .int .i64 torn, .int .i64 at'] 39)) (by kernel_rfl) BX.out (fun _ => ?_)
  refine anyH_take 0 (some 32) (.pointer (some ⟨D, 0, none⟩)) rfl rfl (by kernel_rfl) (by kernel_rfl) (by kernel_rfl) (fun _ _ _ h => h) rfl (fun _ _ => rfl) BX.out ?_
  simp only [Act.put, List.setIfInBounds_toArray, List.set_cons_zero, List.set_cons_succ]
  refine anyH_take 1 (some 33) (.pointer (some ⟨w.heap.size, 1, none⟩)) rfl rfl (by kernel_rfl) (by kernel_rfl) (by kernel_rfl) (fun _ _ _ h => h) rfl (fun _ _ => by kernel_rfl) BX.out ?_
  simp only [Act.put, List.setIfInBounds_toArray, List.set_cons_zero, List.set_cons_succ]
  refine anyH_take 2 (some 34) (.int .i64 i) rfl rfl (by kernel_rfl) (by kernel_rfl) (by kernel_rfl) (fun _ _ _ h => h) rfl (fun W hW => ex_load 3 (.tmp 33) rfl _ _ rfl (HL.out W hW)) BX.out ?_
  simp only [Act.put, List.setIfInBounds_toArray, List.set_cons_zero, List.set_cons_succ]
  refine anyH_take 3 (some 35) (.slice oa bytes.length oc) rfl rfl (by kernel_rfl) (by kernel_rfl) (by kernel_rfl) (fun _ _ _ h => h) rfl (fun _ _ => rfl) BX.out ?_
  simp only [Act.put, List.setIfInBounds_toArray, List.set_cons_zero, List.set_cons_succ]
  refine anyH_take 5 (some 37) (.pointer (some ⟨F, 0, none⟩)) rfl rfl (by kernel_rfl) (by kernel_rfl) (by kernel_rfl) (fun _ _ _ h => h) rfl (fun _ _ => rfl) BX.out ?_
  simp only [Act.put, List.setIfInBounds_toArray, List.set_cons_zero, List.set_cons_succ]
  refine anyH_take 6 (some 38) (.pointer (some ⟨w.heap.size, 1, none⟩)) rfl rfl (by kernel_rfl) (by kernel_rfl) (by kernel_rfl) (fun _ _ _ h => h) rfl (fun _ _ => by kernel_rfl) BX.out ?_
  simp only [Act.put, List.setIfInBounds_toArray, List.set_cons_zero, List.set_cons_succ]
  refine anyH_take 7 (some 39) (.int .i64 i) rfl rfl (by kernel_rfl) (by kernel_rfl) (by kernel_rfl) (fun _ _ _ h => h) rfl (fun W hW => ex_load 3 (.tmp 38) rfl _ _ rfl (HL.out W hW)) BX.out ?_
  simp only [Act.put, List.setIfInBounds_toArray, List.set_cons_zero, List.set_cons_succ]
  refine anyH_take 8 (some 40) (.pointer (some ⟨w.heap.size, 2, none⟩)) rfl rfl (by kernel_rfl) (by kernel_rfl) (by kernel_rfl) (fun _ _ _ h => h) rfl (fun _ _ => by kernel_rfl) BX.out ?_
  simp only [Act.put, List.setIfInBounds_toArray, List.set_cons_zero, List.set_cons_succ]
  refine anyH_take 9 (some 41) (.slice ba bytes.length bc) rfl rfl (by kernel_rfl) (by kernel_rfl) (by kernel_rfl) (fun _ _ _ h => h) rfl (fun W hW => ex_load 29 (.tmp 40) rfl _ _ rfl (HL2.out W hW)) BX.out ?_
  simp only [Act.put, List.setIfInBounds_toArray, List.set_cons_zero, List.set_cons_succ]
  refine anyH_one 4 (by kernel_rfl) rfl rfl (fun K hK => ?_)
  refine wp_calls (some 36) rfl 11 _ (ex_call3 11 (.tmp 32) (.tmp 34) (.tmp 35) _ rfl _ _ _ rfl rfl rfl (fun _ _ => rfl)) (.int .i64 ((s.wrote i bytes).2 : Nat)) _ HC.out (fun W1 hR1 => hK _ _ ((hR1.2 _ (Or.inl rfl)).trans BX.out) ?_)
  clear hK K
  simp only [Act.put, List.setIfInBounds_toArray, List.set_cons_zero, List.set_cons_succ]
  have B1 := Lib.hid ((hR1.2 _ (Or.inl rfl)).trans BX.out)
  have FL1 := Lib.hid (FL.out.kept (w' := W1) (fun g hg => hR1.2 g (Or.inr hg)))
  have HC2 := Lib.hid (two_rwrite hR1.1 i (.slice ba bytes.length bc) bytes (HBY.out.below hR1.1.bel) HBL.out HN.out)
  clear hR1
  refine anyH_one 10 (by kernel_rfl) rfl rfl (fun K hK => ?_)
  refine wp_calls (some 42) rfl 31 _ (ex_call3 31 (.tmp 37) (.tmp 39) (.tmp 41) _ rfl _ _ _ rfl rfl rfl (fun _ _ => rfl)) (.int .i64 ((s.wrote i bytes).2 : Nat)) _ HC2.out (fun w2 hR2 => hK _ _ ((hR2.2 _ (Or.inl rfl)).trans B1.out) ?_)
  clear hK K
  simp only [Act.put, List.setIfInBounds_toArray, List.set_cons_zero, List.set_cons_succ]
  have B2 := Lib.hid ((hR2.2 _ (Or.inl rfl)).trans B1.out)
  have FL2 := Lib.hid (FL1.out.kept (w' := w2) (fun g hg => hR2.2 g (Or.inr hg)))
  obtain ⟨sz, hsz⟩ : ∃ sz, (s.wrote i bytes).1 = sz := ⟨_, rfl⟩
  have HE2 := Lib.hid hR2.1
  rw [hsz] at HE2
  have HSZ := Lib.hid hsz
  clear hR2 hsz
  refine anyH_take 11 (some 43) (.bool true) rfl rfl (by kernel_rfl) (by kernel_rfl) (by kernel_rfl) (fun _ _ _ h => h) rfl (fun W _ => ex_eqlI 33 33 (.tmp 36) (.tmp 42) .i64 _ rfl rfl rfl) B2.out ?_
  simp only [Act.put, List.setIfInBounds_toArray, List.set_cons_zero, List.set_cons_succ]
  refine anyH_take 12 (some 7) (.bool true) rfl rfl (by kernel_rfl) (by kernel_rfl) (by kernel_rfl) (fun _ _ _ h => h) rfl (fun _ _ => rfl) B2.out ?_
  simp only [Act.put, List.setIfInBounds_toArray, List.set_cons_zero, List.set_cons_succ]
  refine wpAnyH_done (by kernel_rfl) ?_ _
  clear HC HC2 HL HL2 BX B1 B2 HBY HBL FL FL1 HN
  go_wp2_with fail
  go_loopw [9] (fun iv wr => ∃ k : Nat, iv = .int .i64 (k : Int) ∧ k ≤ bytes.length ∧ Hid (TwoE (fun k => k = w.heap.size ∨ (Value.slice oa bytes.length oc).ownBlock = some k) w0 wr D S c F sz sz ∧ Flips wr (.slice oa bytes.length oc) bytes.length)) (fun iv _ => bytes.length - (intOf iv).toNat)
  case atStart => exact ⟨0, rfl, Nat.zero_le _, HE2.out, FL2.out⟩
  case round =>
    clear HE2 FL2
    obtain ⟨k, rfl, hk, hH⟩ := hrel
    have hbn := HBN.out
    by_cases hgo : k < bytes.length
    · have hgo' : (k : Int) < (bytes.length : Int) := by omega
      obtain ⟨a', c', he, hj⟩ := hH.out.2
      cases he
      obtain ⟨g, o, he, hj2⟩ := hj (by omega)
      clear hj
      subst he
      obtain ⟨⟨x, hx, hc⟩, hf⟩ := hj2 k (by omega)
      obtain ⟨y, hy, hxy⟩ := xor_one x hx
      have hfr : Fr (· = g) wr (wr.setCell ⟨g, o + k, none⟩ (.int .u8 (y : Int))) := (Fr.refl (· = g) wr).setCell ⟨g, o + k, none⟩ (Or.inl rfl) _
      have hN := Lib.hid (And.intro (hH.out.1.fr hfr (fun j _ e => by subst e; exact ⟨HOG.out _ rfl, Or.inr rfl⟩)) (hH.out.2.set (k := k) y hy))
      clear hfr hj2 hH
      go_wp2
      go_roundw
      case rel => exact ⟨k + 1, by go_num, by omega, hN⟩
      case measure => simp [intOf]; omega
    · have hgo' : ¬ (k : Int) < (bytes.length : Int) := by omega
      have HE := Lib.hid hH.out.1.any
      clear hH HOG
      go_wp2_with fail
      generalize wr = wz at *
      have hbd : Below wz.heap.size wz wz.drew := (Below.refl _ wz).drew
      have hdn : ∀ W, Below wz.heap.size wz W → Calls Try.prog 17 #[.pointer (some ⟨D, 0, none⟩)] W fun e w' => e = .returned (.bool sz.down) ∧ Below wz.heap.size wz w' := fun W hW => (two_down (HE.out.below hW)).mono fun e w' ⟨q1, q2⟩ => by subst q2; exact ⟨q1, hW⟩
      have hag : ∀ W, Below wz.heap.size wz W → Calls Try.prog 23 #[.pointer (some ⟨D, 0, none⟩)] W fun e w' => e = .returned (.int .i64 (sz.age : Int)) ∧ Below wz.heap.size wz w' := fun W hW => (two_age (HE.out.below hW)).mono fun e w' ⟨q1, q2⟩ => by subst q2; exact ⟨q1, hW⟩
      have hwt : ∀ W, Below wz.heap.size wz W → Calls Try.prog 18 #[.pointer (some ⟨D, 0, none⟩)] W fun e w' => e = .returned (.int .i64 (sz.waits.length : Int)) ∧ Below wz.heap.size wz w' := fun W hW => (two_waits (HE.out.below hW)).mono fun e w' ⟨q1, q2⟩ => by subst q2; exact ⟨q1, hW⟩
      obtain ⟨_, _, la, lc, _, d1, d2, d4⟩ := HE.out.cells
      have hl119 : ∀ W, Below wz.heap.size wz W → (Instr.loadAt 4 (.pointer (some ⟨F, 2, none⟩))).run Try.prog W = .ok (.bool sz.down) W := fun W hW => by
        have hc := (hW.cell (p := ⟨F, 2, none⟩) (World.block_lt_of_cell? _ _ d2)).trans d2
        go_simp
      have hl128 : ∀ W, Below wz.heap.size wz W → (Instr.loadAt 3 (.pointer (some ⟨F, 4, none⟩))).run Try.prog W = .ok (.int .i64 (sz.age : Int)) W := fun W hW => by
        have hc := (hW.cell (p := ⟨F, 4, none⟩) (World.block_lt_of_cell? _ _ d4)).trans d4
        go_simp
      have hl137 : ∀ W, Below wz.heap.size wz W → (Instr.loadAt 71 (.pointer (some ⟨F, 1, none⟩))).run Try.prog W = .ok (.slice la sz.waits.length lc) W := fun W hW => by
        have hc := (hW.cell (p := ⟨F, 1, none⟩) (World.block_lt_of_cell? _ _ d1)).trans d1
        go_simp
      have BD := Lib.hid hbd
      have DN := Lib.hid hdn
      have AG := Lib.hid hag
      have WT := Lib.hid hwt
      have L119 := Lib.hid hl119
      have L128 := Lib.hid hl128
      have L137 := Lib.hid hl137
      clear hbd hdn hag hwt hl119 hl128 hl137 d1 d2 d4
      generalize sz.down = zd at *
      generalize (sz.age : Int) = za at *
      generalize sz.waits.length = zl at *
      refine wp_region_held_drew (S := Below wz.heap.size wz) (by kernel_rfl) BD.out (fun _ => ?_)
      refine anyH_take 0 (some 112) (.bool true) rfl rfl (by kernel_rfl) (by kernel_rfl) (by kernel_rfl) (fun _ _ _ h => h) rfl (fun _ _ => rfl) BD.out ?_
      simp only [Act.put, List.setIfInBounds_toArray, List.set_cons_zero, List.set_cons_succ]
      refine anyH_take 1 (some 113) (.bool true) rfl rfl (by kernel_rfl) (by kernel_rfl) (by kernel_rfl) (fun _ _ _ h => h) rfl (fun _ _ => rfl) BD.out ?_
      simp only [Act.put, List.setIfInBounds_toArray, List.set_cons_zero, List.set_cons_succ]
      refine anyH_take 2 (some 114) (.pointer (some ⟨D, 0, none⟩)) rfl rfl (by kernel_rfl) (by kernel_rfl) (by kernel_rfl) (fun _ _ _ h => h) rfl (fun _ _ => rfl) BD.out ?_
      simp only [Act.put, List.setIfInBounds_toArray, List.set_cons_zero, List.set_cons_succ]
      refine anyH_take 4 (some 116) (.pointer (some ⟨F, 0, none⟩)) rfl rfl (by kernel_rfl) (by kernel_rfl) (by kernel_rfl) (fun _ _ _ h => h) rfl (fun _ _ => rfl) BD.out ?_
      simp only [Act.put, List.setIfInBounds_toArray, List.set_cons_zero, List.set_cons_succ]
      refine anyH_take 5 (some 117) (.pointer (some ⟨F, 0, none⟩)) rfl rfl (by kernel_rfl) (by kernel_rfl) (by kernel_rfl) (fun _ _ _ h => h) rfl (fun _ _ => rfl) BD.out ?_
      simp only [Act.put, List.setIfInBounds_toArray, List.set_cons_zero, List.set_cons_succ]
      refine anyH_take 6 (some 118) (.pointer (some ⟨F, 2, none⟩)) rfl rfl (by kernel_rfl) (by kernel_rfl) (by kernel_rfl) (fun _ _ _ h => h) rfl (fun _ _ => by kernel_rfl) BD.out ?_
      simp only [Act.put, List.setIfInBounds_toArray, List.set_cons_zero, List.set_cons_succ]
      refine anyH_take 7 (some 119) (.bool zd) rfl rfl (by kernel_rfl) (by kernel_rfl) (by kernel_rfl) (fun _ _ _ h => h) rfl (fun W hW => ex_load 4 (.tmp 118) rfl _ _ rfl (L119.out W hW)) BD.out ?_
      simp only [Act.put, List.setIfInBounds_toArray, List.set_cons_zero, List.set_cons_succ]
      refine anyH_oneG 3 (by kernel_rfl) rfl rfl (fun K hK => ?_)
      refine wp_calls (some 115) rfl 17 _ (ex_call1 17 (.tmp 114) _ rfl _ rfl (fun _ _ => rfl)) (.bool zd) (fun w' => Below wz.heap.size wz w') (DN.out _ BD.out) (fun W1 hR1 => hK _ _ hR1 ?_)
      clear hK K
      simp only [Act.put, List.setIfInBounds_toArray, List.set_cons_zero, List.set_cons_succ]
      have R1 := Lib.hid hR1
      clear hR1
      refine anyH_take 8 (some 120) (.bool true) rfl rfl (by kernel_rfl) (by kernel_rfl) (by kernel_rfl) (fun _ _ _ h => h) rfl (fun W _ => ex_eqlB 4 4 (.tmp 115) (.tmp 119) zd Try.underlying4 rfl rfl rfl) R1.out ?_
      simp only [Act.put, List.setIfInBounds_toArray, List.set_cons_zero, List.set_cons_succ]
      refine anyH_take 9 (some 121) (.bool true) rfl rfl (by kernel_rfl) (by kernel_rfl) (by kernel_rfl) (fun _ _ _ h => h) rfl (fun _ _ => rfl) R1.out ?_
      simp only [Act.put, List.setIfInBounds_toArray, List.set_cons_zero, List.set_cons_succ]
      refine anyH_take 10 (some 122) (.bool true) rfl rfl (by kernel_rfl) (by kernel_rfl) (by kernel_rfl) (fun _ _ _ h => h) rfl (fun _ _ => rfl) R1.out ?_
      simp only [Act.put, List.setIfInBounds_toArray, List.set_cons_zero, List.set_cons_succ]
      refine anyH_take 11 (some 123) (.pointer (some ⟨D, 0, none⟩)) rfl rfl (by kernel_rfl) (by kernel_rfl) (by kernel_rfl) (fun _ _ _ h => h) rfl (fun _ _ => rfl) R1.out ?_
      simp only [Act.put, List.setIfInBounds_toArray, List.set_cons_zero, List.set_cons_succ]
      refine anyH_take 13 (some 125) (.pointer (some ⟨F, 0, none⟩)) rfl rfl (by kernel_rfl) (by kernel_rfl) (by kernel_rfl) (fun _ _ _ h => h) rfl (fun _ _ => rfl) R1.out ?_
      simp only [Act.put, List.setIfInBounds_toArray, List.set_cons_zero, List.set_cons_succ]
      refine anyH_take 14 (some 126) (.pointer (some ⟨F, 0, none⟩)) rfl rfl (by kernel_rfl) (by kernel_rfl) (by kernel_rfl) (fun _ _ _ h => h) rfl (fun _ _ => rfl) R1.out ?_
      simp only [Act.put, List.setIfInBounds_toArray, List.set_cons_zero, List.set_cons_succ]
      refine anyH_take 15 (some 127) (.pointer (some ⟨F, 4, none⟩)) rfl rfl (by kernel_rfl) (by kernel_rfl) (by kernel_rfl) (fun _ _ _ h => h) rfl (fun _ _ => by kernel_rfl) R1.out ?_
      simp only [Act.put, List.setIfInBounds_toArray, List.set_cons_zero, List.set_cons_succ]
      refine anyH_take 16 (some 128) (.int .i64 za) rfl rfl (by kernel_rfl) (by kernel_rfl) (by kernel_rfl) (fun _ _ _ h => h) rfl (fun W hW => ex_load 3 (.tmp 127) rfl _ _ rfl (L128.out W hW)) R1.out ?_
      simp only [Act.put, List.setIfInBounds_toArray, List.set_cons_zero, List.set_cons_succ]
      refine anyH_oneG 12 (by kernel_rfl) rfl rfl (fun K hK => ?_)
      refine wp_calls (some 124) rfl 23 _ (ex_call1 23 (.tmp 123) _ rfl _ rfl (fun _ _ => rfl)) (.int .i64 za) (fun w' => Below wz.heap.size wz w') (AG.out _ R1.out) (fun W2 hR2 => hK _ _ hR2 ?_)
      clear hK K
      simp only [Act.put, List.setIfInBounds_toArray, List.set_cons_zero, List.set_cons_succ]
      have R2 := Lib.hid hR2
      clear hR2
      refine anyH_take 17 (some 129) (.bool true) rfl rfl (by kernel_rfl) (by kernel_rfl) (by kernel_rfl) (fun _ _ _ h => h) rfl (fun W _ => ex_eqlI 3 3 (.tmp 124) (.tmp 128) .i64 za rfl rfl rfl) R2.out ?_
      simp only [Act.put, List.setIfInBounds_toArray, List.set_cons_zero, List.set_cons_succ]
      refine anyH_take 18 (some 130) (.bool true) rfl rfl (by kernel_rfl) (by kernel_rfl) (by kernel_rfl) (fun _ _ _ h => h) rfl (fun _ _ => rfl) R2.out ?_
      simp only [Act.put, List.setIfInBounds_toArray, List.set_cons_zero, List.set_cons_succ]
      refine anyH_take 19 (some 131) (.bool true) rfl rfl (by kernel_rfl) (by kernel_rfl) (by kernel_rfl) (fun _ _ _ h => h) rfl (fun _ _ => rfl) R2.out ?_
      simp only [Act.put, List.setIfInBounds_toArray, List.set_cons_zero, List.set_cons_succ]
      refine anyH_take 20 (some 132) (.pointer (some ⟨D, 0, none⟩)) rfl rfl (by kernel_rfl) (by kernel_rfl) (by kernel_rfl) (fun _ _ _ h => h) rfl (fun _ _ => rfl) R2.out ?_
      simp only [Act.put, List.setIfInBounds_toArray, List.set_cons_zero, List.set_cons_succ]
      refine anyH_take 22 (some 134) (.pointer (some ⟨F, 0, none⟩)) rfl rfl (by kernel_rfl) (by kernel_rfl) (by kernel_rfl) (fun _ _ _ h => h) rfl (fun _ _ => rfl) R2.out ?_
      simp only [Act.put, List.setIfInBounds_toArray, List.set_cons_zero, List.set_cons_succ]
      refine anyH_take 23 (some 135) (.pointer (some ⟨F, 0, none⟩)) rfl rfl (by kernel_rfl) (by kernel_rfl) (by kernel_rfl) (fun _ _ _ h => h) rfl (fun _ _ => rfl) R2.out ?_
      simp only [Act.put, List.setIfInBounds_toArray, List.set_cons_zero, List.set_cons_succ]
      refine anyH_take 24 (some 136) (.pointer (some ⟨F, 1, none⟩)) rfl rfl (by kernel_rfl) (by kernel_rfl) (by kernel_rfl) (fun _ _ _ h => h) rfl (fun _ _ => by kernel_rfl) R2.out ?_
      simp only [Act.put, List.setIfInBounds_toArray, List.set_cons_zero, List.set_cons_succ]
      refine anyH_take 25 (some 137) (.slice la zl lc) rfl rfl (by kernel_rfl) (by kernel_rfl) (by kernel_rfl) (fun _ _ _ h => h) rfl (fun W hW => ex_load 71 (.tmp 136) rfl _ _ rfl (L137.out W hW)) R2.out ?_
      simp only [Act.put, List.setIfInBounds_toArray, List.set_cons_zero, List.set_cons_succ]
      refine anyH_take 26 (some 138) (.int .i64 (zl : Int)) rfl rfl (by kernel_rfl) (by kernel_rfl) (by kernel_rfl) (fun _ _ _ h => h) rfl (fun _ _ => ex_len 71 77 (.tmp 137) rfl Try.underlying71 rfl) R2.out ?_
      simp only [Act.put, List.setIfInBounds_toArray, List.set_cons_zero, List.set_cons_succ]
      refine anyH_oneG 21 (by kernel_rfl) rfl rfl (fun K hK => ?_)
      refine wp_calls (some 133) rfl 18 _ (ex_call1 18 (.tmp 132) _ rfl _ rfl (fun _ _ => rfl)) (.int .i64 (zl : Int)) (fun w' => Below wz.heap.size wz w') (WT.out _ R2.out) (fun W3 hR3 => hK _ _ hR3 ?_)
      clear hK K
      simp only [Act.put, List.setIfInBounds_toArray, List.set_cons_zero, List.set_cons_succ]
      have R3 := Lib.hid hR3
      clear hR3
      refine anyH_take 27 (some 139) (.bool true) rfl rfl (by kernel_rfl) (by kernel_rfl) (by kernel_rfl) (fun _ _ _ h => h) rfl (fun W _ => ex_eqlI 3 3 (.tmp 133) (.tmp 138) .i64 (zl : Int) rfl rfl rfl) R3.out ?_
      simp only [Act.put, List.setIfInBounds_toArray, List.set_cons_zero, List.set_cons_succ]
      refine anyH_take 28 (some 140) (.bool true) rfl rfl (by kernel_rfl) (by kernel_rfl) (by kernel_rfl) (fun _ _ _ h => h) rfl (fun _ _ => rfl) R3.out ?_
      simp only [Act.put, List.setIfInBounds_toArray, List.set_cons_zero, List.set_cons_succ]
      refine anyH_take 29 (some 6) (.bool true) rfl rfl (by kernel_rfl) (by kernel_rfl) (by kernel_rfl) (fun _ _ _ h => h) rfl (fun _ _ => rfl) R3.out ?_
      simp only [Act.put, List.setIfInBounds_toArray, List.set_cons_zero, List.set_cons_succ]
      refine wpAnyH_done (by kernel_rfl) ?_ _
      have HFIN := Lib.hid (HE.out.below R3.out)
      clear HE BD DN AG WT L119 L128 L137 R1 R2 R3
      go_wp2
      go_ret
      exact ⟨rfl, by rw [HSZ.out]; exact HFIN.out⟩
/-- What a deed makes of a disk. -/
def St.did (s : St) (d : Dd) : St := if d.do' = 0 then (s.wrote d.i d.bytes).1 else if d.do' = 1 then s.flushed.1 else if d.do' = 2 then s else if d.do' = 3 then s.cutS d.i else s.crashed d.keep d.torn d.at'
theorem did_small (s : St) (d : Dd) : (s.did d).waits.length ≤ s.waits.length + 1 ∧ (s.did d).age ≤ s.age + 1 := by
  unfold St.did
  split
  · have := wrote_small s d.i d.bytes; omega
  · split
    · have := flushed_small s; omega
    · split
      · omega
      · split
        · have := cut_small s d.i; omega
        · have := crashed_small s d.keep d.torn d.at'; omega
theorem do_any {w0 w : World} {D S c F : Nat} {s : St} (H : TwoE (fun _ => False) w0 w D S c F s s) (d : Dd) (bv kv : Value) (hv : DeedV w0 d bv kv) (hn : s.waits.length + 1 ≤ 1000) (ha : s.age + 1 ≤ 1000) :
    Calls Try.prog 21 #[.pointer (some ⟨D, 0, none⟩), .pointer (some ⟨F, 0, none⟩), .agg #[.int .i64 d.do', .int .i64 d.i, bv, kv, .int .i64 d.torn, .int .i64 d.at']] w fun e w' => e = .returned (.bool true) ∧ TwoE (fun _ => False) w0 w' D S c F (s.did d) (s.did d) := by
  unfold St.did
  by_cases h0 : d.do' = 0
  · rw [if_pos h0]; exact do_write H d bv kv h0 hv hn
  · rw [if_neg h0]
    by_cases h1 : d.do' = 1
    · rw [if_pos h1]; exact do_flush H d bv kv h1
    · rw [if_neg h1]
      by_cases h2 : d.do' = 2
      · rw [if_pos h2]; exact do_read H d bv kv h2
      · rw [if_neg h2]
        by_cases h3 : d.do' = 3
        · rw [if_pos h3]; exact do_cut H d bv kv h3 hv.wi
        · rw [if_neg h3]; exact do_crash H d bv kv ⟨h0, h1, h2, h3⟩ hv ha
end Go.Proofs.Ytohmofhpbmhhjaa

