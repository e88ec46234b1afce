/- Disk: Crash, walked. -/
import Derived.Test.YtohmofhpbmhhjaaD9
namespace Go.Proofs.Ytohmofhpbmhhjaa
open Go Go.RowKit

set_option maxHeartbeats 4000000 in
theorem crash_any {O : Nat → Prop} {w : World} {D S c : Nat} {wv : Value} {s : St} (h : Dsk O w D S c wv s) (ha : s.age + 1 ≤ 1000) (kv : Value) (keep : List Bool) (torn at' : Int) (hv : Bools w kv keep) (hvO : ∀ g, kv.ownBlock = some g → keep ≠ [] → g < w.heap.size ∧ ¬ O g) (hkl : keep.length ≤ 9223372036854775807) :
    Calls Try.prog 14 #[.pointer (some ⟨D, 0, none⟩), .agg #[kv, .int .i64 torn, .int .i64 at']] w fun e w' => e = .returned (.int .i64 0) ∧ Now O w D S c (s.crashed keep torn at') w' := by
  unfold St.crashed
  obtain ⟨f, hf⟩ : ∃ f, f = outl keep torn at' := ⟨_, rfl⟩
  have hfle : ∀ k, f k ≤ 64 := fun k => by rw [hf]; exact outl_le keep torn at' k
  rw [← hf]
  have hz := fun w => (zero_of_info (P := Try.prog) (t := 63) (v := .agg (zeroW 0).toArray) (n := 65) (by kernel_rfl)).1 w
  have hsz := (zero_of_info (P := Try.prog) (t := 63) (v := .agg (zeroW 0).toArray) (n := 65) (by kernel_rfl)).2
  have HFL := Lib.hid hfle
  have HZ := Lib.hid hz
  have HSZ := Lib.hid hsz
  have HZ0 := Lib.hid (zeroW_len 0)
  generalize zeroW 0 = Z0 at *
  obtain ⟨w1, hw1⟩ : ∃ w1, w.alloc (.cells #[kv, .int .i64 torn, .int .i64 at'] 32) = w1 := ⟨_, rfl⟩
  have hb1 : Below w.heap.size w w1 := by rw [← hw1]; exact (Below.refl _ w).alloc (Nat.le_refl _) _
  have hbox : w1.heap[w.heap.size]? = some (.cells #[kv, .int .i64 torn, .int .i64 at'] 32) := by rw [← hw1]; exact heap_alloc_last w _
  have hv1 := hv.below hb1
  have h1 := h.below hb1
  have hOB : ¬ O w.heap.size := fun e => by have := h.lt _ e; omega
  have HBX := Lib.hid hbox
  have HV1 := Lib.hid hv1
  have HFR0 := Lib.hid (Fr.of_below O hb1)
  have H1 := Lib.hid h1
  have HVO := Lib.hid hvO
  have HF := Lib.hid hf
  have hsz1 : w1.heap.size = w.heap.size + 1 := by rw [← hw1]; simp
  have HSZ1 := Lib.hid hsz1
  obtain ⟨wa, wc, rfl, hwc⟩ := h1.wshape
  have hwn := h1.ok.wn
  have c1 := h1.c1
  clear hz hsz hfle hb1 hbox hv1 h1 hv h hvO hf hsz1
  go_enter Try.func14, Try.ntmps14
  go_wp2_with fail
  clear c1 hw1
  go_loopw [14] (fun kv' wr => ∃ k : Nat, kv' = .int .i64 (k : Int) ∧ k ≤ s.waits.length ∧ Hid (Dsk O wr D S c (.slice wa s.waits.length wc) { s with sure := crashL f s.sure s.waits k }) ∧ Hid (Fr O w1 wr)) (fun kv' _ => s.waits.length - (intOf kv').toNat)
  case atStart => exact ⟨0, rfl, Nat.zero_le _, H1.out, Fr.refl _ _⟩
  case round =>
    obtain ⟨k, rfl, hk, hR, hFr⟩ := hrel
    by_cases hlt : k < s.waits.length
    · have hx : s.waits[k]? = some s.waits[k] := List.getElem?_eq_getElem hlt
      have hrd := hR.out
      obtain ⟨g, kc, hwv, hrange, hgO, hgD, hgS⟩ := hrd.writeAt k _ hx
      injection hwv with e1 e2 e3
      subst e1 e3
      have hxw := hrd.ok.writes _ (List.getElem_mem hlt)
      have hlay := crashL_step f s.sure s.waits k _ hx
      have hxl := writes65 hrd.ok _ (List.getElem_mem hlt)
      generalize s.waits[k] = x at *
      obtain ⟨xi, xp⟩ := x
      simp only at hxw hlay
      have hxi : xi < (crashL f s.sure s.waits k).length := hxw.1
      have hpg : (crashL f s.sure s.waits k)[xi]? = some (crashL f s.sure s.waits k)[xi] := List.getElem?_eq_getElem hxi
      have hgetD : (crashL f s.sure s.waits k).getD xi [] = (crashL f s.sure s.waits k)[xi] := by simp [List.getD, hxi]
      rw [hgetD] at hlay
      have hl63 : (Instr.loadAt 63 (.pointer (some ⟨g, k * 65, none⟩))).run Try.prog wr = .ok (.agg (wrC (xi, xp)).toArray) wr := run_loadAt_mid wr g (k * 65) 63 _ _ hrange Try.underlying63 rfl (by rw [HSZ.out, hxl])
      have hcc := all_oneCell_toArray (wrC_cell (x := (xi, xp)))
      have hB : Below wr.heap.size wr (wr.alloc (.cells (wrC (xi, xp)).toArray 63)) := (Below.refl _ wr).alloc (Nat.le_refl _) _
      have hblk : (wr.alloc (.cells (wrC (xi, xp)).toArray 63)).heap[wr.heap.size]? = some (.cells (wrC (xi, xp)).toArray 63) := heap_alloc_last wr _
      have h2 := hrd.below hB
      have hb2 : Fr O w1 (wr.alloc (.cells (wrC (xi, xp)).toArray 63)) := hFr.out.alloc _
      have L63 := Lib.hid hl63
      have HXL := Lib.hid hxl
      have HCC := Lib.hid hcc
      have hSb : S ≠ wr.heap.size := fun e => by have := hrd.lt S hrd.memS.1; omega
      clear hl63 hrd hrange hx hB hxl hcc hR hFr hgetD
      generalize hC : wrC (xi, xp) = C at *
      go_wp2_with (first
        | (refine wpList_load_known rfl 63 (.tmp 17) rfl _ _ rfl L63.out ?_)
        | (refine wpList_alloc_row rfl 63 rfl _ (HZ.out _) ?_)
        | (refine wpList_store_new rfl 63 (.tmp 6) (.tmp 18) rfl _ _ rfl rfl (by rw [HSZ.out, List.size_toArray, HXL.out]) (by rw [List.size_toArray, List.size_toArray, HZ0.out, HXL.out]) HCC.out ?_))
      have hidx : ∀ w, (Instr.indexAt 55 (.slice (some ⟨S, 0, none⟩) (crashL f s.sure s.waits k).length c) (.int .i64 (xi : Int))).run Try.prog w = .ok (.pointer (some ⟨S, xi * 64, none⟩)) w := by
        intro w
        have i1 : (0 : Int) ≤ (xi : Int) := by omega
        have i2 : (xi : Int) < ((crashL f s.sure s.waits k).length : Int) := by omega
        clear h2 hb2 hblk hC hlay hpg hxw
        generalize (crashL f s.sure s.waits k).length = N at *
        go_simp
      have hW : Fr (· = S) (wr.alloc (.cells C.toArray 63)) (wr.alloc (.cells C.toArray 63)).drew := (Fr.refl _ _).drew
      have hsW : wr.heap.size < (wr.alloc (.cells C.toArray 63)).heap.size := by simp
      have hbxW : (wr.alloc (.cells C.toArray 63)).heap[w.heap.size]? = some (.cells #[kv, .int .i64 torn, .int .i64 at'] 32) := (hb2.block _ (by have := HSZ1.out; omega) hOB).trans HBX.out
      have hBS : w.heap.size ≠ S := fun e => hOB (by rw [e]; exact h2.memS.1)
      have hvW : Bools (wr.alloc (.cells C.toArray 63)) kv keep := HV1.out.kept hb2.size (fun g hg hne => hb2.block _ (by have := HSZ1.out; have := (HVO.out g hg hne).1; omega) (HVO.out g hg hne).2)
      have hkS : ∀ g, kv.ownBlock = some g → keep ≠ [] → g ≠ S := fun g hg hne e => (HVO.out g hg hne).2 (by rw [e]; exact h2.memS.1)
      have hl55 : ∀ W, Fr (· = S) (wr.alloc (.cells C.toArray 63)) W → (Instr.loadAt 55 (.pointer (some ⟨D, 0, none⟩))).run Try.prog W = .ok (.slice (some ⟨S, 0, none⟩) (crashL f s.sure s.waits k).length c) W := fun W hWf => by
        have hc : W.cell? ⟨D, 0, none⟩ = some (.slice (some ⟨S, 0, none⟩) (crashL f s.sure s.waits k).length c) := (World.cell?_of_block (a := ⟨D, 0, none⟩) (hWf.block D (h2.lt D h2.memD) (Ne.symm h2.memS.2))).trans h2.c0
        clear h2 hb2 hblk hC hlay hpg hxw hWf hW hbxW hvW
        generalize (crashL f s.sure s.waits k).length = N at *
        go_simp
      have hl3 : ∀ W, Fr (· = S) (wr.alloc (.cells C.toArray 63)) W → (Instr.loadAt 3 (.pointer (some ⟨wr.heap.size, 0, none⟩))).run Try.prog W = .ok (.int .i64 (xi : Int)) W := fun W hWf => by
        have hc : W.cell? ⟨wr.heap.size, 0, none⟩ = some (.int .i64 (xi : Int)) := by
          rw [cell_of_row W _ _ _ _ _ ((hWf.block _ hsW (Ne.symm hSb)).trans hblk), ← hC]; rfl
        clear h2 hb2 hblk hC hlay hpg hxw hWf hW hbxW hvW
        go_simp
      have hl32 : ∀ W, Fr (· = S) (wr.alloc (.cells C.toArray 63)) W → (Instr.loadAt 32 (.pointer (some ⟨w.heap.size, 0, none⟩))).run Try.prog W = .ok (.agg #[kv, .int .i64 torn, .int .i64 at']) W := fun W hWf =>
        run_loadAt_mid W w.heap.size 0 32 [kv, .int .i64 torn, .int .i64 at'] _ (fun j v hj => by
          rw [cell_of_row W _ _ _ _ _ ((hWf.block _ (by have := HSZ1.out; have := hb2.size; omega) hBS).trans hbxW)]
          simpa using hj) Try.underlying32 rfl (by kernel_rfl)
      have hcall : ∀ W, Fr (· = S) (wr.alloc (.cells C.toArray 63)) W → Calls Try.prog 27 #[.agg #[kv, .int .i64 torn, .int .i64 at'], .int .i64 (k : Int)] W fun e w' => e = .returned (.int .i64 (f k : Nat)) ∧ Fr (· = S) (wr.alloc (.cells C.toArray 63)) w' ∧ Below W.heap.size W w' := fun W hWf => by
        refine (outlives_any kv keep torn at' k W (by omega) (hvW.kept hWf.size (fun g hg hne => hWf.block g (by have := HSZ1.out; have := hb2.size; have := (HVO.out g hg hne).1; omega) (hkS g hg hne))) hkl).mono ?_
        rintro e w' ⟨he, hb⟩
        exact ⟨by rw [he, ← HF.out], hWf.trans (Fr.of_below (fun _ => False) hb) (fun _ _ e => e) (fun _ _ e => e.elim), hb⟩
      have hsl0 : ∀ w, (Instr.sliceAt 61 (.pointer (some ⟨S, xi * 64, none⟩)) none none none).run Try.prog w = .ok (.slice (some ⟨S, xi * 64, none⟩) 64 64) w := fun w => by
        clear h2 hb2 hblk hC hlay hpg hxw hW hbxW hvW hl55 hl3 hl32 hcall
        go_simp
      have hfk := HFL.out k
      have hsl1 : ∀ w, (Instr.sliceAt 61 (.pointer (some ⟨wr.heap.size, 1, none⟩)) none (some (.int .i64 (f k : Nat))) none).run Try.prog w = .ok (.slice (some ⟨wr.heap.size, 1, none⟩) (f k) 64) w := fun w => by
        clear h2 hb2 hblk hC hlay hpg hxw hW hbxW hvW hl55 hl3 hl32 hcall
        generalize f k = m at *
        have m0 : (0 : Int) ≤ (m : Int) := by omega
        have m1 : (m : Int) ≤ 64 := by omega
        go_simp
      have hb0 : Below (wr.alloc (.cells C.toArray 63)).heap.size (wr.alloc (.cells C.toArray 63)) (wr.alloc (.cells C.toArray 63)).drew := (Below.refl _ _).drew
      have hcallD := (hcall _ hW).mono (R' := fun e w' => e = .returned (.int .i64 (f k : Nat)) ∧ Fr (· = S) (wr.alloc (.cells C.toArray 63)) w' ∧ Below (wr.alloc (.cells C.toArray 63)).heap.size (wr.alloc (.cells C.toArray 63)) w') (fun e w' ⟨q1, q2, q3⟩ => ⟨q1, q2, hb0.trans (q3.mono hb0.size)⟩)
      have HW := Lib.hid hW
      have IDX := Lib.hid hidx
      have L55 := Lib.hid hl55
      have L3 := Lib.hid hl3
      have L32 := Lib.hid hl32
      have CALL := Lib.hid hcallD
      have SL0 := Lib.hid hsl0
      have SL1 := Lib.hid hsl1
      have H2 := Lib.hid h2
      have HB2 := Lib.hid hb2
      have HBLK := Lib.hid hblk
      have HC := Lib.hid hC
      have HLAY := Lib.hid hlay
      have HPG := Lib.hid hpg
      have HXW := Lib.hid hxw
      clear hW hidx hl55 hl3 hl32 hcall hcallD hsl0 hsl1 h2 hb2 hblk hC hlay hpg hxw hbxW hvW hkS hb0
      refine wp_region_held_drew (S := Fr (· = S) (wr.alloc (.cells C.toArray 63))) (by kernel_rfl) HW.out (fun hS0' => ?_)
      have hS0 := Lib.hid hS0'
      clear hS0'
      refine anyH_take 0 (some 19) (.pointer (some ⟨D, 0, none⟩)) rfl rfl (by kernel_rfl) (by kernel_rfl) (by kernel_rfl) (fun _ _ _ h => h) rfl (fun w _ => rfl) hS0.out ?_
      simp only [Act.put, List.setIfInBounds_toArray, List.set_cons_zero, List.set_cons_succ]
      refine anyH_take 1 (some 20) (.pointer (some ⟨D, 0, none⟩)) rfl rfl (by kernel_rfl) (by kernel_rfl) (by kernel_rfl) (fun _ _ _ h => h) rfl (fun w _ => rfl) hS0.out ?_
      simp only [Act.put, List.setIfInBounds_toArray, List.set_cons_zero, List.set_cons_succ]
      refine anyH_take 2 (some 21) (.pointer (some ⟨D, 0, none⟩)) rfl rfl (by kernel_rfl) (by kernel_rfl) (by kernel_rfl) (fun _ _ _ h => h) rfl (fun w _ => by kernel_rfl) hS0.out ?_
      simp only [Act.put, List.setIfInBounds_toArray, List.set_cons_zero, List.set_cons_succ]
      refine anyH_take 3 (some 22) (.slice (some ⟨S, 0, none⟩) (crashL f s.sure s.waits k).length c) rfl rfl (by kernel_rfl) (by kernel_rfl) (by kernel_rfl) (fun _ _ _ h => h) rfl (fun w hw => ex_load 55 (.tmp 21) rfl _ _ rfl (L55.out w hw)) hS0.out ?_
      simp only [Act.put, List.setIfInBounds_toArray, List.set_cons_zero, List.set_cons_succ]
      refine anyH_take 4 (some 23) (.pointer (some ⟨wr.heap.size, 0, none⟩)) rfl rfl (by kernel_rfl) (by kernel_rfl) (by kernel_rfl) (fun _ _ _ h => h) rfl (fun w _ => by kernel_rfl) hS0.out ?_
      simp only [Act.put, List.setIfInBounds_toArray, List.set_cons_zero, List.set_cons_succ]
      refine anyH_take 5 (some 24) (.int .i64 (xi : Int)) rfl rfl (by kernel_rfl) (by kernel_rfl) (by kernel_rfl) (fun _ _ _ h => h) rfl (fun w hw => ex_load 3 (.tmp 23) rfl _ _ rfl (L3.out w hw)) hS0.out ?_
      simp only [Act.put, List.setIfInBounds_toArray, List.set_cons_zero, List.set_cons_succ]
      refine anyH_take 6 (some 25) (.pointer (some ⟨S, xi * 64, none⟩)) rfl rfl (by kernel_rfl) (by kernel_rfl) (by kernel_rfl) (fun _ _ _ h => h) rfl (fun w hw => ex_index 55 (.tmp 22) (.tmp 24) rfl _ _ _ rfl rfl (IDX.out w)) hS0.out ?_
      simp only [Act.put, List.setIfInBounds_toArray, List.set_cons_zero, List.set_cons_succ]
      refine anyH_take 7 (some 26) (.slice (some ⟨S, xi * 64, none⟩) 64 64) rfl rfl (by kernel_rfl) (by kernel_rfl) (by kernel_rfl) (fun _ _ _ h => h) rfl (fun w hw => ex_sliceAll 61 (.tmp 25) rfl _ _ rfl (SL0.out w)) hS0.out ?_
      simp only [Act.put, List.setIfInBounds_toArray, List.set_cons_zero, List.set_cons_succ]
      refine anyH_take 8 (some 27) (.pointer (some ⟨wr.heap.size, 1, none⟩)) rfl rfl (by kernel_rfl) (by kernel_rfl) (by kernel_rfl) (fun _ _ _ h => h) rfl (fun w _ => by kernel_rfl) hS0.out ?_
      simp only [Act.put, List.setIfInBounds_toArray, List.set_cons_zero, List.set_cons_succ]
      refine anyH_take 9 (some 28) (.agg #[kv, .int .i64 torn, .int .i64 at']) rfl rfl (by kernel_rfl) (by kernel_rfl) (by kernel_rfl) (fun _ _ _ h => h) rfl (fun w hw => ex_load 32 (.tmp 3) rfl _ _ rfl (L32.out w hw)) hS0.out ?_
      simp only [Act.put, List.setIfInBounds_toArray, List.set_cons_zero, List.set_cons_succ]
      refine anyH_take 10 (some 29) (.int .i64 (k : Int)) rfl rfl (by kernel_rfl) (by kernel_rfl) (by kernel_rfl) (fun _ _ _ h => h) rfl (fun w _ => rfl) hS0.out ?_
      simp only [Act.put, List.setIfInBounds_toArray, List.set_cons_zero, List.set_cons_succ]
      refine anyH_one 11 (by kernel_rfl) rfl rfl (fun K hK => wp_calls (some 30) rfl 27 #[.agg #[kv, .int .i64 torn, .int .i64 at'], .int .i64 (k : Int)] (ex_call2 27 (.tmp 28) (.tmp 29) _ rfl _ _ rfl rfl (fun _ _ => rfl)) (.int .i64 (f k : Nat)) (fun w' => Fr (· = S) (wr.alloc (.cells C.toArray 63)) w' ∧ Below (wr.alloc (.cells C.toArray 63)).heap.size (wr.alloc (.cells C.toArray 63)) w') CALL.out (fun W1 hR1 => hK _ _ hR1.1 ?_))
      simp only [Act.put, List.setIfInBounds_toArray, List.set_cons_zero, List.set_cons_succ]
      have hS1 := Lib.hid hR1.1
      have h3 := H2.out.below hR1.2
      have hfkl : (xp.take (f k)).length = f k := by rw [List.length_take, HXW.out.2]; exact Nat.min_eq_left hfk
      obtain ⟨h4, f4⟩ := h3.part xi _ HPG.out (xp.take (f k)) (by rw [hfkl]; exact hfk)
      have hblk1 : W1.heap[wr.heap.size]? = some (.cells C.toArray 63) := (hR1.2.block _ hsW).trans HBLK.out
      have hcp : ∀ ty, (Builtin.copy_ #[29, 29] ty #[.slice (some ⟨S, xi * 64, none⟩) 64 64, .slice (some ⟨wr.heap.size, 1, none⟩) (f k) 64]).run Try.prog W1 = .ok (goInt (pgC (xp.take (f k))).length) (W1.setCells S (xi * 64) (pgC (xp.take (f k)))) := fun ty => by
        have hcl : (pgC (xp.take (f k))).length = f k := by rw [pgC_len, hfkl]
        have hth := owns_there h3.sure (xi * 64) (f k) (by have := Nat.mul_le_mul_right 64 (show xi + 1 ≤ (crashL f s.sure s.waits k).length by omega); simp only; omega)
        refine run_copy_cells W1 29 29 ty 5 S (xi * 64) 64 64 ⟨wr.heap.size, 1, none⟩ (f k) 64 _ Try.underlying29 (by kernel_rfl) (by rw [hcl]; exact (Nat.min_eq_left hfk).symm) (fun j v hj => ?_) (fun j hj => (hth j (by omega)).1) (fun j hj => (hth j (by omega)).2) pgC_cell
        rw [Addr.add_mid, cell_of_row W1 _ _ _ _ _ hblk1, ← HC.out]
        rw [← pgC_take, List.getElem?_take] at hj
        split at hj
        · simpa [wrC, Nat.add_comm 1] using hj
        · cases hj
      have hrel : Hid (Dsk O (W1.setCells S (xi * 64) (pgC (xp.take (f k)))) D S c (.slice (some ⟨g, 0, none⟩) s.waits.length wc) { s with sure := crashL f s.sure s.waits (k + 1) }) := by
        rw [HLAY.out]
        rw [hfkl] at h4
        exact h4
      have hfr4 : Hid (Fr O w1 (W1.setCells S (xi * 64) (pgC (xp.take (f k))))) := (HB2.out.trans (Fr.of_below O hR1.2) (fun _ _ e => e) (fun _ _ e => e)).trans f4 (fun _ _ e => e) (fun _ _ e => e)
      have hS2 : Hid (Fr (· = S) (wr.alloc (.cells C.toArray 63)) (W1.setCells S (xi * 64) (pgC (xp.take (f k))))) := hS1.out.setCells S (xi * 64) (Or.inl rfl) _
      have CP := Lib.hid hcp
      clear hcp h4 f4 h3 hblk1 hR1 hfkl
      refine anyH_take 12 (some 31) (.slice (some ⟨wr.heap.size, 1, none⟩) (f k) 64) rfl rfl (by kernel_rfl) (by kernel_rfl) (by kernel_rfl) (fun _ _ _ h => h) rfl (fun w hw => ex_sliceTo 61 (.tmp 27) (.tmp 30) rfl _ _ _ rfl rfl (SL1.out w)) hS1.out ?_
      simp only [Act.put, List.setIfInBounds_toArray, List.set_cons_zero, List.set_cons_succ]
      refine anyH_one 13 (by kernel_rfl) rfl rfl (fun K hK => wp_runs (some 32) rfl (ex_copy (.tmp 26) (.tmp 31) 29 29 rfl _ _ _ rfl rfl CP.out) (hK _ _ hS2.out ?_))
      simp only [Act.put, List.setIfInBounds_toArray, List.set_cons_zero, List.set_cons_succ]
      refine wpAnyH_done (by kernel_rfl) ?_ _
      clear HW IDX L55 L3 L32 CALL SL0 SL1 H2 HB2 HBLK HC HLAY HPG HXW HXL HCC L63 CP hS2 hS1 hS0
      go_wp2
      go_roundw
      case rel => exact ⟨k + 1, by go_num, by omega, hrel, hfr4⟩
      case measure => simp [intOf]; omega
    · obtain hkn : k = s.waits.length := by omega
      have hrd := hR.out
      rw [hkn] at hrd
      obtain ⟨he, hfe⟩ := hrd.crashed ha
      have c1 := hrd.c1
      have c2 := hrd.c2
      have c3 := hrd.c3
      have c4 := hrd.c4
      have f1 := hrd.free 1
      have f2 := hrd.free 2
      have f3 := hrd.free 3
      have f4 := hrd.free 4
      have hnow : Now O w D S c { sure := crashL f s.sure s.waits s.waits.length, waits := [], cut := 0, down := false, age := s.age + 1 } _ :=
        ⟨O, .slice none 0 0, he, (HFR0.out.trans hFr.out (fun _ _ e => e) (fun _ _ e => e)).trans hfe (fun _ _ e => e) (fun _ _ e => e), fun _ h => Or.inl h⟩
      have N := Lib.hid hnow
      have han : s.age + 1 ≤ 1000 := ha
      clear he hfe hrd hR hFr hkn hnow ha
      simp only at c4
      go_wp2
      go_ret
      exact ⟨rfl, N.out⟩
end Go.Proofs.Ytohmofhpbmhhjaa
