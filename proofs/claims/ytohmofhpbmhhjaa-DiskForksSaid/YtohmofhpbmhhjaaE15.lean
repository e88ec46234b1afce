/- Disk: what the law's do tells of the two: Read. -/
import Derived.Test.YtohmofhpbmhhjaaE14
namespace Go.Proofs.Ytohmofhpbmhhjaa
open Go Go.RowKit

theorem xor_one (b : Nat) (hb : b < 256) : ∃ b' : Nat, b' < 256 ∧ bits BinOp.xor IntKind.u8 (b : Int) 1 = (b' : Int) :=
  ⟨b ^^^ 1, Nat.xor_lt_two_pow (n := 8) hb (by decide), u8_xor_nat b 1 hb (by decide)⟩
set_option maxRecDepth 100000 in
set_option maxHeartbeats 8000000 in
theorem do_read {w0 w : World} {D S c F : Nat} {s : St} (H : TwoE (fun _ => False) w0 w D S c F s s) (d : Dd) (bv kv : Value) (h1 : d.do' = 2) :
    Calls Try.prog 21 #[.pointer (some ⟨D, 0, none⟩), .pointer (some ⟨F, 0, none⟩), .agg #[.int .i64 d.do', .int .i64 d.i, bv, kv, .int .i64 d.torn, .int .i64 d.at']] w fun e w' => e = .returned (.bool true) ∧ TwoE (fun _ => False) w0 w' D S c F s s := by
  obtain ⟨do', i, bytes, keep, torn, at'⟩ := d
  simp only at h1
  simp only
  have hb : Below w.heap.size w (w.alloc (.cells #[.int .i64 do', .int .i64 i, bv, kv, .int .i64 torn, .int .i64 at'] 39)) := (Below.refl _ w).alloc (Nat.le_refl _) _
  obtain ⟨wb, hwb⟩ : ∃ wb, w.alloc (.cells #[.int .i64 do', .int .i64 i, bv, kv, .int .i64 torn, .int .i64 at'] 39) = wb := ⟨_, rfl⟩
  have hbx : wb.heap[w.heap.size]? = some (.cells #[.int .i64 do', .int .i64 i, bv, kv, .int .i64 torn, .int .i64 at'] 39) := by rw [← hwb]; exact heap_alloc_last w _
  have hsb : wb.heap.size = w.heap.size + 1 := by rw [← hwb]; simp
  have k0 : wb.cell? ⟨w.heap.size, 0, none⟩ = some (.int .i64 do') := by rw [cell_of_row _ _ _ _ _ _ hbx]; rfl
  rw [hwb] at hb
  have Hb := H.below hb
  have k1 : wb.cell? ⟨w.heap.size, 1, none⟩ = some (.int .i64 i) := by rw [cell_of_row _ _ _ _ _ _ hbx]; rfl
  have q0 : (do' == 0) = false := by rw [h1]; rfl
  have q1 : (do' == 1) = false := by rw [h1]; rfl
  have q2 : (do' == 2) = true := by rw [h1]; rfl
  have HR1 := Lib.hid (two_read Hb i)
  have HB := Lib.hid Hb
  have HOK := Lib.hid Hb.ok.1
  obtain ⟨sz, hsz⟩ : ∃ sz, s = sz := ⟨_, rfl⟩
  have HSZ : Hid (s = s) := rfl
  clear hsz
  clear hb hbx H Hb hsb h1
  go_enter Try.func21, Try.ntmps21
  cases hd : s.down
  · have HD := Lib.hid hd
    clear hd
    by_cases hin : 0 ≤ i ∧ i < (s.sure.length : Int)
    · have hlt : i.toNat < s.sure.length := by omega
      have HRL := Lib.hid (s_reads64 HOK.out hlt)
      have HIN := Lib.hid hin
      clear hlt hin HOK
      go_wp2_with fail
      refine HR1.out.mono ?_
      intro e w1 hT
      unfold ReadR at hT
      rw [if_neg (by rw [HD.out]; simp), if_pos HIN.out] at hT
      obtain ⟨b, rfl, hb1, hbg, hB1⟩ := hT
      have hblt : b < w1.heap.size := (Array.getElem?_eq_some_iff.1 hb1).1
      have hb0 : w0.heap.size ≤ b := Nat.le_trans HB.out.bel.size hbg
      have HB1 := Lib.hid (HB.out.apart hB1 (fun k => k = b) (fun k hk => by subst hk; exact ⟨hbg, hblt⟩))
      have HR2 := Lib.hid (two_rread HB1.out i)
      have k1a := (hB1.cell (p := ⟨w.heap.size, 1, none⟩) (World.block_lt_of_cell? _ _ k1)).trans k1
      have Y1 := Lib.hid (told_byt HRL.out hb1)
      have FL1 := Lib.hid (flips_page HRL.out hb1)
      have HBG := Lib.hid hb0
      have HBL := Lib.hid hblt
      clear hB1 HR1 k1 hb1 hbg hblt hb0
      go_wp2_with fail
      refine HR2.out.mono ?_
      intro e w2 hT
      unfold RReadR at hT
      rw [if_neg (by rw [HD.out]; simp), if_pos HIN.out] at hT
      obtain ⟨v2, rfl, hy2, _, hB2⟩ := hT
      have HB2 := Lib.hid (HB1.out.below hB2)
      have FL2 := Lib.hid (FL1.out.kept (fun g hg => by cases hg; exact hB2.block _ HBL.out))
      have q5 := cv_byt (Y1.out.below hB2)
      have q6 := cv_byt hy2
      clear hB2 HR2 HB1 HB k1a Y1 hy2 FL1 HBL
      generalize s.reads i.toNat = R at *
      go_wp2_with fail
      clear q5 q6
      go_loopw [14] (fun iv wr => ∃ k : Nat, iv = .int .i64 (k : Int) ∧ k ≤ 64 ∧ Hid (TwoE (fun k => k = b) w0 wr D S c F s s ∧ Flips wr (.slice (some ⟨b, 0, none⟩) 64 64) 64)) (fun iv _ => 64 - (intOf iv).toNat)
      case atStart => exact ⟨0, rfl, by omega, HB2.out, FL2.out⟩
      case round =>
        clear HB2 FL2
        obtain ⟨k, rfl, hk, hH⟩ := hrel
        by_cases hgo : (k : Int) < ((64 : Nat) : Int)
        · obtain ⟨a', c', he, hj⟩ := hH.out.2
          cases he
          obtain ⟨g', o', he, hj⟩ := hj (by omega)
          cases he
          obtain ⟨⟨x, hx, hc⟩, hf⟩ := hj k (by omega)
          obtain ⟨y, hy, hxy⟩ := xor_one x hx
          rw [Nat.zero_add] at hc hf
          have hfr : Fr (· = b) wr (wr.setCell ⟨b, k, none⟩ (.int .u8 (y : Int))) := (Fr.refl (· = b) wr).setCell ⟨b, k, none⟩ (Or.inl rfl) _
          have hN := Lib.hid (And.intro (hH.out.1.fr hfr (fun j _ e => by subst e; exact ⟨HBG.out, rfl⟩)) (by have := hH.out.2.set (k := k) y hy; rwa [Nat.zero_add] at this : Flips (wr.setCell ⟨b, k, none⟩ (.int .u8 (y : Int))) (.slice (some ⟨b, 0, none⟩) 64 64) 64))
          clear hfr hj hH
          go_wp2
          go_roundw
          case rel => exact ⟨k + 1, by go_num, by omega, hN⟩
          case measure => simp [intOf]; omega
        · have HE := Lib.hid hH.out.1.any
          clear hH
          go_wp2_with fail
          generalize wr = wz at *
          have hbd : Below wz.heap.size wz wz.drew := (Below.refl _ wz).drew
          have hdn : ∀ W, Below wz.heap.size wz W → Calls Try.prog 17 #[.pointer (some ⟨D, 0, none⟩)] W fun e w' => e = .returned (.bool s.down) ∧ Below wz.heap.size wz w' := fun W hW => (two_down (HE.out.below hW)).mono fun e w' ⟨q1, q2⟩ => by subst q2; exact ⟨q1, hW⟩
          have hag : ∀ W, Below wz.heap.size wz W → Calls Try.prog 23 #[.pointer (some ⟨D, 0, none⟩)] W fun e w' => e = .returned (.int .i64 (s.age : Int)) ∧ Below wz.heap.size wz w' := fun W hW => (two_age (HE.out.below hW)).mono fun e w' ⟨q1, q2⟩ => by subst q2; exact ⟨q1, hW⟩
          have hwt : ∀ W, Below wz.heap.size wz W → Calls Try.prog 18 #[.pointer (some ⟨D, 0, none⟩)] W fun e w' => e = .returned (.int .i64 (s.waits.length : Int)) ∧ Below wz.heap.size wz w' := fun W hW => (two_waits (HE.out.below hW)).mono fun e w' ⟨q1, q2⟩ => by subst q2; exact ⟨q1, hW⟩
          obtain ⟨_, _, la, lc, _, d1, d2, d4⟩ := HE.out.cells
          have hl119 : ∀ W, Below wz.heap.size wz W → (Instr.loadAt 4 (.pointer (some ⟨F, 2, none⟩))).run Try.prog W = .ok (.bool s.down) W := fun W hW => by
            have hc := (hW.cell (p := ⟨F, 2, none⟩) (World.block_lt_of_cell? _ _ d2)).trans d2
            go_simp
          have hl128 : ∀ W, Below wz.heap.size wz W → (Instr.loadAt 3 (.pointer (some ⟨F, 4, none⟩))).run Try.prog W = .ok (.int .i64 (s.age : Int)) W := fun W hW => by
            have hc := (hW.cell (p := ⟨F, 4, none⟩) (World.block_lt_of_cell? _ _ d4)).trans d4
            go_simp
          have hl137 : ∀ W, Below wz.heap.size wz W → (Instr.loadAt 71 (.pointer (some ⟨F, 1, none⟩))).run Try.prog W = .ok (.slice la s.waits.length lc) W := fun W hW => by
            have hc := (hW.cell (p := ⟨F, 1, none⟩) (World.block_lt_of_cell? _ _ d1)).trans d1
            go_simp
          have BD := Lib.hid hbd
          have DN := Lib.hid hdn
          have AG := Lib.hid hag
          have WT := Lib.hid hwt
          have L119 := Lib.hid hl119
          have L128 := Lib.hid hl128
          have L137 := Lib.hid hl137
          clear hbd hdn hag hwt hl119 hl128 hl137 d1 d2 d4
          generalize s.down = zd at *
          generalize (s.age : Int) = za at *
          generalize s.waits.length = zl at *
          refine wp_region_held_drew (S := Below wz.heap.size wz) (by kernel_rfl) BD.out (fun _ => ?_)
          refine anyH_take 0 (some 112) (.bool true) rfl rfl (by kernel_rfl) (by kernel_rfl) (by kernel_rfl) (fun _ _ _ h => h) rfl (fun _ _ => rfl) BD.out ?_
          simp only [Act.put, List.setIfInBounds_toArray, List.set_cons_zero, List.set_cons_succ]
          refine anyH_take 1 (some 113) (.bool true) rfl rfl (by kernel_rfl) (by kernel_rfl) (by kernel_rfl) (fun _ _ _ h => h) rfl (fun _ _ => rfl) BD.out ?_
          simp only [Act.put, List.setIfInBounds_toArray, List.set_cons_zero, List.set_cons_succ]
          refine anyH_take 2 (some 114) (.pointer (some ⟨D, 0, none⟩)) rfl rfl (by kernel_rfl) (by kernel_rfl) (by kernel_rfl) (fun _ _ _ h => h) rfl (fun _ _ => rfl) BD.out ?_
          simp only [Act.put, List.setIfInBounds_toArray, List.set_cons_zero, List.set_cons_succ]
          refine anyH_take 4 (some 116) (.pointer (some ⟨F, 0, none⟩)) rfl rfl (by kernel_rfl) (by kernel_rfl) (by kernel_rfl) (fun _ _ _ h => h) rfl (fun _ _ => rfl) BD.out ?_
          simp only [Act.put, List.setIfInBounds_toArray, List.set_cons_zero, List.set_cons_succ]
          refine anyH_take 5 (some 117) (.pointer (some ⟨F, 0, none⟩)) rfl rfl (by kernel_rfl) (by kernel_rfl) (by kernel_rfl) (fun _ _ _ h => h) rfl (fun _ _ => rfl) BD.out ?_
          simp only [Act.put, List.setIfInBounds_toArray, List.set_cons_zero, List.set_cons_succ]
          refine anyH_take 6 (some 118) (.pointer (some ⟨F, 2, none⟩)) rfl rfl (by kernel_rfl) (by kernel_rfl) (by kernel_rfl) (fun _ _ _ h => h) rfl (fun _ _ => by kernel_rfl) BD.out ?_
          simp only [Act.put, List.setIfInBounds_toArray, List.set_cons_zero, List.set_cons_succ]
          refine anyH_take 7 (some 119) (.bool zd) rfl rfl (by kernel_rfl) (by kernel_rfl) (by kernel_rfl) (fun _ _ _ h => h) rfl (fun W hW => ex_load 4 (.tmp 118) rfl _ _ rfl (L119.out W hW)) BD.out ?_
          simp only [Act.put, List.setIfInBounds_toArray, List.set_cons_zero, List.set_cons_succ]
          refine anyH_oneG 3 (by kernel_rfl) rfl rfl (fun K hK => ?_)
          refine wp_calls (some 115) rfl 17 _ (ex_call1 17 (.tmp 114) _ rfl _ rfl (fun _ _ => rfl)) (.bool zd) (fun w' => Below wz.heap.size wz w') (DN.out _ BD.out) (fun W1 hR1 => hK _ _ hR1 ?_)
          clear hK K
          simp only [Act.put, List.setIfInBounds_toArray, List.set_cons_zero, List.set_cons_succ]
          have R1 := Lib.hid hR1
          clear hR1
          refine anyH_take 8 (some 120) (.bool true) rfl rfl (by kernel_rfl) (by kernel_rfl) (by kernel_rfl) (fun _ _ _ h => h) rfl (fun W _ => ex_eqlB 4 4 (.tmp 115) (.tmp 119) zd Try.underlying4 rfl rfl rfl) R1.out ?_
          simp only [Act.put, List.setIfInBounds_toArray, List.set_cons_zero, List.set_cons_succ]
          refine anyH_take 9 (some 121) (.bool true) rfl rfl (by kernel_rfl) (by kernel_rfl) (by kernel_rfl) (fun _ _ _ h => h) rfl (fun _ _ => rfl) R1.out ?_
          simp only [Act.put, List.setIfInBounds_toArray, List.set_cons_zero, List.set_cons_succ]
          refine anyH_take 10 (some 122) (.bool true) rfl rfl (by kernel_rfl) (by kernel_rfl) (by kernel_rfl) (fun _ _ _ h => h) rfl (fun _ _ => rfl) R1.out ?_
          simp only [Act.put, List.setIfInBounds_toArray, List.set_cons_zero, List.set_cons_succ]
          refine anyH_take 11 (some 123) (.pointer (some ⟨D, 0, none⟩)) rfl rfl (by kernel_rfl) (by kernel_rfl) (by kernel_rfl) (fun _ _ _ h => h) rfl (fun _ _ => rfl) R1.out ?_
          simp only [Act.put, List.setIfInBounds_toArray, List.set_cons_zero, List.set_cons_succ]
          refine anyH_take 13 (some 125) (.pointer (some ⟨F, 0, none⟩)) rfl rfl (by kernel_rfl) (by kernel_rfl) (by kernel_rfl) (fun _ _ _ h => h) rfl (fun _ _ => rfl) R1.out ?_
          simp only [Act.put, List.setIfInBounds_toArray, List.set_cons_zero, List.set_cons_succ]
          refine anyH_take 14 (some 126) (.pointer (some ⟨F, 0, none⟩)) rfl rfl (by kernel_rfl) (by kernel_rfl) (by kernel_rfl) (fun _ _ _ h => h) rfl (fun _ _ => rfl) R1.out ?_
          simp only [Act.put, List.setIfInBounds_toArray, List.set_cons_zero, List.set_cons_succ]
          refine anyH_take 15 (some 127) (.pointer (some ⟨F, 4, none⟩)) rfl rfl (by kernel_rfl) (by kernel_rfl) (by kernel_rfl) (fun _ _ _ h => h) rfl (fun _ _ => by kernel_rfl) R1.out ?_
          simp only [Act.put, List.setIfInBounds_toArray, List.set_cons_zero, List.set_cons_succ]
          refine anyH_take 16 (some 128) (.int .i64 za) rfl rfl (by kernel_rfl) (by kernel_rfl) (by kernel_rfl) (fun _ _ _ h => h) rfl (fun W hW => ex_load 3 (.tmp 127) rfl _ _ rfl (L128.out W hW)) R1.out ?_
          simp only [Act.put, List.setIfInBounds_toArray, List.set_cons_zero, List.set_cons_succ]
          refine anyH_oneG 12 (by kernel_rfl) rfl rfl (fun K hK => ?_)
          refine wp_calls (some 124) rfl 23 _ (ex_call1 23 (.tmp 123) _ rfl _ rfl (fun _ _ => rfl)) (.int .i64 za) (fun w' => Below wz.heap.size wz w') (AG.out _ R1.out) (fun W2 hR2 => hK _ _ hR2 ?_)
          clear hK K
          simp only [Act.put, List.setIfInBounds_toArray, List.set_cons_zero, List.set_cons_succ]
          have R2 := Lib.hid hR2
          clear hR2
          refine anyH_take 17 (some 129) (.bool true) rfl rfl (by kernel_rfl) (by kernel_rfl) (by kernel_rfl) (fun _ _ _ h => h) rfl (fun W _ => ex_eqlI 3 3 (.tmp 124) (.tmp 128) .i64 za rfl rfl rfl) R2.out ?_
          simp only [Act.put, List.setIfInBounds_toArray, List.set_cons_zero, List.set_cons_succ]
          refine anyH_take 18 (some 130) (.bool true) rfl rfl (by kernel_rfl) (by kernel_rfl) (by kernel_rfl) (fun _ _ _ h => h) rfl (fun _ _ => rfl) R2.out ?_
          simp only [Act.put, List.setIfInBounds_toArray, List.set_cons_zero, List.set_cons_succ]
          refine anyH_take 19 (some 131) (.bool true) rfl rfl (by kernel_rfl) (by kernel_rfl) (by kernel_rfl) (fun _ _ _ h => h) rfl (fun _ _ => rfl) R2.out ?_
          simp only [Act.put, List.setIfInBounds_toArray, List.set_cons_zero, List.set_cons_succ]
          refine anyH_take 20 (some 132) (.pointer (some ⟨D, 0, none⟩)) rfl rfl (by kernel_rfl) (by kernel_rfl) (by kernel_rfl) (fun _ _ _ h => h) rfl (fun _ _ => rfl) R2.out ?_
          simp only [Act.put, List.setIfInBounds_toArray, List.set_cons_zero, List.set_cons_succ]
          refine anyH_take 22 (some 134) (.pointer (some ⟨F, 0, none⟩)) rfl rfl (by kernel_rfl) (by kernel_rfl) (by kernel_rfl) (fun _ _ _ h => h) rfl (fun _ _ => rfl) R2.out ?_
          simp only [Act.put, List.setIfInBounds_toArray, List.set_cons_zero, List.set_cons_succ]
          refine anyH_take 23 (some 135) (.pointer (some ⟨F, 0, none⟩)) rfl rfl (by kernel_rfl) (by kernel_rfl) (by kernel_rfl) (fun _ _ _ h => h) rfl (fun _ _ => rfl) R2.out ?_
          simp only [Act.put, List.setIfInBounds_toArray, List.set_cons_zero, List.set_cons_succ]
          refine anyH_take 24 (some 136) (.pointer (some ⟨F, 1, none⟩)) rfl rfl (by kernel_rfl) (by kernel_rfl) (by kernel_rfl) (fun _ _ _ h => h) rfl (fun _ _ => by kernel_rfl) R2.out ?_
          simp only [Act.put, List.setIfInBounds_toArray, List.set_cons_zero, List.set_cons_succ]
          refine anyH_take 25 (some 137) (.slice la zl lc) rfl rfl (by kernel_rfl) (by kernel_rfl) (by kernel_rfl) (fun _ _ _ h => h) rfl (fun W hW => ex_load 71 (.tmp 136) rfl _ _ rfl (L137.out W hW)) R2.out ?_
          simp only [Act.put, List.setIfInBounds_toArray, List.set_cons_zero, List.set_cons_succ]
          refine anyH_take 26 (some 138) (.int .i64 (zl : Int)) rfl rfl (by kernel_rfl) (by kernel_rfl) (by kernel_rfl) (fun _ _ _ h => h) rfl (fun _ _ => ex_len 71 77 (.tmp 137) rfl Try.underlying71 rfl) R2.out ?_
          simp only [Act.put, List.setIfInBounds_toArray, List.set_cons_zero, List.set_cons_succ]
          refine anyH_oneG 21 (by kernel_rfl) rfl rfl (fun K hK => ?_)
          refine wp_calls (some 133) rfl 18 _ (ex_call1 18 (.tmp 132) _ rfl _ rfl (fun _ _ => rfl)) (.int .i64 (zl : Int)) (fun w' => Below wz.heap.size wz w') (WT.out _ R2.out) (fun W3 hR3 => hK _ _ hR3 ?_)
          clear hK K
          simp only [Act.put, List.setIfInBounds_toArray, List.set_cons_zero, List.set_cons_succ]
          have R3 := Lib.hid hR3
          clear hR3
          refine anyH_take 27 (some 139) (.bool true) rfl rfl (by kernel_rfl) (by kernel_rfl) (by kernel_rfl) (fun _ _ _ h => h) rfl (fun W _ => ex_eqlI 3 3 (.tmp 133) (.tmp 138) .i64 (zl : Int) rfl rfl rfl) R3.out ?_
          simp only [Act.put, List.setIfInBounds_toArray, List.set_cons_zero, List.set_cons_succ]
          refine anyH_take 28 (some 140) (.bool true) rfl rfl (by kernel_rfl) (by kernel_rfl) (by kernel_rfl) (fun _ _ _ h => h) rfl (fun _ _ => rfl) R3.out ?_
          simp only [Act.put, List.setIfInBounds_toArray, List.set_cons_zero, List.set_cons_succ]
          refine anyH_take 29 (some 6) (.bool true) rfl rfl (by kernel_rfl) (by kernel_rfl) (by kernel_rfl) (fun _ _ _ h => h) rfl (fun _ _ => rfl) R3.out ?_
          simp only [Act.put, List.setIfInBounds_toArray, List.set_cons_zero, List.set_cons_succ]
          refine wpAnyH_done (by kernel_rfl) ?_ _
          have HFIN := Lib.hid (HE.out.below R3.out)
          clear HE BD DN AG WT L119 L128 L137 R1 R2 R3
          go_wp2
          go_ret
          exact ⟨rfl, by exact HFIN.out⟩
    · have HIN := Lib.hid hin
      clear hin HOK
      go_wp2_with fail
      refine HR1.out.mono ?_
      intro e w1 hT
      unfold ReadR at hT
      rw [if_neg (by rw [HD.out]; simp), if_neg HIN.out] at hT
      obtain ⟨rfl, hB1⟩ := hT
      have HR2 := Lib.hid (two_rread (HB.out.below hB1) i)
      have HB1 := Lib.hid (HB.out.below hB1)
      have k1a := (hB1.cell (p := ⟨w.heap.size, 1, none⟩) (World.block_lt_of_cell? _ _ k1)).trans k1
      clear hB1 HR1 k1
      go_wp2_with fail
      refine HR2.out.mono ?_
      intro e wz hT
      unfold RReadR at hT
      rw [if_neg (by rw [HD.out]; simp), if_neg HIN.out] at hT
      obtain ⟨rfl, hB2⟩ := hT
      have HE := Lib.hid (HB1.out.below hB2)
      have q5 := cv_nil wz
      clear hB2 HR2 HB1 HB k1a
      go_wp2_with fail
      go_loopw [14] (fun iv wr => iv = .int .i64 0 ∧ wr = wz) (fun _ _ => 0)
      case atStart => exact ⟨rfl, rfl⟩
      case round =>
        obtain ⟨rfl, rfl⟩ := hrel
        clear q5
        go_wp2_with fail
        generalize wr = wz at *
        have hbd : Below wz.heap.size wz wz.drew := (Below.refl _ wz).drew
        have hdn : ∀ W, Below wz.heap.size wz W → Calls Try.prog 17 #[.pointer (some ⟨D, 0, none⟩)] W fun e w' => e = .returned (.bool s.down) ∧ Below wz.heap.size wz w' := fun W hW => (two_down (HE.out.below hW)).mono fun e w' ⟨q1, q2⟩ => by subst q2; exact ⟨q1, hW⟩
        have hag : ∀ W, Below wz.heap.size wz W → Calls Try.prog 23 #[.pointer (some ⟨D, 0, none⟩)] W fun e w' => e = .returned (.int .i64 (s.age : Int)) ∧ Below wz.heap.size wz w' := fun W hW => (two_age (HE.out.below hW)).mono fun e w' ⟨q1, q2⟩ => by subst q2; exact ⟨q1, hW⟩
        have hwt : ∀ W, Below wz.heap.size wz W → Calls Try.prog 18 #[.pointer (some ⟨D, 0, none⟩)] W fun e w' => e = .returned (.int .i64 (s.waits.length : Int)) ∧ Below wz.heap.size wz w' := fun W hW => (two_waits (HE.out.below hW)).mono fun e w' ⟨q1, q2⟩ => by subst q2; exact ⟨q1, hW⟩
        obtain ⟨_, _, la, lc, _, d1, d2, d4⟩ := HE.out.cells
        have hl119 : ∀ W, Below wz.heap.size wz W → (Instr.loadAt 4 (.pointer (some ⟨F, 2, none⟩))).run Try.prog W = .ok (.bool s.down) W := fun W hW => by
          have hc := (hW.cell (p := ⟨F, 2, none⟩) (World.block_lt_of_cell? _ _ d2)).trans d2
          go_simp
        have hl128 : ∀ W, Below wz.heap.size wz W → (Instr.loadAt 3 (.pointer (some ⟨F, 4, none⟩))).run Try.prog W = .ok (.int .i64 (s.age : Int)) W := fun W hW => by
          have hc := (hW.cell (p := ⟨F, 4, none⟩) (World.block_lt_of_cell? _ _ d4)).trans d4
          go_simp
        have hl137 : ∀ W, Below wz.heap.size wz W → (Instr.loadAt 71 (.pointer (some ⟨F, 1, none⟩))).run Try.prog W = .ok (.slice la s.waits.length lc) W := fun W hW => by
          have hc := (hW.cell (p := ⟨F, 1, none⟩) (World.block_lt_of_cell? _ _ d1)).trans d1
          go_simp
        have BD := Lib.hid hbd
        have DN := Lib.hid hdn
        have AG := Lib.hid hag
        have WT := Lib.hid hwt
        have L119 := Lib.hid hl119
        have L128 := Lib.hid hl128
        have L137 := Lib.hid hl137
        clear hbd hdn hag hwt hl119 hl128 hl137 d1 d2 d4
        generalize s.down = zd at *
        generalize (s.age : Int) = za at *
        generalize s.waits.length = zl at *
        refine wp_region_held_drew (S := Below wz.heap.size wz) (by kernel_rfl) BD.out (fun _ => ?_)
        refine anyH_take 0 (some 112) (.bool true) rfl rfl (by kernel_rfl) (by kernel_rfl) (by kernel_rfl) (fun _ _ _ h => h) rfl (fun _ _ => rfl) BD.out ?_
        simp only [Act.put, List.setIfInBounds_toArray, List.set_cons_zero, List.set_cons_succ]
        refine anyH_take 1 (some 113) (.bool true) rfl rfl (by kernel_rfl) (by kernel_rfl) (by kernel_rfl) (fun _ _ _ h => h) rfl (fun _ _ => rfl) BD.out ?_
        simp only [Act.put, List.setIfInBounds_toArray, List.set_cons_zero, List.set_cons_succ]
        refine anyH_take 2 (some 114) (.pointer (some ⟨D, 0, none⟩)) rfl rfl (by kernel_rfl) (by kernel_rfl) (by kernel_rfl) (fun _ _ _ h => h) rfl (fun _ _ => rfl) BD.out ?_
        simp only [Act.put, List.setIfInBounds_toArray, List.set_cons_zero, List.set_cons_succ]
        refine anyH_take 4 (some 116) (.pointer (some ⟨F, 0, none⟩)) rfl rfl (by kernel_rfl) (by kernel_rfl) (by kernel_rfl) (fun _ _ _ h => h) rfl (fun _ _ => rfl) BD.out ?_
        simp only [Act.put, List.setIfInBounds_toArray, List.set_cons_zero, List.set_cons_succ]
        refine anyH_take 5 (some 117) (.pointer (some ⟨F, 0, none⟩)) rfl rfl (by kernel_rfl) (by kernel_rfl) (by kernel_rfl) (fun _ _ _ h => h) rfl (fun _ _ => rfl) BD.out ?_
        simp only [Act.put, List.setIfInBounds_toArray, List.set_cons_zero, List.set_cons_succ]
        refine anyH_take 6 (some 118) (.pointer (some ⟨F, 2, none⟩)) rfl rfl (by kernel_rfl) (by kernel_rfl) (by kernel_rfl) (fun _ _ _ h => h) rfl (fun _ _ => by kernel_rfl) BD.out ?_
        simp only [Act.put, List.setIfInBounds_toArray, List.set_cons_zero, List.set_cons_succ]
        refine anyH_take 7 (some 119) (.bool zd) rfl rfl (by kernel_rfl) (by kernel_rfl) (by kernel_rfl) (fun _ _ _ h => h) rfl (fun W hW => ex_load 4 (.tmp 118) rfl _ _ rfl (L119.out W hW)) BD.out ?_
        simp only [Act.put, List.setIfInBounds_toArray, List.set_cons_zero, List.set_cons_succ]
        refine anyH_oneG 3 (by kernel_rfl) rfl rfl (fun K hK => ?_)
        refine wp_calls (some 115) rfl 17 _ (ex_call1 17 (.tmp 114) _ rfl _ rfl (fun _ _ => rfl)) (.bool zd) (fun w' => Below wz.heap.size wz w') (DN.out _ BD.out) (fun W1 hR1 => hK _ _ hR1 ?_)
        clear hK K
        simp only [Act.put, List.setIfInBounds_toArray, List.set_cons_zero, List.set_cons_succ]
        have R1 := Lib.hid hR1
        clear hR1
        refine anyH_take 8 (some 120) (.bool true) rfl rfl (by kernel_rfl) (by kernel_rfl) (by kernel_rfl) (fun _ _ _ h => h) rfl (fun W _ => ex_eqlB 4 4 (.tmp 115) (.tmp 119) zd Try.underlying4 rfl rfl rfl) R1.out ?_
        simp only [Act.put, List.setIfInBounds_toArray, List.set_cons_zero, List.set_cons_succ]
        refine anyH_take 9 (some 121) (.bool true) rfl rfl (by kernel_rfl) (by kernel_rfl) (by kernel_rfl) (fun _ _ _ h => h) rfl (fun _ _ => rfl) R1.out ?_
        simp only [Act.put, List.setIfInBounds_toArray, List.set_cons_zero, List.set_cons_succ]
        refine anyH_take 10 (some 122) (.bool true) rfl rfl (by kernel_rfl) (by kernel_rfl) (by kernel_rfl) (fun _ _ _ h => h) rfl (fun _ _ => rfl) R1.out ?_
        simp only [Act.put, List.setIfInBounds_toArray, List.set_cons_zero, List.set_cons_succ]
        refine anyH_take 11 (some 123) (.pointer (some ⟨D, 0, none⟩)) rfl rfl (by kernel_rfl) (by kernel_rfl) (by kernel_rfl) (fun _ _ _ h => h) rfl (fun _ _ => rfl) R1.out ?_
        simp only [Act.put, List.setIfInBounds_toArray, List.set_cons_zero, List.set_cons_succ]
        refine anyH_take 13 (some 125) (.pointer (some ⟨F, 0, none⟩)) rfl rfl (by kernel_rfl) (by kernel_rfl) (by kernel_rfl) (fun _ _ _ h => h) rfl (fun _ _ => rfl) R1.out ?_
        simp only [Act.put, List.setIfInBounds_toArray, List.set_cons_zero, List.set_cons_succ]
        refine anyH_take 14 (some 126) (.pointer (some ⟨F, 0, none⟩)) rfl rfl (by kernel_rfl) (by kernel_rfl) (by kernel_rfl) (fun _ _ _ h => h) rfl (fun _ _ => rfl) R1.out ?_
        simp only [Act.put, List.setIfInBounds_toArray, List.set_cons_zero, List.set_cons_succ]
        refine anyH_take 15 (some 127) (.pointer (some ⟨F, 4, none⟩)) rfl rfl (by kernel_rfl) (by kernel_rfl) (by kernel_rfl) (fun _ _ _ h => h) rfl (fun _ _ => by kernel_rfl) R1.out ?_
        simp only [Act.put, List.setIfInBounds_toArray, List.set_cons_zero, List.set_cons_succ]
        refine anyH_take 16 (some 128) (.int .i64 za) rfl rfl (by kernel_rfl) (by kernel_rfl) (by kernel_rfl) (fun _ _ _ h => h) rfl (fun W hW => ex_load 3 (.tmp 127) rfl _ _ rfl (L128.out W hW)) R1.out ?_
        simp only [Act.put, List.setIfInBounds_toArray, List.set_cons_zero, List.set_cons_succ]
        refine anyH_oneG 12 (by kernel_rfl) rfl rfl (fun K hK => ?_)
        refine wp_calls (some 124) rfl 23 _ (ex_call1 23 (.tmp 123) _ rfl _ rfl (fun _ _ => rfl)) (.int .i64 za) (fun w' => Below wz.heap.size wz w') (AG.out _ R1.out) (fun W2 hR2 => hK _ _ hR2 ?_)
        clear hK K
        simp only [Act.put, List.setIfInBounds_toArray, List.set_cons_zero, List.set_cons_succ]
        have R2 := Lib.hid hR2
        clear hR2
        refine anyH_take 17 (some 129) (.bool true) rfl rfl (by kernel_rfl) (by kernel_rfl) (by kernel_rfl) (fun _ _ _ h => h) rfl (fun W _ => ex_eqlI 3 3 (.tmp 124) (.tmp 128) .i64 za rfl rfl rfl) R2.out ?_
        simp only [Act.put, List.setIfInBounds_toArray, List.set_cons_zero, List.set_cons_succ]
        refine anyH_take 18 (some 130) (.bool true) rfl rfl (by kernel_rfl) (by kernel_rfl) (by kernel_rfl) (fun _ _ _ h => h) rfl (fun _ _ => rfl) R2.out ?_
        simp only [Act.put, List.setIfInBounds_toArray, List.set_cons_zero, List.set_cons_succ]
        refine anyH_take 19 (some 131) (.bool true) rfl rfl (by kernel_rfl) (by kernel_rfl) (by kernel_rfl) (fun _ _ _ h => h) rfl (fun _ _ => rfl) R2.out ?_
        simp only [Act.put, List.setIfInBounds_toArray, List.set_cons_zero, List.set_cons_succ]
        refine anyH_take 20 (some 132) (.pointer (some ⟨D, 0, none⟩)) rfl rfl (by kernel_rfl) (by kernel_rfl) (by kernel_rfl) (fun _ _ _ h => h) rfl (fun _ _ => rfl) R2.out ?_
        simp only [Act.put, List.setIfInBounds_toArray, List.set_cons_zero, List.set_cons_succ]
        refine anyH_take 22 (some 134) (.pointer (some ⟨F, 0, none⟩)) rfl rfl (by kernel_rfl) (by kernel_rfl) (by kernel_rfl) (fun _ _ _ h => h) rfl (fun _ _ => rfl) R2.out ?_
        simp only [Act.put, List.setIfInBounds_toArray, List.set_cons_zero, List.set_cons_succ]
        refine anyH_take 23 (some 135) (.pointer (some ⟨F, 0, none⟩)) rfl rfl (by kernel_rfl) (by kernel_rfl) (by kernel_rfl) (fun _ _ _ h => h) rfl (fun _ _ => rfl) R2.out ?_
        simp only [Act.put, List.setIfInBounds_toArray, List.set_cons_zero, List.set_cons_succ]
        refine anyH_take 24 (some 136) (.pointer (some ⟨F, 1, none⟩)) rfl rfl (by kernel_rfl) (by kernel_rfl) (by kernel_rfl) (fun _ _ _ h => h) rfl (fun _ _ => by kernel_rfl) R2.out ?_
        simp only [Act.put, List.setIfInBounds_toArray, List.set_cons_zero, List.set_cons_succ]
        refine anyH_take 25 (some 137) (.slice la zl lc) rfl rfl (by kernel_rfl) (by kernel_rfl) (by kernel_rfl) (fun _ _ _ h => h) rfl (fun W hW => ex_load 71 (.tmp 136) rfl _ _ rfl (L137.out W hW)) R2.out ?_
        simp only [Act.put, List.setIfInBounds_toArray, List.set_cons_zero, List.set_cons_succ]
        refine anyH_take 26 (some 138) (.int .i64 (zl : Int)) rfl rfl (by kernel_rfl) (by kernel_rfl) (by kernel_rfl) (fun _ _ _ h => h) rfl (fun _ _ => ex_len 71 77 (.tmp 137) rfl Try.underlying71 rfl) R2.out ?_
        simp only [Act.put, List.setIfInBounds_toArray, List.set_cons_zero, List.set_cons_succ]
        refine anyH_oneG 21 (by kernel_rfl) rfl rfl (fun K hK => ?_)
        refine wp_calls (some 133) rfl 18 _ (ex_call1 18 (.tmp 132) _ rfl _ rfl (fun _ _ => rfl)) (.int .i64 (zl : Int)) (fun w' => Below wz.heap.size wz w') (WT.out _ R2.out) (fun W3 hR3 => hK _ _ hR3 ?_)
        clear hK K
        simp only [Act.put, List.setIfInBounds_toArray, List.set_cons_zero, List.set_cons_succ]
        have R3 := Lib.hid hR3
        clear hR3
        refine anyH_take 27 (some 139) (.bool true) rfl rfl (by kernel_rfl) (by kernel_rfl) (by kernel_rfl) (fun _ _ _ h => h) rfl (fun W _ => ex_eqlI 3 3 (.tmp 133) (.tmp 138) .i64 (zl : Int) rfl rfl rfl) R3.out ?_
        simp only [Act.put, List.setIfInBounds_toArray, List.set_cons_zero, List.set_cons_succ]
        refine anyH_take 28 (some 140) (.bool true) rfl rfl (by kernel_rfl) (by kernel_rfl) (by kernel_rfl) (fun _ _ _ h => h) rfl (fun _ _ => rfl) R3.out ?_
        simp only [Act.put, List.setIfInBounds_toArray, List.set_cons_zero, List.set_cons_succ]
        refine anyH_take 29 (some 6) (.bool true) rfl rfl (by kernel_rfl) (by kernel_rfl) (by kernel_rfl) (fun _ _ _ h => h) rfl (fun _ _ => rfl) R3.out ?_
        simp only [Act.put, List.setIfInBounds_toArray, List.set_cons_zero, List.set_cons_succ]
        refine wpAnyH_done (by kernel_rfl) ?_ _
        have HFIN := Lib.hid (HE.out.below R3.out)
        clear HE BD DN AG WT L119 L128 L137 R1 R2 R3
        go_wp2
        go_ret
        exact ⟨rfl, by exact HFIN.out⟩
  · have HD := Lib.hid hd
    clear hd HOK
    go_wp2_with fail
    refine HR1.out.mono ?_
    intro e w1 hT
    unfold ReadR at hT
    rw [if_pos HD.out] at hT
    obtain ⟨rfl, hB1⟩ := hT
    have HR2 := Lib.hid (two_rread (HB.out.below hB1) i)
    have HB1 := Lib.hid (HB.out.below hB1)
    have k1a := (hB1.cell (p := ⟨w.heap.size, 1, none⟩) (World.block_lt_of_cell? _ _ k1)).trans k1
    clear hB1 HR1 k1
    go_wp2_with fail
    refine HR2.out.mono ?_
    intro e wz hT
    unfold RReadR at hT
    rw [if_pos HD.out] at hT
    obtain ⟨rfl, hB2⟩ := hT
    have HE := Lib.hid (HB1.out.below hB2)
    have q5 := cv_nil wz
    clear hB2 HR2 HB1 HB k1a
    go_wp2_with fail
    go_loopw [14] (fun iv wr => iv = .int .i64 0 ∧ wr = wz) (fun _ _ => 0)
    case atStart => exact ⟨rfl, rfl⟩
    case round =>
      obtain ⟨rfl, rfl⟩ := hrel
      clear q5
      go_wp2_with fail
      generalize wr = wz at *
      have hbd : Below wz.heap.size wz wz.drew := (Below.refl _ wz).drew
      have hdn : ∀ W, Below wz.heap.size wz W → Calls Try.prog 17 #[.pointer (some ⟨D, 0, none⟩)] W fun e w' => e = .returned (.bool s.down) ∧ Below wz.heap.size wz w' := fun W hW => (two_down (HE.out.below hW)).mono fun e w' ⟨q1, q2⟩ => by subst q2; exact ⟨q1, hW⟩
      have hag : ∀ W, Below wz.heap.size wz W → Calls Try.prog 23 #[.pointer (some ⟨D, 0, none⟩)] W fun e w' => e = .returned (.int .i64 (s.age : Int)) ∧ Below wz.heap.size wz w' := fun W hW => (two_age (HE.out.below hW)).mono fun e w' ⟨q1, q2⟩ => by subst q2; exact ⟨q1, hW⟩
      have hwt : ∀ W, Below wz.heap.size wz W → Calls Try.prog 18 #[.pointer (some ⟨D, 0, none⟩)] W fun e w' => e = .returned (.int .i64 (s.waits.length : Int)) ∧ Below wz.heap.size wz w' := fun W hW => (two_waits (HE.out.below hW)).mono fun e w' ⟨q1, q2⟩ => by subst q2; exact ⟨q1, hW⟩
      obtain ⟨_, _, la, lc, _, d1, d2, d4⟩ := HE.out.cells
      have hl119 : ∀ W, Below wz.heap.size wz W → (Instr.loadAt 4 (.pointer (some ⟨F, 2, none⟩))).run Try.prog W = .ok (.bool s.down) W := fun W hW => by
        have hc := (hW.cell (p := ⟨F, 2, none⟩) (World.block_lt_of_cell? _ _ d2)).trans d2
        go_simp
      have hl128 : ∀ W, Below wz.heap.size wz W → (Instr.loadAt 3 (.pointer (some ⟨F, 4, none⟩))).run Try.prog W = .ok (.int .i64 (s.age : Int)) W := fun W hW => by
        have hc := (hW.cell (p := ⟨F, 4, none⟩) (World.block_lt_of_cell? _ _ d4)).trans d4
        go_simp
      have hl137 : ∀ W, Below wz.heap.size wz W → (Instr.loadAt 71 (.pointer (some ⟨F, 1, none⟩))).run Try.prog W = .ok (.slice la s.waits.length lc) W := fun W hW => by
        have hc := (hW.cell (p := ⟨F, 1, none⟩) (World.block_lt_of_cell? _ _ d1)).trans d1
        go_simp
      have BD := Lib.hid hbd
      have DN := Lib.hid hdn
      have AG := Lib.hid hag
      have WT := Lib.hid hwt
      have L119 := Lib.hid hl119
      have L128 := Lib.hid hl128
      have L137 := Lib.hid hl137
      clear hbd hdn hag hwt hl119 hl128 hl137 d1 d2 d4
      generalize s.down = zd at *
      generalize (s.age : Int) = za at *
      generalize s.waits.length = zl at *
      refine wp_region_held_drew (S := Below wz.heap.size wz) (by kernel_rfl) BD.out (fun _ => ?_)
      refine anyH_take 0 (some 112) (.bool true) rfl rfl (by kernel_rfl) (by kernel_rfl) (by kernel_rfl) (fun _ _ _ h => h) rfl (fun _ _ => rfl) BD.out ?_
      simp only [Act.put, List.setIfInBounds_toArray, List.set_cons_zero, List.set_cons_succ]
      refine anyH_take 1 (some 113) (.bool true) rfl rfl (by kernel_rfl) (by kernel_rfl) (by kernel_rfl) (fun _ _ _ h => h) rfl (fun _ _ => rfl) BD.out ?_
      simp only [Act.put, List.setIfInBounds_toArray, List.set_cons_zero, List.set_cons_succ]
      refine anyH_take 2 (some 114) (.pointer (some ⟨D, 0, none⟩)) rfl rfl (by kernel_rfl) (by kernel_rfl) (by kernel_rfl) (fun _ _ _ h => h) rfl (fun _ _ => rfl) BD.out ?_
      simp only [Act.put, List.setIfInBounds_toArray, List.set_cons_zero, List.set_cons_succ]
      refine anyH_take 4 (some 116) (.pointer (some ⟨F, 0, none⟩)) rfl rfl (by kernel_rfl) (by kernel_rfl) (by kernel_rfl) (fun _ _ _ h => h) rfl (fun _ _ => rfl) BD.out ?_
      simp only [Act.put, List.setIfInBounds_toArray, List.set_cons_zero, List.set_cons_succ]
      refine anyH_take 5 (some 117) (.pointer (some ⟨F, 0, none⟩)) rfl rfl (by kernel_rfl) (by kernel_rfl) (by kernel_rfl) (fun _ _ _ h => h) rfl (fun _ _ => rfl) BD.out ?_
      simp only [Act.put, List.setIfInBounds_toArray, List.set_cons_zero, List.set_cons_succ]
      refine anyH_take 6 (some 118) (.pointer (some ⟨F, 2, none⟩)) rfl rfl (by kernel_rfl) (by kernel_rfl) (by kernel_rfl) (fun _ _ _ h => h) rfl (fun _ _ => by kernel_rfl) BD.out ?_
      simp only [Act.put, List.setIfInBounds_toArray, List.set_cons_zero, List.set_cons_succ]
      refine anyH_take 7 (some 119) (.bool zd) rfl rfl (by kernel_rfl) (by kernel_rfl) (by kernel_rfl) (fun _ _ _ h => h) rfl (fun W hW => ex_load 4 (.tmp 118) rfl _ _ rfl (L119.out W hW)) BD.out ?_
      simp only [Act.put, List.setIfInBounds_toArray, List.set_cons_zero, List.set_cons_succ]
      refine anyH_oneG 3 (by kernel_rfl) rfl rfl (fun K hK => ?_)
      refine wp_calls (some 115) rfl 17 _ (ex_call1 17 (.tmp 114) _ rfl _ rfl (fun _ _ => rfl)) (.bool zd) (fun w' => Below wz.heap.size wz w') (DN.out _ BD.out) (fun W1 hR1 => hK _ _ hR1 ?_)
      clear hK K
      simp only [Act.put, List.setIfInBounds_toArray, List.set_cons_zero, List.set_cons_succ]
      have R1 := Lib.hid hR1
      clear hR1
      refine anyH_take 8 (some 120) (.bool true) rfl rfl (by kernel_rfl) (by kernel_rfl) (by kernel_rfl) (fun _ _ _ h => h) rfl (fun W _ => ex_eqlB 4 4 (.tmp 115) (.tmp 119) zd Try.underlying4 rfl rfl rfl) R1.out ?_
      simp only [Act.put, List.setIfInBounds_toArray, List.set_cons_zero, List.set_cons_succ]
      refine anyH_take 9 (some 121) (.bool true) rfl rfl (by kernel_rfl) (by kernel_rfl) (by kernel_rfl) (fun _ _ _ h => h) rfl (fun _ _ => rfl) R1.out ?_
      simp only [Act.put, List.setIfInBounds_toArray, List.set_cons_zero, List.set_cons_succ]
      refine anyH_take 10 (some 122) (.bool true) rfl rfl (by kernel_rfl) (by kernel_rfl) (by kernel_rfl) (fun _ _ _ h => h) rfl (fun _ _ => rfl) R1.out ?_
      simp only [Act.put, List.setIfInBounds_toArray, List.set_cons_zero, List.set_cons_succ]
      refine anyH_take 11 (some 123) (.pointer (some ⟨D, 0, none⟩)) rfl rfl (by kernel_rfl) (by kernel_rfl) (by kernel_rfl) (fun _ _ _ h => h) rfl (fun _ _ => rfl) R1.out ?_
      simp only [Act.put, List.setIfInBounds_toArray, List.set_cons_zero, List.set_cons_succ]
      refine anyH_take 13 (some 125) (.pointer (some ⟨F, 0, none⟩)) rfl rfl (by kernel_rfl) (by kernel_rfl) (by kernel_rfl) (fun _ _ _ h => h) rfl (fun _ _ => rfl) R1.out ?_
      simp only [Act.put, List.setIfInBounds_toArray, List.set_cons_zero, List.set_cons_succ]
      refine anyH_take 14 (some 126) (.pointer (some ⟨F, 0, none⟩)) rfl rfl (by kernel_rfl) (by kernel_rfl) (by kernel_rfl) (fun _ _ _ h => h) rfl (fun _ _ => rfl) R1.out ?_
      simp only [Act.put, List.setIfInBounds_toArray, List.set_cons_zero, List.set_cons_succ]
      refine anyH_take 15 (some 127) (.pointer (some ⟨F, 4, none⟩)) rfl rfl (by kernel_rfl) (by kernel_rfl) (by kernel_rfl) (fun _ _ _ h => h) rfl (fun _ _ => by kernel_rfl) R1.out ?_
      simp only [Act.put, List.setIfInBounds_toArray, List.set_cons_zero, List.set_cons_succ]
      refine anyH_take 16 (some 128) (.int .i64 za) rfl rfl (by kernel_rfl) (by kernel_rfl) (by kernel_rfl) (fun _ _ _ h => h) rfl (fun W hW => ex_load 3 (.tmp 127) rfl _ _ rfl (L128.out W hW)) R1.out ?_
      simp only [Act.put, List.setIfInBounds_toArray, List.set_cons_zero, List.set_cons_succ]
      refine anyH_oneG 12 (by kernel_rfl) rfl rfl (fun K hK => ?_)
      refine wp_calls (some 124) rfl 23 _ (ex_call1 23 (.tmp 123) _ rfl _ rfl (fun _ _ => rfl)) (.int .i64 za) (fun w' => Below wz.heap.size wz w') (AG.out _ R1.out) (fun W2 hR2 => hK _ _ hR2 ?_)
      clear hK K
      simp only [Act.put, List.setIfInBounds_toArray, List.set_cons_zero, List.set_cons_succ]
      have R2 := Lib.hid hR2
      clear hR2
      refine anyH_take 17 (some 129) (.bool true) rfl rfl (by kernel_rfl) (by kernel_rfl) (by kernel_rfl) (fun _ _ _ h => h) rfl (fun W _ => ex_eqlI 3 3 (.tmp 124) (.tmp 128) .i64 za rfl rfl rfl) R2.out ?_
      simp only [Act.put, List.setIfInBounds_toArray, List.set_cons_zero, List.set_cons_succ]
      refine anyH_take 18 (some 130) (.bool true) rfl rfl (by kernel_rfl) (by kernel_rfl) (by kernel_rfl) (fun _ _ _ h => h) rfl (fun _ _ => rfl) R2.out ?_
      simp only [Act.put, List.setIfInBounds_toArray, List.set_cons_zero, List.set_cons_succ]
      refine anyH_take 19 (some 131) (.bool true) rfl rfl (by kernel_rfl) (by kernel_rfl) (by kernel_rfl) (fun _ _ _ h => h) rfl (fun _ _ => rfl) R2.out ?_
      simp only [Act.put, List.setIfInBounds_toArray, List.set_cons_zero, List.set_cons_succ]
      refine anyH_take 20 (some 132) (.pointer (some ⟨D, 0, none⟩)) rfl rfl (by kernel_rfl) (by kernel_rfl) (by kernel_rfl) (fun _ _ _ h => h) rfl (fun _ _ => rfl) R2.out ?_
      simp only [Act.put, List.setIfInBounds_toArray, List.set_cons_zero, List.set_cons_succ]
      refine anyH_take 22 (some 134) (.pointer (some ⟨F, 0, none⟩)) rfl rfl (by kernel_rfl) (by kernel_rfl) (by kernel_rfl) (fun _ _ _ h => h) rfl (fun _ _ => rfl) R2.out ?_
      simp only [Act.put, List.setIfInBounds_toArray, List.set_cons_zero, List.set_cons_succ]
      refine anyH_take 23 (some 135) (.pointer (some ⟨F, 0, none⟩)) rfl rfl (by kernel_rfl) (by kernel_rfl) (by kernel_rfl) (fun _ _ _ h => h) rfl (fun _ _ => rfl) R2.out ?_
      simp only [Act.put, List.setIfInBounds_toArray, List.set_cons_zero, List.set_cons_succ]
      refine anyH_take 24 (some 136) (.pointer (some ⟨F, 1, none⟩)) rfl rfl (by kernel_rfl) (by kernel_rfl) (by kernel_rfl) (fun _ _ _ h => h) rfl (fun _ _ => by kernel_rfl) R2.out ?_
      simp only [Act.put, List.setIfInBounds_toArray, List.set_cons_zero, List.set_cons_succ]
      refine anyH_take 25 (some 137) (.slice la zl lc) rfl rfl (by kernel_rfl) (by kernel_rfl) (by kernel_rfl) (fun _ _ _ h => h) rfl (fun W hW => ex_load 71 (.tmp 136) rfl _ _ rfl (L137.out W hW)) R2.out ?_
      simp only [Act.put, List.setIfInBounds_toArray, List.set_cons_zero, List.set_cons_succ]
      refine anyH_take 26 (some 138) (.int .i64 (zl : Int)) rfl rfl (by kernel_rfl) (by kernel_rfl) (by kernel_rfl) (fun _ _ _ h => h) rfl (fun _ _ => ex_len 71 77 (.tmp 137) rfl Try.underlying71 rfl) R2.out ?_
      simp only [Act.put, List.setIfInBounds_toArray, List.set_cons_zero, List.set_cons_succ]
      refine anyH_oneG 21 (by kernel_rfl) rfl rfl (fun K hK => ?_)
      refine wp_calls (some 133) rfl 18 _ (ex_call1 18 (.tmp 132) _ rfl _ rfl (fun _ _ => rfl)) (.int .i64 (zl : Int)) (fun w' => Below wz.heap.size wz w') (WT.out _ R2.out) (fun W3 hR3 => hK _ _ hR3 ?_)
      clear hK K
      simp only [Act.put, List.setIfInBounds_toArray, List.set_cons_zero, List.set_cons_succ]
      have R3 := Lib.hid hR3
      clear hR3
      refine anyH_take 27 (some 139) (.bool true) rfl rfl (by kernel_rfl) (by kernel_rfl) (by kernel_rfl) (fun _ _ _ h => h) rfl (fun W _ => ex_eqlI 3 3 (.tmp 133) (.tmp 138) .i64 (zl : Int) rfl rfl rfl) R3.out ?_
      simp only [Act.put, List.setIfInBounds_toArray, List.set_cons_zero, List.set_cons_succ]
      refine anyH_take 28 (some 140) (.bool true) rfl rfl (by kernel_rfl) (by kernel_rfl) (by kernel_rfl) (fun _ _ _ h => h) rfl (fun _ _ => rfl) R3.out ?_
      simp only [Act.put, List.setIfInBounds_toArray, List.set_cons_zero, List.set_cons_succ]
      refine anyH_take 29 (some 6) (.bool true) rfl rfl (by kernel_rfl) (by kernel_rfl) (by kernel_rfl) (fun _ _ _ h => h) rfl (fun _ _ => rfl) R3.out ?_
      simp only [Act.put, List.setIfInBounds_toArray, List.set_cons_zero, List.set_cons_succ]
      refine wpAnyH_done (by kernel_rfl) ?_ _
      have HFIN := Lib.hid (HE.out.below R3.out)
      clear HE BD DN AG WT L119 L128 L137 R1 R2 R3
      go_wp2
      go_ret
      exact ⟨rfl, by exact HFIN.out⟩
end Go.Proofs.Ytohmofhpbmhhjaa

