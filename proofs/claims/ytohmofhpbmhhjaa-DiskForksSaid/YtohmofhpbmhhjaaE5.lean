/- Disk, the document's own: Write. -/
import Derived.Test.YtohmofhpbmhhjaaE4
namespace Go.Proofs.Ytohmofhpbmhhjaa
open Go Go.RowKit

section
variable {P : Program} {ops : Array Oper} {Q : Exit → Act → World → Prop} {md : Region.Mode} {S : World → Prop}
theorem anyH_two (i j : Nat) {o o' : Oper} {fuel : Nat} {listed : Array Bool} {a : Act} {w : World} (hr : Region.ready md ops listed = [i, j]) (ho : ops[i]? = some o) (hg : o.guard = none) (ho' : ops[j]? = some o') (hg' : o'.guard = none)
    (h : ∀ K : Act → World → Prop, (∀ a' w', S w' → wpAnyH P md ops Q S fuel (listed.setIfInBounds i true) a' w' → K a' w') → o.wp P a w K Q)
    (h' : ∀ K : Act → World → Prop, (∀ a' w', S w' → wpAnyH P md ops Q S fuel (listed.setIfInBounds j true) a' w' → K a' w') → o'.wp P a w K Q) : wpAnyH P md ops Q S (fuel + 1) listed a w :=
  wpAnyH_ready hr (by simp) (AllReadyH.cons ho (fun K hK => by rw [if_pos (by simp [Region.wanted, hg])]; exact h K (fun a' w' hS' hn => hK.out a' w' hS' (fun _ => hn))) (AllReadyH.cons ho' (fun K hK => by rw [if_pos (by simp [Region.wanted, hg'])]; exact h' K (fun a' w' hS' hn => hK.out a' w' hS' (fun _ => hn))) AllReadyH.nil))
end
set_option maxRecDepth 100000 in
set_option maxHeartbeats 4000000 in
theorem rwrite_ok {O : Nat → Prop} {w : World} {D : Nat} {pv lv : Value} {s : St} (h : RDsk O w D pv lv s) (hd : s.down = false) (i : Nat) (hi : i < s.sure.length) (v : Value) (l : List UInt8) (hv : Byz w v l) (hvo : ∀ g, v.ownBlock = some g → l ≠ [] → g ≠ D) (hl : l.length ≤ 64) (hgo : s.go.2 = false) (hn : s.waits.length + 1 ≤ 1000) :
    Calls Try.prog 31 #[.pointer (some ⟨D, 0, none⟩), .int .i64 (i : Int), v] w fun e w' => e = .returned (.int .i64 0) ∧ RNow O w D { s.go.1 with waits := s.waits ++ [(i, pad l)] } w' := by
  have c2 := h.c2
  have c0 := h.c0
  rw [hd] at c2
  obtain ⟨pg, pc, rfl, _⟩ := h.pshape
  have hdone := rdone_any h hd
  rw [hgo] at hdone
  have hvl := hv.lt
  have hgs : s.go.1.sure = s.sure := by unfold St.go; split <;> rfl
  have hgw : s.go.1.waits = s.waits := by unfold St.go; split <;> rfl
  have hi1 : ¬ (i : Int) < 0 := by omega
  have hi2 : ¬ (s.sure.length : Int) ≤ (i : Int) := by omega
  have hl1 : ¬ 64 < (l.length : Int) := by omega
  obtain ⟨va, vc, rfl⟩ := hv.1
  have HD := Lib.hid hdone
  have HV := Lib.hid hv
  have HVL := Lib.hid hvl
  have HVO := Lib.hid hvo
  have HGS := Lib.hid hgs
  have HGW := Lib.hid hgw
  have HN := Lib.hid hn
  have HI := Lib.hid hi
  have HL := Lib.hid hl
  have HDl := Lib.hid (h.lt D h.memD)
  clear hdone hv hvl hvo hgs hgw hn hi hl h hgo hd
  go_enter Try.func31, Try.ntmps31
  go_wp2_with fail
  refine HD.out.mono ?_
  rintro e w1 ⟨rfl, h1, f1⟩
  go_wp2_with fail
  clear c0 c2
  have hv1 : Byz w1 (.slice va l.length vc) l := HV.out.kept f1.size (fun g hg hne => f1.block g (HVL.out g hg hne) (HVO.out g hg hne))
  have hbd : Below w1.heap.size w1 w1.drew := (Below.refl _ w1).drew
  have hL : ∃ la lc, lv = .slice la s.waits.length lc := by obtain ⟨a, c, e, _⟩ := h1.lshape; rw [HGW.out] at e; exact ⟨a, c, e⟩
  obtain ⟨la, lc, rfl⟩ := hL
  have hl35 : ∀ W, Below w1.heap.size w1 W → (Instr.loadAt 71 (.pointer (some ⟨D, 1, none⟩))).run Try.prog W = .ok (.slice la s.waits.length lc) W := fun W hW => by
    have hc := (h1.below hW).c1
    go_simp
  have hcv : ∀ W, Fr (· = D) w1 W → (convert 29 9 (.slice va l.length vc)).run Try.prog W = .ok (.string ⟨l.toArray⟩) W := fun W hW =>
    run_byz_string W _ _ 5 Try.underlying29 Try.underlying5 Try.underlying9 (hv1.kept hW.size (fun g hg hne => hW.block g (hv1.lt g hg hne) (HVO.out g hg hne)))
  obtain ⟨i0, hi0, hz0, hz1, hz2⟩ := info_parts infoRW
  have hown1 := (h1.below hbd).waits
  rw [HGW.out] at hown1
  obtain ⟨g6, c6, w6, hr6, hown6, hb6, hg6⟩ := app_copy (P := Try.prog) w1.drew 71 77 i0 _ 2 24 Try.underlying71 hi0 hz0 hz1 hz2 rfl (by decide) (by decide) _ s.waits.length _ hown1
    (fun e => h1.nil (by rw [HGW.out]; exact List.eq_nil_of_length_eq_zero e)) rwC_cell (by have := HN.out; omega)
  have hb6' : Below w1.heap.size w1 w6 := hbd.trans hb6
  have hg6' : w1.heap.size ≤ g6 := hg6
  have hemp := rempty_any w6
  have hba : Below w1.heap.size w1 (w1.drew.alloc (.cells #[] 77)) := hbd.alloc (Nat.le_refl _) _
  have hlit0 : (Instr.buildSlice 71 0 #[]).run Try.prog w1.drew = .ok (.slice (some ⟨w1.heap.size, 0, none⟩) 0 0) (w1.drew.alloc (.cells #[] 77)) := by go_simp
  have hsl : ∀ W, (Instr.sliceAt 9 (.string ⟨zeroP.toArray⟩) (some (.int .i64 (l.length : Int))) none none).run Try.prog W = .ok (.string ⟨(zeroP.drop l.length).toArray⟩) W := fun W => str_from W _ Try.underlying9 zeroP l.length (by have := HL.out; simp only [zeroP, List.length_replicate]; omega)
  have hpad : l ++ zeroP.drop l.length = pad l := by unfold zeroP pad; rw [List.drop_replicate]
  have hzl : (zeroP.drop l.length).length ≤ 64 := by simp [zeroP]
  have hlit1 : ∀ W, (Instr.buildSlice 71 1 #[(0, .agg #[.int .i64 (i : Int), .string ⟨(pad l).toArray⟩])]).run Try.prog W = .ok (.slice (some ⟨W.heap.size, 0, none⟩) 1 1) (W.alloc (.cells #[.int .i64 (i : Int), .string ⟨(pad l).toArray⟩] 77)) := fun W => by go_simp
  generalize zeroP.drop l.length = Z at *
  have L35 := Lib.hid hl35
  have CV := Lib.hid hcv
  have R6 := Lib.hid hr6
  have O6 := Lib.hid hown6
  have EM := Lib.hid hemp
  have LIT0 := Lib.hid hlit0
  have LIT1 := Lib.hid hlit1
  have SL := Lib.hid hsl
  have PAD := Lib.hid hpad
  have ZL := Lib.hid hzl
  have H1 := Lib.hid h1
  have F1 := Lib.hid f1
  have B6 := Lib.hid hb6'
  have BA := Lib.hid hba
  have G6 := Lib.hid hg6'
  have BD := Lib.hid hbd
  clear hl35 hcv hr6 hown6 hemp hlit0 hlit1 hsl hpad hzl h1 f1 hb6 hb6' hba hg6 hg6' hbd hown1 hi0 hz0 hz1 hz2 hv1 HD HV
  have FD := Lib.hid (Fr.of_below (· = D) BD.out)
  have FA := Lib.hid (Fr.of_below (· = D) BA.out)
  have F6 := Lib.hid (Fr.of_below (· = D) B6.out)
  refine wp_region_held_drew (S := Fr (· = D) w1) (by kernel_rfl) FD.out (fun _ => ?_)
  refine anyH_take 0 (some 30) (.pointer (some ⟨D, 0, none⟩)) rfl rfl (by kernel_rfl) (by kernel_rfl) (by kernel_rfl) (fun _ _ _ h => h) rfl (fun _ _ => rfl) FD.out ?_
  simp only [Act.put, List.setIfInBounds_toArray, List.set_cons_zero, List.set_cons_succ]
  refine anyH_take 2 (some 32) (.pointer (some ⟨D, 0, none⟩)) rfl rfl (by kernel_rfl) (by kernel_rfl) (by kernel_rfl) (fun _ _ _ h => h) rfl (fun _ _ => rfl) FD.out ?_
  simp only [Act.put, List.setIfInBounds_toArray, List.set_cons_zero, List.set_cons_succ]
  refine anyH_take 3 (some 33) (.pointer (some ⟨D, 0, none⟩)) rfl rfl (by kernel_rfl) (by kernel_rfl) (by kernel_rfl) (fun _ _ _ h => h) rfl (fun _ _ => rfl) FD.out ?_
  simp only [Act.put, List.setIfInBounds_toArray, List.set_cons_zero, List.set_cons_succ]
  refine anyH_take 4 (some 34) (.pointer (some ⟨D, 1, none⟩)) rfl rfl (by kernel_rfl) (by kernel_rfl) (by kernel_rfl) (fun _ _ _ h => h) rfl (fun _ _ => by kernel_rfl) FD.out ?_
  simp only [Act.put, List.setIfInBounds_toArray, List.set_cons_zero, List.set_cons_succ]
  refine anyH_take 7 (some 37) (.int .i64 (i : Int)) rfl rfl (by kernel_rfl) (by kernel_rfl) (by kernel_rfl) (fun _ _ _ h => h) rfl (fun _ _ => rfl) FD.out ?_
  simp only [Act.put, List.setIfInBounds_toArray, List.set_cons_zero, List.set_cons_succ]
  refine anyH_take 8 (some 38) (.slice va l.length vc) rfl rfl (by kernel_rfl) (by kernel_rfl) (by kernel_rfl) (fun _ _ _ h => h) rfl (fun _ _ => rfl) FD.out ?_
  simp only [Act.put, List.setIfInBounds_toArray, List.set_cons_zero, List.set_cons_succ]
  refine anyH_take 9 (some 39) (.string ⟨l.toArray⟩) rfl rfl (by kernel_rfl) (by kernel_rfl) (by kernel_rfl) (fun _ _ _ h => h) rfl (fun W hW => ex_convert 29 9 (.tmp 38) rfl _ _ rfl (CV.out W hW)) FD.out ?_
  simp only [Act.put, List.setIfInBounds_toArray, List.set_cons_zero, List.set_cons_succ]
  refine anyH_take 11 (some 41) (.slice va l.length vc) rfl rfl (by kernel_rfl) (by kernel_rfl) (by kernel_rfl) (fun _ _ _ h => h) rfl (fun _ _ => rfl) FD.out ?_
  simp only [Act.put, List.setIfInBounds_toArray, List.set_cons_zero, List.set_cons_succ]
  refine anyH_take 12 (some 42) (.int .i64 (l.length : Int)) rfl rfl (by kernel_rfl) (by kernel_rfl) (by kernel_rfl) (fun _ _ _ h => h) rfl (fun _ _ => ex_len 29 5 (.tmp 41) rfl Try.underlying29 rfl) FD.out ?_
  simp only [Act.put, List.setIfInBounds_toArray, List.set_cons_zero, List.set_cons_succ]
  refine anyH_two 1 5 (by kernel_rfl) rfl rfl rfl rfl (fun K hK => wp_runs (some 31) rfl (ex_buildSlice 71 0 #[] rfl _ rfl _ LIT0.out) (hK _ _ FA.out ?_)) (fun K hK => wp_runs (some 35) rfl (ex_load 71 (.tmp 34) rfl _ _ rfl (L35.out _ BD.out)) (hK _ _ FD.out ?_))
  · simp only [Act.put, List.setIfInBounds_toArray, List.set_cons_zero, List.set_cons_succ]
    refine anyH_one 5 (by kernel_rfl) rfl rfl (fun K hK => ?_)
    refine wp_runs (some 35) rfl (ex_load 71 (.tmp 34) rfl _ _ rfl (L35.out _ BA.out)) (hK _ _ FA.out ?_)
    clear hK K
    simp only [Act.put, List.setIfInBounds_toArray, List.set_cons_zero, List.set_cons_succ]
    refine anyH_one 6 (by kernel_rfl) rfl rfl (fun K hK => ?_)
    refine wp_runs (some 36) rfl (ex_append (.tmp 31) (.tmp 35) 71 71 rfl _ _ _ rfl rfl R6.out) (hK _ _ F6.out ?_)
    clear hK K
    simp only [Act.put, List.setIfInBounds_toArray, List.set_cons_zero, List.set_cons_succ]
    refine anyH_one 10 (by kernel_rfl) rfl rfl (fun K hK => ?_)
    refine wp_calls (some 40) rfl 37 #[] (ex_call0 37 _ rfl (fun _ _ => rfl)) (.string ⟨zeroP.toArray⟩) (fun w' => Below w6.heap.size w6 w') EM.out (fun W1 hR1 => hK _ _ (Fr.of_below (· = D) (B6.out.trans (hR1.mono B6.out.size))) ?_)
    clear hK K
    simp only [Act.put, List.setIfInBounds_toArray, List.set_cons_zero, List.set_cons_succ]
    have hS1 := Lib.hid (B6.out.trans (hR1.mono B6.out.size))
    have HR1 := Lib.hid hR1
    clear hR1
    have hown8 : W1.ownsRow 0 77 2 (.slice (some ⟨g6, 0, none⟩) s.waits.length c6) s.waits.length (s.waits.flatMap rwC) := owns_frame O6.out (fun k hk => HR1.out.block k (row_lt O6.out k hk))
    obtain ⟨g8, c8, W8, hr8, hw8, hgr8, hg8⟩ := app_more W1 s.waits g6 c6 (i, pad l) hown8 HN.out
    have hS2 : Hid (Below w1.heap.size w1 (W1.alloc (.cells #[.int .i64 (i : Int), .string ⟨(pad l).toArray⟩] 77))) := hS1.out.alloc hS1.out.size _
    have hS3 : Hid (Below w1.heap.size w1 W8) := hS2.out.grown hgr8 hS2.out.size (fun k hk => by cases hk; exact G6.out)
    have hg8' : w1.heap.size ≤ g8 := by
      rcases hg8 with rfl | h
      · exact G6.out
      · exact Nat.le_trans hS1.out.size h
    have hfin := RNow.after H1.out F1.out (H1.out.listed hS3.out g8 (s.waits.length + 1) c8 (s.waits ++ [(i, pad l)]) (by simp) (fun x hx => by
      rw [HGS.out]
      rcases List.mem_append.1 hx with hx | hx
      · have := H1.out.ok.writes x (by rw [HGW.out]; exact hx)
        rwa [HGS.out] at this
      · simp only [List.mem_singleton] at hx
        subst hx
        exact ⟨HI.out, pad_len HL.out⟩) HN.out (by simp) hw8 hg8')
    have hst : (Instr.storeAt 71 (.pointer (some ⟨D, 1, none⟩)) (.slice (some ⟨g8, 0, none⟩) (s.waits.length + 1) c8)).run Try.prog W8 = .ok () (W8.setCell ⟨D, 1, none⟩ (.slice (some ⟨g8, 0, none⟩) (s.waits.length + 1) c8)) := by
      have h8 := H1.out.below hS3.out
      have hc := h8.c1
      have hf := h8.free 1
      go_simp
    have FE := Lib.hid ((Fr.of_below (· = D) hS3.out).setCell ⟨D, 1, none⟩ (Or.inl rfl) (.slice (some ⟨g8, 0, none⟩) (s.waits.length + 1) c8))
    have HFIN := Lib.hid hfin
    have ST := Lib.hid hst
    have R8 := Lib.hid hr8
    have LIT1' := Lib.hid (LIT1.out W1)
    have FS1 := Lib.hid (Fr.of_below (· = D) hS1.out)
    have FS2 := Lib.hid (Fr.of_below (· = D) hS2.out)
    have FS3 := Lib.hid (Fr.of_below (· = D) hS3.out)
    clear hfin hst hr8 hown8 hw8 hgr8 hg8 hg8'
    refine anyH_take 13 (some 43) (.string ⟨Z.toArray⟩) rfl rfl (by kernel_rfl) (by kernel_rfl) (by kernel_rfl) (fun _ _ _ h => h) rfl (fun W _ => ex_sliceFrom 9 (.tmp 40) (.tmp 42) rfl _ _ _ rfl rfl (SL.out W)) FS1.out ?_
    simp only [Act.put, List.setIfInBounds_toArray, List.set_cons_zero, List.set_cons_succ]
    refine anyH_take 14 (some 44) (.string ⟨(l ++ Z).toArray⟩) rfl rfl (by kernel_rfl) (by kernel_rfl) (by kernel_rfl) (fun _ _ _ h => h) rfl (fun W _ => ex_addS 9 9 (.tmp 39) (.tmp 43) rfl l Z rfl rfl (by have := HL.out; omega) (by have := ZL.out; omega)) FS1.out ?_
    simp only [Act.put, List.setIfInBounds_toArray, List.set_cons_zero, List.set_cons_succ]
    rw [PAD.out]
    refine anyH_take 15 (some 45) (.agg #[.int .i64 (i : Int), .string ⟨(pad l).toArray⟩]) rfl rfl (by kernel_rfl) (by kernel_rfl) (by kernel_rfl) (fun _ _ _ h => h) rfl (fun _ _ => by kernel_rfl) FS1.out ?_
    simp only [Act.put, List.setIfInBounds_toArray, List.set_cons_zero, List.set_cons_succ]
    refine anyH_one 16 (by kernel_rfl) rfl rfl (fun K hK => ?_)
    refine wp_runs (some 46) rfl (ex_buildSlice 71 1 #[(0, .tmp 45)] rfl _ rfl _ LIT1'.out) (hK _ _ FS2.out ?_)
    clear hK K
    simp only [Act.put, List.setIfInBounds_toArray, List.set_cons_zero, List.set_cons_succ]
    refine anyH_one 17 (by kernel_rfl) rfl rfl (fun K hK => ?_)
    refine wp_runs (some 47) rfl (ex_append (.tmp 36) (.tmp 46) 71 71 rfl _ _ _ rfl rfl R8.out) (hK _ _ FS3.out ?_)
    clear hK K
    simp only [Act.put, List.setIfInBounds_toArray, List.set_cons_zero, List.set_cons_succ]
    refine anyH_take 18 (some 48) (.pointer (some ⟨D, 0, none⟩)) rfl rfl (by kernel_rfl) (by kernel_rfl) (by kernel_rfl) (fun _ _ _ h => h) rfl (fun _ _ => rfl) FS3.out ?_
    simp only [Act.put, List.setIfInBounds_toArray, List.set_cons_zero, List.set_cons_succ]
    refine anyH_take 19 (some 49) (.pointer (some ⟨D, 1, none⟩)) rfl rfl (by kernel_rfl) (by kernel_rfl) (by kernel_rfl) (fun _ _ _ h => h) rfl (fun _ _ => by kernel_rfl) FS3.out ?_
    simp only [Act.put, List.setIfInBounds_toArray, List.set_cons_zero, List.set_cons_succ]
    refine anyH_one 20 (by kernel_rfl) rfl rfl (fun K hK => ?_)
    refine wp_skips none rfl (ex_store 71 (.tmp 49) (.tmp 47) rfl _ _ rfl rfl ST.out) (hK _ _ FE.out ?_)
    clear hK K
    simp only [Act.put]
    refine wpAnyH_done (by kernel_rfl) ?_ _
    have HE := Lib.hid HFIN.out
    clear FS1 FS2 FS3 FE LIT1' R8 ST hS1 hS2 hS3 HR1 L35 CV R6 O6 EM LIT0 LIT1 SL PAD ZL H1 F1 B6 BA G6 BD FD FA F6 HFIN
    go_wp2
    go_ret
    exact ⟨rfl, HE.out⟩
  · simp only [Act.put, List.setIfInBounds_toArray, List.set_cons_zero, List.set_cons_succ]
    refine anyH_one 1 (by kernel_rfl) rfl rfl (fun K hK => ?_)
    refine wp_runs (some 31) rfl (ex_buildSlice 71 0 #[] rfl _ rfl _ LIT0.out) (hK _ _ FA.out ?_)
    clear hK K
    simp only [Act.put, List.setIfInBounds_toArray, List.set_cons_zero, List.set_cons_succ]
    refine anyH_one 6 (by kernel_rfl) rfl rfl (fun K hK => ?_)
    refine wp_runs (some 36) rfl (ex_append (.tmp 31) (.tmp 35) 71 71 rfl _ _ _ rfl rfl R6.out) (hK _ _ F6.out ?_)
    clear hK K
    simp only [Act.put, List.setIfInBounds_toArray, List.set_cons_zero, List.set_cons_succ]
    refine anyH_one 10 (by kernel_rfl) rfl rfl (fun K hK => ?_)
    refine wp_calls (some 40) rfl 37 #[] (ex_call0 37 _ rfl (fun _ _ => rfl)) (.string ⟨zeroP.toArray⟩) (fun w' => Below w6.heap.size w6 w') EM.out (fun W1 hR1 => hK _ _ (Fr.of_below (· = D) (B6.out.trans (hR1.mono B6.out.size))) ?_)
    clear hK K
    simp only [Act.put, List.setIfInBounds_toArray, List.set_cons_zero, List.set_cons_succ]
    have hS1 := Lib.hid (B6.out.trans (hR1.mono B6.out.size))
    have HR1 := Lib.hid hR1
    clear hR1
    have hown8 : W1.ownsRow 0 77 2 (.slice (some ⟨g6, 0, none⟩) s.waits.length c6) s.waits.length (s.waits.flatMap rwC) := owns_frame O6.out (fun k hk => HR1.out.block k (row_lt O6.out k hk))
    obtain ⟨g8, c8, W8, hr8, hw8, hgr8, hg8⟩ := app_more W1 s.waits g6 c6 (i, pad l) hown8 HN.out
    have hS2 : Hid (Below w1.heap.size w1 (W1.alloc (.cells #[.int .i64 (i : Int), .string ⟨(pad l).toArray⟩] 77))) := hS1.out.alloc hS1.out.size _
    have hS3 : Hid (Below w1.heap.size w1 W8) := hS2.out.grown hgr8 hS2.out.size (fun k hk => by cases hk; exact G6.out)
    have hg8' : w1.heap.size ≤ g8 := by
      rcases hg8 with rfl | h
      · exact G6.out
      · exact Nat.le_trans hS1.out.size h
    have hfin := RNow.after H1.out F1.out (H1.out.listed hS3.out g8 (s.waits.length + 1) c8 (s.waits ++ [(i, pad l)]) (by simp) (fun x hx => by
      rw [HGS.out]
      rcases List.mem_append.1 hx with hx | hx
      · have := H1.out.ok.writes x (by rw [HGW.out]; exact hx)
        rwa [HGS.out] at this
      · simp only [List.mem_singleton] at hx
        subst hx
        exact ⟨HI.out, pad_len HL.out⟩) HN.out (by simp) hw8 hg8')
    have hst : (Instr.storeAt 71 (.pointer (some ⟨D, 1, none⟩)) (.slice (some ⟨g8, 0, none⟩) (s.waits.length + 1) c8)).run Try.prog W8 = .ok () (W8.setCell ⟨D, 1, none⟩ (.slice (some ⟨g8, 0, none⟩) (s.waits.length + 1) c8)) := by
      have h8 := H1.out.below hS3.out
      have hc := h8.c1
      have hf := h8.free 1
      go_simp
    have FE := Lib.hid ((Fr.of_below (· = D) hS3.out).setCell ⟨D, 1, none⟩ (Or.inl rfl) (.slice (some ⟨g8, 0, none⟩) (s.waits.length + 1) c8))
    have HFIN := Lib.hid hfin
    have ST := Lib.hid hst
    have R8 := Lib.hid hr8
    have LIT1' := Lib.hid (LIT1.out W1)
    have FS1 := Lib.hid (Fr.of_below (· = D) hS1.out)
    have FS2 := Lib.hid (Fr.of_below (· = D) hS2.out)
    have FS3 := Lib.hid (Fr.of_below (· = D) hS3.out)
    clear hfin hst hr8 hown8 hw8 hgr8 hg8 hg8'
    refine anyH_take 13 (some 43) (.string ⟨Z.toArray⟩) rfl rfl (by kernel_rfl) (by kernel_rfl) (by kernel_rfl) (fun _ _ _ h => h) rfl (fun W _ => ex_sliceFrom 9 (.tmp 40) (.tmp 42) rfl _ _ _ rfl rfl (SL.out W)) FS1.out ?_
    simp only [Act.put, List.setIfInBounds_toArray, List.set_cons_zero, List.set_cons_succ]
    refine anyH_take 14 (some 44) (.string ⟨(l ++ Z).toArray⟩) rfl rfl (by kernel_rfl) (by kernel_rfl) (by kernel_rfl) (fun _ _ _ h => h) rfl (fun W _ => ex_addS 9 9 (.tmp 39) (.tmp 43) rfl l Z rfl rfl (by have := HL.out; omega) (by have := ZL.out; omega)) FS1.out ?_
    simp only [Act.put, List.setIfInBounds_toArray, List.set_cons_zero, List.set_cons_succ]
    rw [PAD.out]
    refine anyH_take 15 (some 45) (.agg #[.int .i64 (i : Int), .string ⟨(pad l).toArray⟩]) rfl rfl (by kernel_rfl) (by kernel_rfl) (by kernel_rfl) (fun _ _ _ h => h) rfl (fun _ _ => by kernel_rfl) FS1.out ?_
    simp only [Act.put, List.setIfInBounds_toArray, List.set_cons_zero, List.set_cons_succ]
    refine anyH_one 16 (by kernel_rfl) rfl rfl (fun K hK => ?_)
    refine wp_runs (some 46) rfl (ex_buildSlice 71 1 #[(0, .tmp 45)] rfl _ rfl _ LIT1'.out) (hK _ _ FS2.out ?_)
    clear hK K
    simp only [Act.put, List.setIfInBounds_toArray, List.set_cons_zero, List.set_cons_succ]
    refine anyH_one 17 (by kernel_rfl) rfl rfl (fun K hK => ?_)
    refine wp_runs (some 47) rfl (ex_append (.tmp 36) (.tmp 46) 71 71 rfl _ _ _ rfl rfl R8.out) (hK _ _ FS3.out ?_)
    clear hK K
    simp only [Act.put, List.setIfInBounds_toArray, List.set_cons_zero, List.set_cons_succ]
    refine anyH_take 18 (some 48) (.pointer (some ⟨D, 0, none⟩)) rfl rfl (by kernel_rfl) (by kernel_rfl) (by kernel_rfl) (fun _ _ _ h => h) rfl (fun _ _ => rfl) FS3.out ?_
    simp only [Act.put, List.setIfInBounds_toArray, List.set_cons_zero, List.set_cons_succ]
    refine anyH_take 19 (some 49) (.pointer (some ⟨D, 1, none⟩)) rfl rfl (by kernel_rfl) (by kernel_rfl) (by kernel_rfl) (fun _ _ _ h => h) rfl (fun _ _ => by kernel_rfl) FS3.out ?_
    simp only [Act.put, List.setIfInBounds_toArray, List.set_cons_zero, List.set_cons_succ]
    refine anyH_one 20 (by kernel_rfl) rfl rfl (fun K hK => ?_)
    refine wp_skips none rfl (ex_store 71 (.tmp 49) (.tmp 47) rfl _ _ rfl rfl ST.out) (hK _ _ FE.out ?_)
    clear hK K
    simp only [Act.put]
    refine wpAnyH_done (by kernel_rfl) ?_ _
    have HE := Lib.hid HFIN.out
    clear FS1 FS2 FS3 FE LIT1' R8 ST hS1 hS2 hS3 HR1 L35 CV R6 O6 EM LIT0 LIT1 SL PAD ZL H1 F1 B6 BA G6 BD FD FA F6 HFIN
    go_wp2
    go_ret
    exact ⟨rfl, HE.out⟩
end Go.Proofs.Ytohmofhpbmhhjaa

