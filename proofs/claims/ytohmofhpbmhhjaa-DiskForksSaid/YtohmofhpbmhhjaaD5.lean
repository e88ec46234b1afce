/- Disk: Write, walked. -/
import Derived.Test.YtohmofhpbmhhjaaD4
import Derived.Test.YtohmofhpbmhhjaaD1c
namespace Go.Proofs.Ytohmofhpbmhhjaa
open Go Go.RowKit

section
variable {P : Program}
theorem wpList_copy_known {ops : Array Oper} {rest : List Oper} {o : Oper} {a : Act} {w : World} {Q : Exit → Act → World → Prop} (hgd : o.guard = none) (s x : Operand) (T U : TypeId)
    (ho : o.op = .call { callee := .builtin .copy, args := #[s, x], argTypes := #[T, U] }) (v xv : Value) (hs : a.eval s = v) (hx : a.eval x = xv) (v' : Value) (w' : World)
    (hr : ∀ ty, (Builtin.copy_ #[T, U] ty #[v, xv]).run P w = .ok v' w') (h : wpList P ops Q rest (a.put o.dst v') w') : wpList P ops Q (o :: rest) a w :=
  wpList_plain hgd fun K hK => by
    unfold Oper.wp execOp
    simp only [ho, resolve, invoke, builtin, Sem.run_bind, Sem.run_pure, Result.andThen_ok, List.map_toArray, List.map_cons, List.map_nil, hs, hx, hr]
    exact hK _ _ h
end

/-- The disk is s now; what is not its own stands. -/
def Now (O : Nat → Prop) (w : World) (D S c : Nat) (s : St) (w' : World) : Prop := ∃ O' wv', Dsk O' w' D S c wv' s ∧ Fr O w w' ∧ ∀ k, O' k → O k ∨ w.heap.size ≤ k
set_option maxHeartbeats 2000000 in
theorem write_run {O : Nat → Prop} {w : World} {D S c : Nat} {wv : Value} {s : St} (h : Dsk O w D S c wv s) (hd : s.down = false) (i : Nat) (hi : i < s.sure.length) (v : Value) (l : List UInt8) (hv : Byz w v l) (hvO : ∀ g, v.ownBlock = some g → l ≠ [] → ¬ O g) (hl : l.length ≤ 64) (hg : s.go.2 = false) (hn : s.waits.length + 1 ≤ 1000) :
    Calls Try.prog 11 #[.pointer (some ⟨D, 0, none⟩), .int .i64 (i : Int), v] w fun e w' => e = .returned (.int .i64 0) ∧ Now O w D S c { s.go.1 with waits := s.go.1.waits ++ [(i, pad l)] } w' := by
  have hh := has_yes w D S c _ (i : Int) h.c0 (by omega) (by omega)
  have hgo := goes_any h hd
  rw [hg] at hgo
  have c3 := h.c3
  rw [hd] at c3
  obtain ⟨va, vc, rfl⟩ := hv.1
  have hz := fun w => (zero_of_info (P := Try.prog) (t := 63) (v := .agg (zeroW 0).toArray) (n := 65) (by kernel_rfl)).1 w
  have hsz := (zero_of_info (P := Try.prog) (t := 63) (v := .agg (zeroW 0).toArray) (n := 65) (by kernel_rfl)).2
  have hbt := built_W i
  have hll : ¬ (64 : Int) < (l.length : Int) := by omega
  have HZ := Lib.hid hz
  have HS := Lib.hid hsz
  have HB := Lib.hid hbt
  have HH := Lib.hid hh
  have HG := Lib.hid hgo
  have HV := Lib.hid hv
  clear hz hsz hbt hh hgo hv h
  go_enter Try.func11, Try.ntmps11
  go_wp2_with fail
  refine HH.out.mono ?_
  rintro e w' ⟨rfl, rfl⟩
  go_wp2_with fail
  refine HG.out.mono ?_
  rintro e w1 ⟨rfl, h1, f1⟩
  have hv1 : Byz w1 (.slice va l.length vc) l := HV.out.kept f1.size (fun g hg' hne => f1.block g (HV.out.lt g hg' hne) (fun e => hvO g hg' hne (by subst e; exact h1.memD)))
  have hcp := fun ty => run_copy_new (P := Try.prog) w1 29 5 ty Try.underlying29 (by kernel_rfl) (zeroW i) 63 1 64 64 _ l hv1 hl (by rw [zeroW_len]; omega)
  rw [over_zero i l hl] at hcp
  have HC := Lib.hid hcp
  have H1 := Lib.hid h1
  have F1 := Lib.hid f1
  have HI := Lib.hid (show (Try.prog.info? 63).map (fun i => (i.zero, i.size)) = some (some (.agg (zeroW 0).toArray), 65) by kernel_rfl)
  have HZ0 := Lib.hid (zeroW_len 0)
  have HZi := Lib.hid (zeroW_len i)
  have HZc := Lib.hid (all_oneCell_toArray (zeroW_cell i))
  clear hcp h1 f1 hv1
  generalize zeroW 0 = Z0 at *
  generalize zeroW i = Zi at *
  go_wp2_with (first
    | (refine wpList_build_row rfl 63 #[(0, .tmp 28)] rfl _ rfl _ HB.out ?_)
    | (refine wpList_alloc_row rfl 63 rfl _ (HZ.out _) ?_)
    | (refine wpList_store_new rfl 63 (.tmp 7) (.tmp 29) rfl _ _ rfl rfl (by rw [HS.out, List.size_toArray, HZi.out]) (by rw [List.size_toArray, List.size_toArray, HZ0.out, HZi.out]) HZc.out ?_)
    | (refine wpList_copy_known rfl _ _ 29 29 rfl _ _ rfl rfl _ _ HC.out ?_))
  have h1 := H1.out
  have f1 := F1.out
  obtain ⟨wa, wc, rfl, hwc⟩ := h1.wshape
  have hWB : Below w1.heap.size w1 (w1.alloc (.cells (wrC (i, pad l)).toArray 63)) := (Below.refl _ w1).alloc (Nat.le_refl _) _
  have hblk : (w1.alloc (.cells (wrC (i, pad l)).toArray 63)).heap[w1.heap.size]? = some (.cells (wrC (i, pad l)).toArray 63) := heap_alloc_last w1 _
  have h2 := h1.below hWB
  have hbD : D ≠ w1.heap.size := fun e => by have := h1.lt D h1.memD; omega
  have hCl : (wrC (i, pad l)).length = 65 := by rw [wrC_len, pad_len hl]
  have hCc : ∀ u ∈ wrC (i, pad l), u.oneCell' = true := wrC_cell
  generalize hWBe : w1.alloc (.cells (wrC (i, pad l)).toArray 63) = WB at *
  generalize hC1e : wrC (i, pad l) = C1 at *
  have HC1 := Lib.hid hC1e
  clear hC1e
  have hsz : WB.heap.size = w1.heap.size + 1 := by rw [← hWBe]; simp
  have hL5 : ∀ W, Below WB.heap.size WB W → (Instr.loadAt 63 (.pointer (some ⟨w1.heap.size, 0, none⟩))).run Try.prog W = .ok (.agg C1.toArray) W := fun W hW =>
    run_loadAt_mid W w1.heap.size 0 63 C1 _ (fun j u hu => by rw [cell_of_row W _ _ _ _ _ ((hW.block _ (by omega)).trans hblk)]; simpa using hu) Try.underlying63 rfl (by rw [HS.out, hCl])
  have hL4 : ∀ W, Below WB.heap.size WB W → (Instr.loadAt 56 (.pointer (some ⟨D, 1, none⟩))).run Try.prog W = .ok (.slice wa s.go.1.waits.length wc) W := fun W hW => by
    have hc := (hW.cell (p := ⟨D, 1, none⟩) (h2.lt D h2.memD)).trans h2.c1
    go_simp
  have hb0 : Below WB.heap.size WB WB.drew := (Below.refl _ _).drew
  have hwl : s.go.1.waits.length + 1 ≤ 1000 := by have : s.go.1.waits = s.waits := by unfold St.go; split <;> rfl
                                                  rw [this]; exact hn
  have hxi : i < s.go.1.sure.length := by have : s.go.1.sure = s.sure := by unfold St.go; split <;> rfl
                                          rw [this]; exact hi
  have hlit := fun W => run_lit_one (P := Try.prog) W 56 63 65 Try.underlying56 Z0 HI.out HZ0.out (by decide) (by decide) C1 hCl
  have hb1 : Below WB.heap.size WB (WB.drew.alloc (.cells C1.toArray 63)) := hb0.alloc (Nat.le_refl _) _
  have h3 := h2.below hb1
  obtain ⟨i0, hi0, hz0, hz1, hz2⟩ := info_parts infoW
  obtain ⟨v', WE, hrun, hown, hgrow, hwhere⟩ := app_own (P := Try.prog) (WB.drew.alloc (.cells C1.toArray 63)) 56 63 i0 _ 65 72 Try.underlying56 hi0 hz0 hz1 hz2 (by simp [Value.cells]) (by decide) _ _ _ h3.waits
    ⟨WB.heap.size, 0, none⟩ 1 1 C1 (by rw [hCl]) (by decide) (fun j u hu => by rw [Addr.add_mid, Nat.zero_add]; exact (cell_of_row _ WB.heap.size j _ _ _ (heap_alloc_last WB.drew _)).trans (by simpa using hu)) hCc (by unfold maxLen; omega) (by omega)
  have hown' : WE.ownsRow 0 63 65 v' (s.go.1.waits.length + 1) (s.go.1.waits.flatMap wrC ++ wrC (i, pad l)) := by rw [HC1.out]; exact hown
  obtain ⟨hfin, hfr⟩ := h3.wrote (x := (i, pad l)) (Below.refl _ _) hown' hgrow hwhere ⟨hxi, pad_len hl⟩ hwl
  have hfinD : ∃ a' c', v' = .slice a' (s.go.1.waits.length + 1) c' := by obtain ⟨a', c', e, _⟩ := owns_shape hown; exact ⟨a', c', e⟩
  obtain ⟨va', vc', rfl⟩ := hfinD
  have hst : (Instr.storeAt 56 (.pointer (some ⟨D, 1, none⟩)) (.slice va' (s.go.1.waits.length + 1) vc')).run Try.prog WE = .ok () (WE.setCell ⟨D, 1, none⟩ (.slice va' (s.go.1.waits.length + 1) vc')) := by
    have hb := (hgrow.block D (h3.lt D h3.memD) (fun e => (h3.memW D e.symm).2.1 rfl)).trans h3.blk
    have hc : WE.cell? ⟨D, 1, none⟩ = some (.slice wa s.go.1.waits.length wc) := by rw [cell_of_row _ _ _ _ _ _ hb]; rfl
    have hf : WE.frozen? ⟨D, 1, none⟩ = false := frozen_of_row _ _ _ _ _ hb
    go_simp
  have hwsz : w.heap.size ≤ WB.heap.size := by have := f1.size; omega
  have hnow : Now O w D S c { s.go.1 with waits := s.go.1.waits ++ [(i, pad l)] } (WE.setCell ⟨D, 1, none⟩ (.slice va' (s.go.1.waits.length + 1) vc')) := by
    refine ⟨_, _, hfin, ?_, fun k hk => ?_⟩
    · refine (f1.trans (Fr.of_below (fun _ => False) hWB) (o'' := O) (fun k _ e => by subst e; exact h2.memD) (fun _ _ e => e.elim)).trans ?_ (fun _ _ e => e) (fun _ _ e => e)
      exact (Fr.of_below O hb1).trans hfr (fun _ _ e => e) (fun _ _ e => e)
    · rcases hk.1 with h0 | h0
      · exact Or.inl h0
      · refine Or.inr ?_
        have : WB.heap.size ≤ (WB.drew.alloc (.cells C1.toArray 63)).heap.size := hb1.size
        omega
  have N := Lib.hid hnow
  have L4 := Lib.hid hL4
  have L5 := Lib.hid hL5
  have hlitd : (Instr.buildSlice 56 1 [(0, Value.agg C1.toArray)].toArray).run Try.prog WB.drew = .ok (.slice (some ⟨WB.heap.size, 0, none⟩) 1 1) (WB.drew.alloc (.cells C1.toArray 63)) := hlit WB.drew
  have LIT := Lib.hid hlitd
  have RUN := Lib.hid hrun
  have ST := Lib.hid hst
  have B0 := Lib.hid hb0
  have B1 := Lib.hid hb1
  clear hnow hL4 hL5 hlit hlitd hrun hst hb0 hb1 hfin hfr hown hown' hgrow hwhere h3 h2 h1 f1 hblk hWB hCc hWBe
  refine wp_region_any (by kernel_rfl) ?_
  change wpAny _ _ _ _ _ _ _ (World.drew _)
  refine any_take 0 (some 34) (.pointer (some ⟨D, 0, none⟩)) rfl rfl (by kernel_rfl) (by kernel_rfl) (by kernel_rfl) (fun _ _ _ h => h) rfl (fun w => rfl) ?_
  simp only [Act.put, List.setIfInBounds_toArray, List.set_cons_zero, List.set_cons_succ]
  refine any_take 1 (some 35) (.pointer (some ⟨D, 0, none⟩)) rfl rfl (by kernel_rfl) (by kernel_rfl) (by kernel_rfl) (fun _ _ _ h => h) rfl (fun w => rfl) ?_
  simp only [Act.put, List.setIfInBounds_toArray, List.set_cons_zero, List.set_cons_succ]
  refine any_take 2 (some 36) (.pointer (some ⟨D, 0, none⟩)) rfl rfl (by kernel_rfl) (by kernel_rfl) (by kernel_rfl) (fun _ _ _ h => h) rfl (fun w => rfl) ?_
  simp only [Act.put, List.setIfInBounds_toArray, List.set_cons_zero, List.set_cons_succ]
  refine any_take 3 (some 37) (.pointer (some ⟨D, 1, none⟩)) rfl rfl (by kernel_rfl) (by kernel_rfl) (by kernel_rfl) (fun _ _ _ h => h) rfl (fun w => by kernel_rfl) ?_
  simp only [Act.put, List.setIfInBounds_toArray, List.set_cons_zero, List.set_cons_succ]
  refine any_two 4 5 (by kernel_rfl) rfl rfl rfl rfl (fun K hK => wp_runs (some 38) rfl (ex_load 56 (.tmp 37) rfl _ _ rfl (L4.out _ B0.out)) (hK _ _ ?_)) (fun K hK => wp_runs (some 39) rfl (ex_load 63 (.tmp 7) rfl _ _ rfl (L5.out _ B0.out)) (hK _ _ ?_))
  · simp only [Act.put, List.setIfInBounds_toArray, List.set_cons_zero, List.set_cons_succ]
    refine any_one 5 (by kernel_rfl) rfl rfl (fun K hK => wp_runs (some 39) rfl (ex_load 63 (.tmp 7) rfl _ _ rfl (L5.out _ B0.out)) (hK _ _ ?_))
    simp only [Act.put, List.setIfInBounds_toArray, List.set_cons_zero, List.set_cons_succ]
    refine any_one 6 (by kernel_rfl) rfl rfl (fun K hK => wp_runs (some 40) rfl (ex_buildSlice 56 1 #[(0, .tmp 39)] rfl _ rfl _ LIT.out) (hK _ _ ?_))
    simp only [Act.put, List.setIfInBounds_toArray, List.set_cons_zero, List.set_cons_succ]
    refine any_one 7 (by kernel_rfl) rfl rfl (fun K hK => wp_runs (some 41) rfl (ex_append (.tmp 38) (.tmp 40) 56 56 rfl _ _ _ rfl rfl RUN.out) (hK _ _ ?_))
    simp only [Act.put, List.setIfInBounds_toArray, List.set_cons_zero, List.set_cons_succ]
    refine any_one 8 (by kernel_rfl) rfl rfl (fun K hK => wp_runs (w' := WE) (v := .pointer (some ⟨D, 0, none⟩)) (some 42) rfl rfl (hK _ _ ?_))
    simp only [Act.put, List.setIfInBounds_toArray, List.set_cons_zero, List.set_cons_succ]
    refine any_one 9 (by kernel_rfl) rfl rfl (fun K hK => wp_runs (w' := WE) (v := .pointer (some ⟨D, 1, none⟩)) (some 43) rfl (by kernel_rfl) (hK _ _ ?_))
    simp only [Act.put, List.setIfInBounds_toArray, List.set_cons_zero, List.set_cons_succ]
    refine any_one 10 (by kernel_rfl) rfl rfl (fun K hK => wp_skips none rfl (ex_store 56 (.tmp 43) (.tmp 41) rfl _ _ rfl rfl ST.out) (hK _ _ ?_))
    simp only [Act.put]
    refine wpAny_done (by kernel_rfl) ?_ _
    go_wp2
    go_ret
    exact ⟨rfl, N.out⟩
  · simp only [Act.put, List.setIfInBounds_toArray, List.set_cons_zero, List.set_cons_succ]
    refine any_two 4 6 (by kernel_rfl) rfl rfl rfl rfl (fun K hK => wp_runs (some 38) rfl (ex_load 56 (.tmp 37) rfl _ _ rfl (L4.out _ B0.out)) (hK _ _ ?_)) (fun K hK => wp_runs (some 40) rfl (ex_buildSlice 56 1 #[(0, .tmp 39)] rfl _ rfl _ LIT.out) (hK _ _ ?_))
    · simp only [Act.put, List.setIfInBounds_toArray, List.set_cons_zero, List.set_cons_succ]
      refine any_one 6 (by kernel_rfl) rfl rfl (fun K hK => wp_runs (some 40) rfl (ex_buildSlice 56 1 #[(0, .tmp 39)] rfl _ rfl _ LIT.out) (hK _ _ ?_))
      simp only [Act.put, List.setIfInBounds_toArray, List.set_cons_zero, List.set_cons_succ]
      refine any_one 7 (by kernel_rfl) rfl rfl (fun K hK => wp_runs (some 41) rfl (ex_append (.tmp 38) (.tmp 40) 56 56 rfl _ _ _ rfl rfl RUN.out) (hK _ _ ?_))
      simp only [Act.put, List.setIfInBounds_toArray, List.set_cons_zero, List.set_cons_succ]
      refine any_one 8 (by kernel_rfl) rfl rfl (fun K hK => wp_runs (w' := WE) (v := .pointer (some ⟨D, 0, none⟩)) (some 42) rfl rfl (hK _ _ ?_))
      simp only [Act.put, List.setIfInBounds_toArray, List.set_cons_zero, List.set_cons_succ]
      refine any_one 9 (by kernel_rfl) rfl rfl (fun K hK => wp_runs (w' := WE) (v := .pointer (some ⟨D, 1, none⟩)) (some 43) rfl (by kernel_rfl) (hK _ _ ?_))
      simp only [Act.put, List.setIfInBounds_toArray, List.set_cons_zero, List.set_cons_succ]
      refine any_one 10 (by kernel_rfl) rfl rfl (fun K hK => wp_skips none rfl (ex_store 56 (.tmp 43) (.tmp 41) rfl _ _ rfl rfl ST.out) (hK _ _ ?_))
      simp only [Act.put]
      refine wpAny_done (by kernel_rfl) ?_ _
      go_wp2
      go_ret
      exact ⟨rfl, N.out⟩
    · simp only [Act.put, List.setIfInBounds_toArray, List.set_cons_zero, List.set_cons_succ]
      refine any_one 4 (by kernel_rfl) rfl rfl (fun K hK => wp_runs (some 38) rfl (ex_load 56 (.tmp 37) rfl _ _ rfl (L4.out _ B1.out)) (hK _ _ ?_))
      simp only [Act.put, List.setIfInBounds_toArray, List.set_cons_zero, List.set_cons_succ]
      refine any_one 7 (by kernel_rfl) rfl rfl (fun K hK => wp_runs (some 41) rfl (ex_append (.tmp 38) (.tmp 40) 56 56 rfl _ _ _ rfl rfl RUN.out) (hK _ _ ?_))
      simp only [Act.put, List.setIfInBounds_toArray, List.set_cons_zero, List.set_cons_succ]
      refine any_one 8 (by kernel_rfl) rfl rfl (fun K hK => wp_runs (w' := WE) (v := .pointer (some ⟨D, 0, none⟩)) (some 42) rfl rfl (hK _ _ ?_))
      simp only [Act.put, List.setIfInBounds_toArray, List.set_cons_zero, List.set_cons_succ]
      refine any_one 9 (by kernel_rfl) rfl rfl (fun K hK => wp_runs (w' := WE) (v := .pointer (some ⟨D, 1, none⟩)) (some 43) rfl (by kernel_rfl) (hK _ _ ?_))
      simp only [Act.put, List.setIfInBounds_toArray, List.set_cons_zero, List.set_cons_succ]
      refine any_one 10 (by kernel_rfl) rfl rfl (fun K hK => wp_skips none rfl (ex_store 56 (.tmp 43) (.tmp 41) rfl _ _ rfl rfl ST.out) (hK _ _ ?_))
      simp only [Act.put]
      refine wpAny_done (by kernel_rfl) ?_ _
      go_wp2
      go_ret
      exact ⟨rfl, N.out⟩
end Go.Proofs.Ytohmofhpbmhhjaa
