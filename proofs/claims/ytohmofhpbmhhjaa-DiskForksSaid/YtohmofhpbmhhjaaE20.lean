/- Disk: Forks of both. -/
import Derived.Test.YtohmofhpbmhhjaaE19
namespace Go.Proofs.Ytohmofhpbmhhjaa
open Go Go.RowKit

def ForkD (w : World) (s : St) (w' : World) (f S : Nat) : Prop := ∃ c O wv, Dsk O w' f S c wv s ∧ (∀ k, O k → w.heap.size ≤ k) ∧ Below w.heap.size w w'
def ForkQ (w : World) (Q : Nat → Prop) (pv lv : Value) (s : St) (w' : World) (f : Nat) : Prop := RDsk (fun k => k = f ∨ (Q k ∧ k < w.heap.size)) w' f pv lv s ∧ w.heap.size ≤ f ∧ Below w.heap.size w w'

theorem flat_one {α : Type} (f : α → List Value) (l : List α) (h : ∀ x ∈ l, ∀ u ∈ f x, u.oneCell' = true) : ∀ u ∈ l.flatMap f, u.oneCell' = true := by
  intro u hu
  obtain ⟨x, hx, hux⟩ := List.mem_flatMap.1 hu
  exact h x hx u hux
/-- The new disk, put together. -/
theorem fork_fin {O : Nat → Prop} {w w2 w3 : World} {D S c : Nat} {wv : Value} {s : St} (h : Dsk O w D S c wv s) (hal : Below w.heap.size w (w.alloc (.cells #[.slice (some ⟨S, 0, none⟩) s.sure.length c, wv, .int .i64 (s.cut : Int), .bool s.down, .int .i64 (s.age : Int)] 58)))
    {W1 : World} (b1 : Below (w.heap.size + 1) (w.alloc (.cells #[.slice (some ⟨S, 0, none⟩) s.sure.length c, wv, .int .i64 (s.cut : Int), .bool s.down, .int .i64 (s.age : Int)] 58)) W1)
    {v1 v2 : Value} (c1 : CloneR W1 61 64 (.slice (some ⟨S, 0, none⟩) s.sure.length c) s.sure.length (s.sure.flatMap pgC) w2 v1) (c2 : CloneR w2 63 65 wv s.waits.length (s.waits.flatMap wrC) w3 v2) :
    ∃ S', ForkD w s ((w3.setCell ⟨w.heap.size, 0, none⟩ v1).setCell ⟨w.heap.size, 1, none⟩ v2) w.heap.size S' := by
  obtain ⟨o1, l1, e1, f1⟩ := c1
  obtain ⟨o2, l2, e2, _⟩ := c2
  obtain ⟨S', c', rfl⟩ := f1 S 0 c rfl
  have hz1 : w.heap.size + 1 ≤ W1.heap.size := by have := b1.size; simp at this; omega
  have hz2 := e1.size
  have hS' : W1.heap.size ≤ S' := l1 S' rfl
  have hS2 : S' < w2.heap.size := (World.ownsRow.lt o1 S' rfl).2
  have bb : Below (w.heap.size + 1) (w.alloc (.cells #[.slice (some ⟨S, 0, none⟩) s.sure.length c, wv, .int .i64 (s.cut : Int), .bool s.down, .int .i64 (s.age : Int)] 58)) w3 := (b1.trans (e1.mono hz1)).trans (e2.mono (by omega))
  have hF : w3.heap[w.heap.size]? = some (.cells #[.slice (some ⟨S, 0, none⟩) s.sure.length c, wv, .int .i64 (s.cut : Int), .bool s.down, .int .i64 (s.age : Int)] 58 (0, 0)) := (bb.block _ (by omega)).trans (heap_alloc_last w _)
  have hF1 : (w3.setCell ⟨w.heap.size, 0, none⟩ (.slice (some ⟨S', 0, none⟩) s.sure.length c')).heap[w.heap.size]? = some (.cells #[.slice (some ⟨S', 0, none⟩) s.sure.length c', wv, .int .i64 (s.cut : Int), .bool s.down, .int .i64 (s.age : Int)] 58 (0, 0)) := by
    rw [heap_setCell_same _ _ 0 _ _ _ hF]; rfl
  have hF2 : ((w3.setCell ⟨w.heap.size, 0, none⟩ (.slice (some ⟨S', 0, none⟩) s.sure.length c')).setCell ⟨w.heap.size, 1, none⟩ v2).heap[w.heap.size]? = some (.cells #[.slice (some ⟨S', 0, none⟩) s.sure.length c', v2, .int .i64 (s.cut : Int), .bool s.down, .int .i64 (s.age : Int)] 58 (0, 0)) := by
    rw [heap_setCell_same _ _ 1 _ _ _ hF1]; rfl
  have hoth : ∀ k, k ≠ w.heap.size → ((w3.setCell ⟨w.heap.size, 0, none⟩ (.slice (some ⟨S', 0, none⟩) s.sure.length c')).setCell ⟨w.heap.size, 1, none⟩ v2).heap[k]? = w3.heap[k]? := fun k hk => (heap_setCell_other _ _ _ _ hk).trans (heap_setCell_other _ _ _ _ hk)
  have hb3 : Below w.heap.size w w3 := hal.trans (bb.mono (by omega))
  have hlt3 : ∀ g, v2.ownBlock = some g → g < w3.heap.size := fun g hg => (World.ownsRow.lt o2 g hg).2
  refine ⟨S', c', fun k => k = w.heap.size ∨ k = S' ∨ v2.ownBlock = some k, v2, ⟨h.ok, hF2, ?_, ?_, Or.inl rfl, ⟨Or.inr (Or.inl rfl), by omega⟩, fun g hg => ⟨Or.inr (Or.inr hg), by have := l2 g hg; omega, by have := l2 g hg; omega⟩, fun k hk => ?_⟩, fun k hk => ?_, ?_⟩
  · exact owns_frame o1 (fun k hk => by cases hk; exact (hoth S' (by omega)).trans (e2.block S' hS2))
  · exact owns_frame o2 (fun k hk => hoth k (by have := l2 k hk; omega))
  · have : ((w3.setCell ⟨w.heap.size, 0, none⟩ (.slice (some ⟨S', 0, none⟩) s.sure.length c')).setCell ⟨w.heap.size, 1, none⟩ v2).heap.size = w3.heap.size := by simp [World.setCell]
    rw [this]
    have := e2.size
    rcases hk with rfl | rfl | hk
    · omega
    · omega
    · exact hlt3 k hk
  · rcases hk with rfl | rfl | hk
    · exact Nat.le_refl _
    · omega
    · have := l2 k hk; omega
  · exact (hb3.setCell (Nat.le_refl _) _).setCell (Nat.le_refl _) _

set_option maxRecDepth 100000 in
set_option maxHeartbeats 3200000 in
theorem fork_any {O : Nat → Prop} {w : World} {D S c : Nat} {wv : Value} {s : St} (h : Dsk O w D S c wv s) :
    Calls Try.prog 19 #[.pointer (some ⟨D, 0, none⟩)] w fun e w' => e = .returned (.pointer (some ⟨w.heap.size, 0, none⟩)) ∧ ∃ S', ForkD w s w' w.heap.size S' := by
  have hld : (Instr.loadAt 58 (.pointer (some ⟨D, 0, none⟩))).run Try.prog w = .ok (.agg #[.slice (some ⟨S, 0, none⟩) s.sure.length c, wv, .int .i64 (s.cut : Int), .bool s.down, .int .i64 (s.age : Int)]) w :=
    run_loadAt_mid w D 0 58 [.slice (some ⟨S, 0, none⟩) s.sure.length c, wv, .int .i64 (s.cut : Int), .bool s.down, .int .i64 (s.age : Int)] _ (fun j u hj => by
      rw [Nat.zero_add, cell_of_row _ _ _ _ _ _ h.blk, ← hj, List.getElem?_toArray]) Try.underlying58 rfl (by kernel_rfl)
  have hDl := h.lt D h.memD
  have hal : Below w.heap.size w (w.alloc (.cells #[.slice (some ⟨S, 0, none⟩) s.sure.length c, wv, .int .i64 (s.cut : Int), .bool s.down, .int .i64 (s.age : Int)] 58)) := (Below.refl _ w).alloc (Nat.le_refl _) _
  have hfin := fun (W1 w2 w3 : World) b1 (v1 v2 : Value) c1 c2 => fork_fin (w2 := w2) (w3 := w3) h hal (W1 := W1) b1 (v1 := v1) (v2 := v2) c1 c2
  have hpo : ∀ u ∈ s.sure.flatMap pgC, u.oneCell' = true := flat_one _ _ (fun _ _ => pgC_cell)
  have hwo : ∀ u ∈ s.waits.flatMap wrC, u.oneCell' = true := flat_one _ _ (fun _ _ => wrC_cell)
  obtain ⟨wa, wc, rfl, _⟩ := h.wshape
  have hs1 := h.sure
  have hw1 := h.waits
  have hnp : s.sure.length ≤ 1000 := by have := h.ok.few; omega
  have hnw := h.ok.wn
  have LD := Lib.hid hld
  generalize hX : (Obj.cells #[.slice (some ⟨S, 0, none⟩) s.sure.length c, .slice wa s.waits.length wc, .int .i64 (s.cut : Int), .bool s.down, .int .i64 (s.age : Int)] 58) = X at *
  have HX := Lib.hid hX
  clear hld
  go_enter Try.func19, Try.ntmps19
  go_wp2_with (refine wpList_load_known rfl 58 (.tmp 7) rfl _ _ rfl LD.out ?_)
  clear LD
  have bd : Below w.heap.size w (w.alloc X).drew := hal.drew
  have b1 : Below (w.heap.size + 1) (w.alloc X) (w.alloc X).drew := (Below.refl _ _).drew
  have hsl : ∀ W : World, Below w.heap.size w W → W.ownsRow 0 61 64 (.slice (some ⟨S, 0, none⟩) s.sure.length c) s.sure.length (s.sure.flatMap pgC) := fun W hW => owns_frame hs1 (fun k hk => hW.block k (World.ownsRow.lt hs1 k hk).2)
  have hwl : ∀ W : World, Below w.heap.size w W → W.ownsRow 0 63 65 (.slice wa s.waits.length wc) s.waits.length (s.waits.flatMap wrC) := fun W hW => owns_frame hw1 (fun k hk => hW.block k (World.ownsRow.lt hw1 k hk).2)
  have hl0 : ∀ W : World, Below w.heap.size w W → (Instr.loadAt 55 (.pointer (some ⟨D, 0, none⟩))).run Try.prog W = .ok (.slice (some ⟨S, 0, none⟩) s.sure.length c) W := fun W hW => by
    have hc : W.cell? ⟨D, 0, none⟩ = some (.slice (some ⟨S, 0, none⟩) s.sure.length c) := (hW.cell (p := ⟨D, 0, none⟩) hDl).trans h.c0
    go_simp
  have hl1 : ∀ W : World, Below w.heap.size w W → (Instr.loadAt 56 (.pointer (some ⟨D, 1, none⟩))).run Try.prog W = .ok (.slice wa s.waits.length wc) W := fun W hW => by
    have hc : W.cell? ⟨D, 1, none⟩ = some (.slice wa s.waits.length wc) := (hW.cell (p := ⟨D, 1, none⟩) hDl).trans h.c1
    go_simp
  have BD := Lib.hid bd
  have B1 := Lib.hid b1
  have C1 := Lib.hid (cloneP _ s.sure.length _ (w.alloc X).drew (hsl _ bd) hpo hnp)
  have C2 := Lib.hid (fun W (hW : Below w.heap.size w W) => cloneW _ s.waits.length _ W (hwl _ hW) hwo hnw)
  have L0 := Lib.hid hl0
  have L1 := Lib.hid hl1
  have FIN := Lib.hid hfin
  have HAL := Lib.hid hal
  clear bd b1 hsl hwl hl0 hl1 hfin hal hs1 hw1 hpo hwo hnp hnw h
  refine wp_region_held_drew (S := Below w.heap.size w) (by kernel_rfl) BD.out (fun _ => ?_)
  refine anyH_take 0 (some 9) (.pointer (some ⟨D, 0, none⟩)) rfl rfl (by kernel_rfl) (by kernel_rfl) (by kernel_rfl) (fun _ _ _ h => h) rfl (fun _ _ => rfl) BD.out ?_
  simp only [Act.put, List.setIfInBounds_toArray, List.set_cons_zero, List.set_cons_succ]
  refine anyH_take 1 (some 10) (.pointer (some ⟨D, 0, none⟩)) rfl rfl (by kernel_rfl) (by kernel_rfl) (by kernel_rfl) (fun _ _ _ h => h) rfl (fun _ _ => ex_nilCheck (.tmp 9) rfl _ rfl) BD.out ?_
  simp only [Act.put, List.setIfInBounds_toArray, List.set_cons_zero, List.set_cons_succ]
  refine anyH_take 2 (some 11) (.pointer (some ⟨D, 0, none⟩)) rfl rfl (by kernel_rfl) (by kernel_rfl) (by kernel_rfl) (fun _ _ _ h => h) rfl (fun _ _ => by kernel_rfl) BD.out ?_
  simp only [Act.put, List.setIfInBounds_toArray, List.set_cons_zero, List.set_cons_succ]
  refine anyH_take 3 (some 12) (.slice (some ⟨S, 0, none⟩) s.sure.length c) rfl rfl (by kernel_rfl) (by kernel_rfl) (by kernel_rfl) (fun _ _ _ h => h) rfl (fun W hW => ex_load 55 (.tmp 11) rfl _ _ rfl (L0.out W hW)) BD.out ?_
  simp only [Act.put, List.setIfInBounds_toArray, List.set_cons_zero, List.set_cons_succ]
  refine anyH_take 5 (some 14) (.pointer (some ⟨D, 0, none⟩)) rfl rfl (by kernel_rfl) (by kernel_rfl) (by kernel_rfl) (fun _ _ _ h => h) rfl (fun _ _ => rfl) BD.out ?_
  simp only [Act.put, List.setIfInBounds_toArray, List.set_cons_zero, List.set_cons_succ]
  refine anyH_take 6 (some 15) (.pointer (some ⟨D, 0, none⟩)) rfl rfl (by kernel_rfl) (by kernel_rfl) (by kernel_rfl) (fun _ _ _ h => h) rfl (fun _ _ => ex_nilCheck (.tmp 14) rfl _ rfl) BD.out ?_
  simp only [Act.put, List.setIfInBounds_toArray, List.set_cons_zero, List.set_cons_succ]
  refine anyH_take 7 (some 16) (.pointer (some ⟨D, 1, none⟩)) rfl rfl (by kernel_rfl) (by kernel_rfl) (by kernel_rfl) (fun _ _ _ h => h) rfl (fun _ _ => by kernel_rfl) BD.out ?_
  simp only [Act.put, List.setIfInBounds_toArray, List.set_cons_zero, List.set_cons_succ]
  refine anyH_take 8 (some 17) (.slice wa s.waits.length wc) rfl rfl (by kernel_rfl) (by kernel_rfl) (by kernel_rfl) (fun _ _ _ h => h) rfl (fun W hW => ex_load 56 (.tmp 16) rfl _ _ rfl (L1.out W hW)) BD.out ?_
  simp only [Act.put, List.setIfInBounds_toArray, List.set_cons_zero, List.set_cons_succ]
  refine anyH_one 4 (by kernel_rfl) rfl rfl (fun K hK => ?_)
  refine wp_callsX (some 13) rfl 29 _ (ex_call1 29 (.tmp 12) _ rfl _ rfl (fun _ _ => rfl)) _ C1.out (fun w2 v1 hR1 => hK _ _ (BD.out.trans (hR1.2.2.1.mono BD.out.size)) ?_)
  clear hK K
  simp only [Act.put, List.setIfInBounds_toArray, List.set_cons_zero, List.set_cons_succ]
  have BD2 := Lib.hid (BD.out.trans (hR1.2.2.1.mono BD.out.size))
  have R1 := Lib.hid hR1
  clear hR1
  refine anyH_one 9 (by kernel_rfl) rfl rfl (fun K hK => ?_)
  refine wp_callsX (some 18) rfl 30 _ (ex_call1 30 (.tmp 17) _ rfl _ rfl (fun _ _ => rfl)) _ (C2.out _ BD2.out) (fun w3 v2 hR2 => hK _ _ (BD2.out.trans (hR2.2.2.1.mono BD2.out.size)) ?_)
  clear hK K
  simp only [Act.put, List.setIfInBounds_toArray, List.set_cons_zero, List.set_cons_succ]
  have BD3 := Lib.hid (BD2.out.trans (hR2.2.2.1.mono BD2.out.size))
  have hE := FIN.out _ _ _ B1.out _ _ R1.out hR2
  have hwX : w3.heap[w.heap.size]? = some X := by
    have q1 := hR2.2.2.1.block w.heap.size (by have := B1.out.size; have := R1.out.2.2.1.size; simp at this ⊢; omega)
    have q2 := R1.out.2.2.1.block w.heap.size (by simp)
    exact q1.trans (q2.trans (heap_alloc_last w X))
  rw [← HX.out] at hwX
  obtain ⟨S', c', hv1⟩ := R1.out.2.2.2 S 0 c rfl
  subst hv1
  obtain ⟨va, vc, hv2, _⟩ := owns_shape hR2.1
  subst hv2
  have hc0 : w3.cell? ⟨w.heap.size, 0, none⟩ = some (.slice (some ⟨S, 0, none⟩) s.sure.length c) := by rw [cell_of_row _ _ _ _ _ _ hwX]; rfl
  have hf0 : w3.frozen? ⟨w.heap.size, 0, none⟩ = false := frozen_of_row _ _ _ _ _ hwX
  have hwX2 : (w3.setCell ⟨w.heap.size, 0, none⟩ (.slice (some ⟨S', 0, none⟩) s.sure.length c')).heap[w.heap.size]? = some (.cells #[.slice (some ⟨S', 0, none⟩) s.sure.length c', .slice wa s.waits.length wc, .int .i64 (s.cut : Int), .bool s.down, .int .i64 (s.age : Int)] 58 (0, 0)) := by
    rw [heap_setCell_same _ _ 0 _ _ _ hwX]; rfl
  have hc1 : (w3.setCell ⟨w.heap.size, 0, none⟩ (.slice (some ⟨S', 0, none⟩) s.sure.length c')).cell? ⟨w.heap.size, 1, none⟩ = some (.slice wa s.waits.length wc) := by rw [cell_of_row _ _ _ _ _ _ hwX2]; rfl
  have hf1 : (w3.setCell ⟨w.heap.size, 0, none⟩ (.slice (some ⟨S', 0, none⟩) s.sure.length c')).frozen? ⟨w.heap.size, 1, none⟩ = false := frozen_of_row _ _ _ _ _ hwX2
  have hst0 : (Instr.storeAt 55 (.pointer (some ⟨w.heap.size, 0, none⟩)) (.slice (some ⟨S', 0, none⟩) s.sure.length c')).run Try.prog w3 = .ok () (w3.setCell ⟨w.heap.size, 0, none⟩ (.slice (some ⟨S', 0, none⟩) s.sure.length c')) := by
    clear hwX2 hc1 hf1
    go_simp
  have hst1 : (Instr.storeAt 56 (.pointer (some ⟨w.heap.size, 1, none⟩)) (.slice va s.waits.length vc)).run Try.prog (w3.setCell ⟨w.heap.size, 0, none⟩ (.slice (some ⟨S', 0, none⟩) s.sure.length c')) = .ok () ((w3.setCell ⟨w.heap.size, 0, none⟩ (.slice (some ⟨S', 0, none⟩) s.sure.length c')).setCell ⟨w.heap.size, 1, none⟩ (.slice va s.waits.length vc)) := by
    generalize (w3.setCell ⟨w.heap.size, 0, none⟩ (.slice (some ⟨S', 0, none⟩) s.sure.length c')) = W at hc1 hf1
    clear hwX2 hwX hE hR2
    go_simp
  have HE := Lib.hid hE
  have ST0 := Lib.hid hst0
  have ST1 := Lib.hid hst1
  have BD4 := Lib.hid (BD3.out.setCell (p := ⟨w.heap.size, 0, none⟩) (Nat.le_refl _) (.slice (some ⟨S', 0, none⟩) s.sure.length c'))
  have BD5 := Lib.hid (BD4.out.setCell (p := ⟨w.heap.size, 1, none⟩) (Nat.le_refl _) (.slice va s.waits.length vc))
  clear hwX hwX2 hE hR2 hc0 hf0 hc1 hf1 hst0 hst1
  refine anyH_take 10 (some 19) (.pointer (some ⟨w.heap.size, 0, none⟩)) rfl rfl (by kernel_rfl) (by kernel_rfl) (by kernel_rfl) (fun _ _ _ h => h) rfl (fun _ _ => by kernel_rfl) BD3.out ?_
  simp only [Act.put, List.setIfInBounds_toArray, List.set_cons_zero, List.set_cons_succ]
  refine anyH_one 11 (by kernel_rfl) rfl rfl (fun K hK => ?_)
  refine wp_skips none rfl (ex_store 55 (.tmp 19) (.tmp 13) rfl _ _ rfl rfl ST0.out) (hK _ _ BD4.out ?_)
  clear hK K
  simp only [Act.put]
  refine anyH_take 12 (some 20) (.pointer (some ⟨w.heap.size, 1, none⟩)) rfl rfl (by kernel_rfl) (by kernel_rfl) (by kernel_rfl) (fun _ _ _ h => h) rfl (fun _ _ => by kernel_rfl) BD4.out ?_
  simp only [Act.put, List.setIfInBounds_toArray, List.set_cons_zero, List.set_cons_succ]
  refine anyH_one 13 (by kernel_rfl) rfl rfl (fun K hK => ?_)
  refine wp_skips none rfl (ex_store 56 (.tmp 20) (.tmp 18) rfl _ _ rfl rfl ST1.out) (hK _ _ BD5.out ?_)
  clear hK K
  simp only [Act.put]
  refine wpAnyH_done (by kernel_rfl) ?_ _
  clear ST0 ST1 BD BD2 BD3 BD4 BD5 C1 C2 L0 L1 R1 FIN B1 HAL HX
  obtain ⟨S2, hS2⟩ := HE.out
  have HS2 := Lib.hid hS2
  clear HE hS2
  go_wp2
  go_ret
  exact ⟨rfl, S2, HS2.out⟩

set_option maxHeartbeats 1600000 in
theorem rfork_any {Q : Nat → Prop} {w : World} {D : Nat} {pv lv : Value} {s : St} (h : RDsk Q w D pv lv s) :
    Calls Try.prog 20 #[.pointer (some ⟨D, 0, none⟩)] w fun e w' => e = .returned (.pointer (some ⟨w.heap.size, 0, none⟩)) ∧ ForkQ w Q pv lv s w' w.heap.size := by
  have hld : (Instr.loadAt 73 (.pointer (some ⟨D, 0, none⟩))).run Try.prog w = .ok (.agg #[pv, lv, .bool s.down, .int .i64 (s.cut : Int), .int .i64 (s.age : Int)]) w :=
    run_loadAt_mid w D 0 73 [pv, lv, .bool s.down, .int .i64 (s.cut : Int), .int .i64 (s.age : Int)] _ (fun j u hj => by
      rw [Nat.zero_add, cell_of_row _ _ _ _ _ _ h.blk, ← hj, List.getElem?_toArray]) Try.underlying73 rfl (by kernel_rfl)
  have hDl := h.lt D h.memD
  have hal : Below w.heap.size w (w.alloc (.cells #[pv, lv, .bool s.down, .int .i64 (s.cut : Int), .int .i64 (s.age : Int)] 73)) := (Below.refl _ w).alloc (Nat.le_refl _) _
  have hfin : ForkQ w Q pv lv s (w.alloc (.cells #[pv, lv, .bool s.down, .int .i64 (s.cut : Int), .int .i64 (s.age : Int)] 73)) w.heap.size := by
    refine ⟨⟨h.ok, heap_alloc_last w _, owns_frame h.pages (fun k hk => hal.block k (World.ownsRow.lt h.pages k hk).2), owns_frame h.waits (fun k hk => hal.block k (World.ownsRow.lt h.waits k hk).2), h.nil, Or.inl rfl, fun g hg => ?_, fun g hg => ?_, fun k hk => ?_⟩, Nat.le_refl _, hal⟩
    · have := h.lt g (h.memP g hg).1
      exact ⟨Or.inr ⟨(h.memP g hg).1, this⟩, by omega⟩
    · have := h.lt g (h.memL g hg).1
      exact ⟨Or.inr ⟨(h.memL g hg).1, this⟩, by omega⟩
    · rcases hk with rfl | ⟨_, hk⟩
      · simp
      · simp; omega
  obtain ⟨pg, pc, rfl, _⟩ := h.pshape
  obtain ⟨la, lc, rfl, _⟩ := h.lshape
  have LD := Lib.hid hld
  have FIN := Lib.hid hfin
  clear hld hfin hal h
  go_enter Try.func20, Try.ntmps20
  go_wp2_with (refine wpList_load_known rfl 73 (.tmp 7) rfl _ _ rfl LD.out ?_)
  go_ret
  exact ⟨rfl, FIN.out⟩
end Go.Proofs.Ytohmofhpbmhhjaa
