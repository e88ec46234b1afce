/- Bag, the document's own: Add. -/
import Derived.Test.YtdcpdeiljabkaaaN12
namespace Go.Proofs.Ytdcpdeiljabkaaa
open Go Go.RowKit

theorem heap_keep {w : World} {s : Nat} {o : Obj} (ob : Obj) (h : w.heap[s]? = some o) : (w.alloc ob).heap[s]? = some o := (((Below.refl w.heap.size w).alloc (Nat.le_refl _) ob).block s (Array.getElem?_eq_some_iff.1 h).1).trans h
theorem lt_of_row {w : World} {s : Nat} {o : Obj} (h : w.heap[s]? = some o) : s < w.heap.size := (Array.getElem?_eq_some_iff.1 h).1
theorem hh_three {P : Program} {ops : Array Oper} {Q : Exit → Act → World → Prop} {md : Region.Mode} {S : World → Prop} (i j k : Nat) {o o' o2 : Oper} {fuel : Nat} {listed : Array Bool} {a : Act} {w : World} (hr : Region.ready md ops listed = [i, j, k]) (ho : ops[i]? = some o) (hg : o.guard = none) (ho' : ops[j]? = some o') (hg' : o'.guard = none) (ho2 : ops[k]? = some o2) (hg2 : o2.guard = none)
    (h : ∀ K : Act → World → Prop, (∀ a' w', S w' → wpAnyH P md ops Q S fuel (listed.setIfInBounds i true) a' w' → K a' w') → o.wp P a w K Q)
    (h' : ∀ K : Act → World → Prop, (∀ a' w', S w' → wpAnyH P md ops Q S fuel (listed.setIfInBounds j true) a' w' → K a' w') → o'.wp P a w K Q)
    (h2 : ∀ K : Act → World → Prop, (∀ a' w', S w' → wpAnyH P md ops Q S fuel (listed.setIfInBounds k true) a' w' → K a' w') → o2.wp P a w K Q) : wpAnyH P md ops Q S (fuel + 1) listed a w :=
  wpAnyH_ready hr (by simp) (AllReadyH.cons ho (fun K hK => by rw [if_pos (by simp [Region.wanted, hg])]; exact h K (fun a' w' hS' hn => hK.out a' w' hS' (fun _ => hn))) (AllReadyH.cons ho' (fun K hK => by rw [if_pos (by simp [Region.wanted, hg'])]; exact h' K (fun a' w' hS' hn => hK.out a' w' hS' (fun _ => hn))) (AllReadyH.cons ho2 (fun K hK => by rw [if_pos (by simp [Region.wanted, hg2])]; exact h2 K (fun a' w' hS' hn => hK.out a' w' hS' (fun _ => hn))) AllReadyH.nil)))
theorem infoBo : (Try.prog.info? 4).map (fun i => (i.zero, i.size, i.bytes)) = some (some (.bool false), 1, 1) := by kernel_rfl
/-- append(append([]bool{}, there..), true). -/
theorem there_app (N : Nat) (Wm : World) (tv : Value) (ts : List Bool) (hown : Wm.ownsRow N 4 1 tv ts.length (ts.map Value.bool)) (hN : N ≤ Wm.heap.size) (hn : ts.length ≤ 1000) :
    ∃ g3 c3 Wc g4 c4 Wd, (∀ ty, (Builtin.append_ #[60, 60] ty #[.slice (some ⟨Wm.heap.size, 0, none⟩) 0 0, tv]).run Try.prog (Wm.alloc (.cells #[] 4)) = .ok (.slice (some ⟨g3, 0, none⟩) ts.length c3) Wc) ∧
      (∀ ty, (Builtin.append_ #[60, 60] ty #[.slice (some ⟨g3, 0, none⟩) ts.length c3, .slice (some ⟨Wc.heap.size, 0, none⟩) 1 1]).run Try.prog (Wc.alloc (.cells #[.bool true] 4)) = .ok (.slice (some ⟨g4, 0, none⟩) (ts.length + 1) c4) Wd) ∧
      Below Wm.heap.size Wm (Wm.alloc (.cells #[] 4)) ∧ Below Wm.heap.size Wm Wd ∧ Wd.ownsRow N 4 1 (.slice (some ⟨g4, 0, none⟩) (ts.length + 1) c4) (ts ++ [true]).length ((ts ++ [true]).map Value.bool) ∧ Wm.heap.size ≤ g4 := by
  obtain ⟨i1, hi1, hz, hs, hby⟩ := info_parts infoBo
  have hb1 : Below Wm.heap.size Wm (Wm.alloc (.cells #[] 4)) := (Below.refl _ Wm).alloc (Nat.le_refl _) _
  have hs1 : (Wm.alloc (.cells #[] 4)).heap.size = Wm.heap.size + 1 := by simp
  have hE : (Wm.alloc (.cells #[] 4)).ownsRow N 4 1 (.slice (some ⟨Wm.heap.size, 0, none⟩) 0 0) 0 [] := owns_of_row (heap_alloc_new Wm _) hN rfl (Nat.zero_le _)
  have ht1 := owns_frame hown (fun g hg => hb1.block g (World.ownsRow.lt hown g hg).2)
  obtain ⟨g3, c3, Wc, hrun, hown3, hgr, hwh⟩ := app_any (P := Try.prog) (Wm.alloc (.cells #[] 4)) N 60 4 i1 (.bool false) 1 1 Try.underlying60 hi1 hz hs hby rfl (by decide) Wm.heap.size 0 0 [] hE tv ts.length _ (World.ownsRow.mono ht1 (Nat.zero_le _)) (fun u hu => by obtain ⟨t, _, rfl⟩ := List.mem_map.1 hu; rfl) (by unfold maxLen; omega) (by omega) (by omega)
  rw [Nat.zero_add] at hrun hown3
  rw [List.nil_append] at hown3
  have hb2 : Below Wm.heap.size Wm Wc := hb1.grown hgr (by omega) (fun k hk => by cases hk; exact Nat.le_refl _)
  have hg3 : Wm.heap.size ≤ g3 := by rcases hwh with h | h <;> omega
  have hsc := hb2.size
  have hb3 : Below Wm.heap.size Wm (Wc.alloc (.cells #[.bool true] 4)) := hb2.alloc hb2.size _
  have hL : (Wc.alloc (.cells #[.bool true] 4)).ownsRow 0 4 1 (.slice (some ⟨Wc.heap.size, 0, none⟩) 1 1) 1 [.bool true] := owns_of_row (heap_alloc_new Wc _) (Nat.zero_le _) rfl (by decide)
  have hown4 : (Wc.alloc (.cells #[.bool true] 4)).ownsRow N 4 1 (.slice (some ⟨g3, 0, none⟩) ts.length c3) ts.length (ts.map Value.bool) := World.ownsRow.alloc hown3 _
  have hs4 : (Wc.alloc (.cells #[.bool true] 4)).heap.size = Wc.heap.size + 1 := by simp
  obtain ⟨g4, c4, Wd, hrun4, hown5, hgr4, hwh4⟩ := app_any (P := Try.prog) (Wc.alloc (.cells #[.bool true] 4)) N 60 4 i1 (.bool false) 1 1 Try.underlying60 hi1 hz hs hby rfl (by decide) g3 ts.length c3 _ hown4 _ 1 _ hL (fun u hu => by rw [List.mem_singleton.1 hu]; rfl) (by unfold maxLen; omega) (by omega) (by omega)
  refine ⟨g3, c3, Wc, g4, c4, Wd, hrun, hrun4, hb1, hb3.grown hgr4 (by omega) (fun k hk => by cases hk; exact hg3), ?_, by rcases hwh4 with h | h <;> omega⟩
  rw [List.map_append, List.length_append]
  exact hown5
theorem us_cells {N : Nat} {u : World} {av : Value} {us : List UV} (h : UvAt N u av us) : ∀ v ∈ us.flatMap cellsUV, v.oneCell' = true := fun v hv => by
  obtain ⟨p, hp, hv⟩ := List.mem_flatMap.1 hv
  obtain ⟨a, c, e⟩ := (h.bytes p hp).1
  exact cellsUn_cell p ⟨a, _, c, e⟩ v hv
theorem all_copy (N : Nat) (u : World) (e0 : Nat) (av : Value) (us : List UV) (hE : u.ownsRow N 34 3 (.slice (some ⟨e0, 0, none⟩) 0 0) 0 []) (hA : UvAt N u av us) (hN : N ≤ u.heap.size) (hn : us.length ≤ 1000) :
    ∃ g c u', (∀ ty, (Builtin.append_ #[43, 43] ty #[.slice (some ⟨e0, 0, none⟩) 0 0, av]).run Try.prog u = .ok (.slice (some ⟨g, 0, none⟩) us.length c) u') ∧ u'.ownsRow N 34 3 (.slice (some ⟨g, 0, none⟩) us.length c) us.length (us.flatMap cellsUV) ∧ u.grownBy u' (some e0) ∧ (g = e0 ∨ u.heap.size ≤ g) := by
  obtain ⟨i, hi, hz, hs, hby⟩ := info_parts infoUn
  obtain ⟨g, c, u', h1, h2, h3, h4⟩ := app_any (P := Try.prog) u N 43 34 i _ 3 40 Try.underlying43 hi hz hs hby rfl (by decide) e0 0 0 [] hE av us.length _ (World.ownsRow.mono hA.own (Nat.zero_le _)) (us_cells hA) (by unfold maxLen; omega) (by omega) hN
  rw [Nat.zero_add] at h1 h2
  rw [List.nil_append] at h2
  exact ⟨g, c, u', h1, h2, h3, h4⟩
theorem all_app (N : Nat) (u : World) (g c n s : Nat) (xs : List Value) (x : Und) (pv : Value) (hp : ∃ a m k, pv = .slice a m k) (hA : u.ownsRow N 34 3 (.slice (some ⟨g, 0, none⟩) n c) n xs) (hL : u.heap[s]? = some (.cells #[.int .i64 x.src, .int .i64 x.dst, pv] 34 (0, 0))) (hN : N ≤ u.heap.size) (hn : n ≤ 1000) :
    ∃ g2 c2 u', (∀ ty, (Builtin.append_ #[43, 43] ty #[.slice (some ⟨g, 0, none⟩) n c, .slice (some ⟨s, 0, none⟩) 1 1]).run Try.prog u = .ok (.slice (some ⟨g2, 0, none⟩) (n + 1) c2) u') ∧ u'.ownsRow N 34 3 (.slice (some ⟨g2, 0, none⟩) (n + 1) c2) (n + 1) (xs ++ cellsUV (x, pv)) ∧ u.grownBy u' (some g) ∧ (g2 = g ∨ u.heap.size ≤ g2) := by
  obtain ⟨i, hi, hz, hs, hby⟩ := info_parts infoUn
  exact app_any (P := Try.prog) u N 43 34 i _ 3 40 Try.underlying43 hi hz hs hby rfl (by decide) g n c xs hA _ 1 (cellsUV (x, pv)) (owns_of_row hL (Nat.zero_le _) rfl (by decide)) (cellsUn_cell (x, pv) hp) (by unfold maxLen; omega) (by omega) hN
theorem run_lit_none (W : World) : (Instr.buildSlice 43 0 #[]).run Try.prog W = .ok (.slice (some ⟨W.heap.size, 0, none⟩) 0 0) (W.alloc (.cells #[] 34)) := by go_simp
set_option maxHeartbeats 8000000 in
set_option maxRecDepth 100000 in
theorem radd_any (N q c : Nat) (w : World) (r : Bg) (av tv : Value) (us : List UV) (ts : List Bool) (x : Und) (pv : Value) (h : RK N w q r c av us tv ts) (hz : Byz w pv x.bytes) (hlow : x.bytes ≠ [] → ∀ g, pv.ownBlock = some g → g < N) (hl : x.bytes.length ≤ 9223372036854775807) (hc : c ≤ 900) (hm : r.most ≤ 1000) (hlo : r.lost ≤ 1000000) :
    Calls Try.prog 27 #[.pointer (some ⟨q, 0, none⟩), .agg #[.int .i64 x.src, .int .i64 x.dst, pv]] w fun e w' => e = .returned (.int .i64 (r.add x).1) ∧ RefR N w q (c + 1) av tv (r.add x).2 w' := by
  have hNw := Nat.le_trans h.rb.base (Nat.le_of_lt h.rb.lt)
  have hlen := h.rb.len
  have hcnt := h.cnt
  have h1c : RK N w q r (c + 1) av us tv ts := ⟨h.rb, h.cur, h.low, by omega⟩
  obtain ⟨src, dst, bs⟩ := x
  obtain ⟨ba, bc, rfl⟩ := hz.1
  dsimp only at hz hl hlow ⊢
  obtain ⟨W0, hW0⟩ : ∃ W0, w.alloc (.cells #[.int .i64 src, .int .i64 dst, .slice ba bs.length bc] 34) = W0 := ⟨_, rfl⟩
  have hb0 : Below w.heap.size w W0 := by rw [← hW0]; exact (Below.refl _ w).alloc (Nat.le_refl _) _
  have hrow : W0.heap[w.heap.size]? = some (.cells #[.int .i64 src, .int .i64 dst, .slice ba bs.length bc] 34 (0, 0)) := by rw [← hW0]; exact heap_alloc_new w _
  have hs0 : W0.heap.size = w.heap.size + 1 := by rw [← hW0]; simp
  have hK0 := h.below hb0
  have k0 : W0.cell? ⟨w.heap.size, 0, none⟩ = some (.int .i64 src) := cell_of_row _ _ _ _ _ _ hrow
  have k1 : W0.cell? ⟨w.heap.size, 1, none⟩ = some (.int .i64 dst) := cell_of_row _ _ _ _ _ _ hrow
  have k2 : W0.cell? ⟨w.heap.size, 2, none⟩ = some (.slice ba bs.length bc) := cell_of_row _ _ _ _ _ _ hrow
  have HW0 := Lib.hid hW0
  by_cases hbad : (⟨src, dst, bs⟩ : Und).bad = true
  · have HE : Hid ((Ending.returned (.int .i64 2) = .returned (.int .i64 (r.add ⟨src, dst, bs⟩).1)) ∧ RefR N w q (c + 1) av tv (r.add ⟨src, dst, bs⟩).2 W0) := Lib.hid (by
      unfold Bg.add
      rw [if_pos hbad]
      exact ⟨rfl, RefR.same h1c hb0⟩)
    have hc6 : src < 0 ∨ (¬ src < 0 ∧ 7 < src) ∨ (¬ src < 0 ∧ ¬ 7 < src ∧ dst < 0) ∨ (¬ src < 0 ∧ ¬ 7 < src ∧ ¬ dst < 0 ∧ 7 < dst) ∨ (¬ src < 0 ∧ ¬ 7 < src ∧ ¬ dst < 0 ∧ ¬ 7 < dst ∧ (bs.length : Int) < 1) ∨ (¬ src < 0 ∧ ¬ 7 < src ∧ ¬ dst < 0 ∧ ¬ 7 < dst ∧ ¬ (bs.length : Int) < 1 ∧ (2006 : Int) < (bs.length : Int)) := by
      unfold Und.bad at hbad
      simp only [Bool.not_eq_true', Bool.and_eq_false_iff, decide_eq_false_iff_not] at hbad
      omega
    clear h h1c hz hrow hK0 hb0 hW0 hbad hlow hs0 hNw hlen hcnt
    rcases hc6 with d1 | ⟨d1, d2⟩ | ⟨d1, d2, d3⟩ | ⟨d1, d2, d3, d4⟩ | ⟨d1, d2, d3, d4, d5⟩ | ⟨d1, d2, d3, d4, d5, d6⟩
    all_goals
      go_enter Try.func27, Try.ntmps27
      go_wp2_with (first | rw [HW0.out])
      go_ret
      exact HE.out
  rw [Bool.not_eq_true] at hbad
  have hg6 : ¬ src < 0 ∧ ¬ 7 < src ∧ ¬ dst < 0 ∧ ¬ 7 < dst ∧ ¬ (bs.length : Int) < 1 ∧ ¬ (2006 : Int) < (bs.length : Int) := by
    unfold Und.bad at hbad
    simp only [Bool.not_eq_false', Bool.and_eq_true, decide_eq_true_eq] at hbad
    omega
  obtain ⟨d1, d2, d3, d4, d5, d6⟩ := hg6
  have hq0 := h.rb.lt
  have HLEN := Lib.hid (fun u (hu : Below W0.heap.size W0 u) => rlen_any N q r.most r.lost u av tv us ts (hK0.below hu).rb (by omega))
  have hlc := h.len
  rw [hlc] at HLEN
  have HM : Hid (∀ u, Below W0.heap.size W0 u → u.cell? ⟨q, 0, none⟩ = some (.int .i64 (r.most : Int))) := Lib.hid (fun u hu => (hK0.below hu).rb.cells.1)
  have HB1 := Lib.hid ((Below.refl W0.heap.size W0).drew)
  obtain ⟨L, hL⟩ : ∃ L, r.us.length = L := ⟨_, rfl⟩
  rw [hL] at HLEN
  have HEN5 : True := trivial

  by_cases hfull : r.most ≤ L
  · have hfi : (r.most : Int) ≤ (L : Int) := by omega
    have hfi2 : decide ((r.most : Int) ≤ (L : Int)) = true := decide_eq_true hfi
    have HE : Hid (∀ u, Below W0.heap.size W0 u → u.cell? ⟨q, 3, none⟩ = some (.int .i64 (r.lost : Int)) ∧ u.frozen? ⟨q, 3, none⟩ = false ∧ (Ending.returned (.int .i64 8) = .returned (.int .i64 (r.add ⟨src, dst, bs⟩).1)) ∧ RefR N w q (c + 1) av tv (r.add ⟨src, dst, bs⟩).2 (u.setCell ⟨q, 3, none⟩ (.int .i64 ((r.lost : Int) + 1)))) := Lib.hid (fun u hu => by
      unfold Bg.add
      rw [hbad, if_neg (by simp), if_pos (by omega)]
      have h1 := hK0.below hu
      have hf : Fr (· = q) u (u.setCell ⟨q, 3, none⟩ (.int .i64 ((r.lost : Int) + 1))) := (Fr.refl (· = q) u).setCell ⟨q, 3, none⟩ (Or.inl rfl) _
      refine ⟨h1.rb.cells.2.2.2.1, h1.rb.cells.2.2.2.2.2.2, rfl, av, us, tv, ts, ⟨⟨?_, ?_, ?_, h1.rb.len, h1.rb.neA, h1.rb.neT, h1.rb.base⟩, h1.cur, h1.low, by omega⟩, ?_, fun g hg => Or.inl hg, fun g hg => Or.inl hg⟩
      · have := heap_setCell_same u q 3 _ _ (.int .i64 ((r.lost : Int) + 1)) h1.rb.row
        rw [this]
        simp
      · exact h1.rb.all.kept hf.size (fun g hg => hf.block g (h1.rb.all.lt g hg) (h1.rb.neA g hg))
      · exact owns_frame h1.rb.tr (fun g hg => hf.block g (World.ownsRow.lt h1.rb.tr g hg).2 (h1.rb.neT g hg))
      · exact (Fr.of_below (fun k => k = q) (hb0.trans (hu.mono hb0.size))).trans hf (fun _ _ h => h) (fun _ _ h => h))
    clear h h1c hz hrow hK0 hb0 hW0 hbad hlow hs0 hNw hlen hcnt hlc hL hfull hq0
    go_enter Try.func27, Try.ntmps27
    go_wp2_with (first | rw [HW0.out])
    refine wp_region_held_drew (S := fun W => Below W0.heap.size W0 W) (by kernel_rfl) HB1.out (fun _ => ?_)
    refine hh_take 0 (some 37) (.pointer (some ⟨q, 0, none⟩)) rfl rfl (by kernel_rfl) (by kernel_rfl) (by kernel_rfl) (fun _ _ _ h => h) rfl (fun _ _ => rfl) HB1.out ?_
    simp only [Act.put, List.setIfInBounds_toArray, List.set_cons_zero, List.set_cons_succ]
    refine hh_take 2 (some 39) (.pointer (some ⟨q, 0, none⟩)) rfl rfl (by kernel_rfl) (by kernel_rfl) (by kernel_rfl) (fun _ _ _ h => h) rfl (fun _ _ => rfl) HB1.out ?_
    simp only [Act.put, List.setIfInBounds_toArray, List.set_cons_zero, List.set_cons_succ]
    refine hh_take 3 (some 40) (.pointer (some ⟨q, 0, none⟩)) rfl rfl (by kernel_rfl) (by kernel_rfl) (by kernel_rfl) (fun _ _ _ h => h) rfl (fun _ _ => by first | rfl | kernel_rfl | go_simp) HB1.out ?_
    simp only [Act.put, List.setIfInBounds_toArray, List.set_cons_zero, List.set_cons_succ]
    refine hh_take 4 (some 41) (.pointer (some ⟨q, 0, none⟩)) rfl rfl (by kernel_rfl) (by kernel_rfl) (by kernel_rfl) (fun _ _ _ h => h) rfl (fun _ _ => by first | rfl | kernel_rfl | go_simp) HB1.out ?_
    simp only [Act.put, List.setIfInBounds_toArray, List.set_cons_zero, List.set_cons_succ]
    refine hh_take 5 (some 42) (.int .i64 (r.most : Int)) rfl rfl (by kernel_rfl) (by kernel_rfl) (by kernel_rfl) (fun _ _ _ h => h) rfl (fun W hW => ex_load 3 (.tmp 41) rfl _ _ rfl (run_load_int W _ _ _ (HM.out W hW))) HB1.out ?_
    simp only [Act.put, List.setIfInBounds_toArray, List.set_cons_zero, List.set_cons_succ]
    refine hh_one 1 (by kernel_rfl) rfl rfl (fun K hK => wp_callsh (some 38) rfl 20 _ (ex_call1 20 (.tmp 37) _ rfl _ rfl (fun _ _ => rfl)) (.int .i64 (L : Int)) (fun w' => Below W0.heap.size W0 w') ((HLEN.out _ HB1.out).mono fun _ _ ⟨he, hw⟩ => ⟨he, hw ▸ HB1.out⟩) (fun w5 hb5 => hK _ _ hb5 ?_))
    clear hK K
    simp only [Act.put, List.setIfInBounds_toArray, List.set_cons_zero, List.set_cons_succ]
    refine hh_take 6 (some 43) (.bool true) rfl rfl (by kernel_rfl) (by kernel_rfl) (by kernel_rfl) (fun _ _ _ h => h) rfl (fun _ _ => by first | (go_simp; done) | (go_simp; omega)) hb5 ?_
    simp only [Act.put, List.setIfInBounds_toArray, List.set_cons_zero, List.set_cons_succ]
    refine wpAnyH_done (by kernel_rfl) ?_ _
    obtain ⟨k3, f3, hE1, hE2⟩ := HE.out w5 hb5
    have HE1 := Lib.hid hE1
    have HE2 := Lib.hid hE2
    clear hE1 hE2 HE HB1 hb5 HM HLEN k0 k1 k2
    go_wp2
    go_ret
    exact ⟨HE1.out, HE2.out⟩
  have hfi : ¬ (r.most : Int) ≤ (L : Int) := by omega
  have hfi2 : decide ((r.most : Int) ≤ (L : Int)) = false := decide_eq_false hfi
  obtain ⟨ta, tc, rfl, _⟩ := owns_shape h.rb.tr
  obtain ⟨aa, ac, rfl, _⟩ := owns_shape h.rb.all.own
  have HK : Hid (∀ u, Below W0.heap.size W0 u → u.heap[w.heap.size]? = some (.cells #[.int .i64 src, .int .i64 dst, .slice ba bs.length bc] 34 (0, 0)) ∧ u.cell? ⟨q, 1, none⟩ = some (.slice aa us.length ac)) := Lib.hid (fun u hu => ⟨below_row hrow hu (by omega), (hK0.below hu).rb.cells.2.1⟩)
  have HL0 : Hid (∀ u, Below W0.heap.size W0 u → Below W0.heap.size W0 (u.alloc (.cells #[] 34)) ∧ W0.heap.size ≤ u.heap.size ∧ (u.alloc (.cells #[] 34)).ownsRow N 34 3 (.slice (some ⟨u.heap.size, 0, none⟩) 0 0) 0 []) := Lib.hid (fun u hu => by
    have := hu.size
    exact ⟨hu.alloc hu.size _, this, owns_of_row (heap_alloc_new u _) (by omega) rfl (Nat.zero_le _)⟩)
  have HL1 : Hid (∀ u, Below W0.heap.size W0 u → Below W0.heap.size W0 (u.alloc (.cells #[.int .i64 src, .int .i64 dst, .slice ba bs.length bc] 34)) ∧ W0.heap.size ≤ u.heap.size ∧ (u.alloc (.cells #[.int .i64 src, .int .i64 dst, .slice ba bs.length bc] 34)).heap[u.heap.size]? = some (.cells #[.int .i64 src, .int .i64 dst, .slice ba bs.length bc] 34 (0, 0))) := Lib.hid (fun u hu => ⟨hu.alloc hu.size _, hu.size, heap_alloc_new u _⟩)
  have HA1 : Hid (∀ u e0, Below W0.heap.size W0 u → W0.heap.size ≤ e0 → u.ownsRow N 34 3 (.slice (some ⟨e0, 0, none⟩) 0 0) 0 [] → ∃ g c u', (∀ ty, (Builtin.append_ #[43, 43] ty #[.slice (some ⟨e0, 0, none⟩) 0 0, .slice aa us.length ac]).run Try.prog u = .ok (.slice (some ⟨g, 0, none⟩) us.length c) u') ∧ Below W0.heap.size W0 u' ∧ u'.ownsRow N 34 3 (.slice (some ⟨g, 0, none⟩) us.length c) us.length (us.flatMap cellsUV) ∧ W0.heap.size ≤ g ∧ ∀ s o, s ≠ e0 → u.heap[s]? = some o → u'.heap[s]? = some o) := Lib.hid (fun u e0 hu he hE => by
    have hsz := hu.size
    obtain ⟨g, c, u', h1, h2, h3, h4⟩ := all_copy N u e0 _ us hE (hK0.below hu).rb.all (by omega) (by omega)
    exact ⟨g, c, u', h1, hu.grown h3 hsz (fun k hk => by cases hk; exact he), h2, by rcases h4 with h4 | h4 <;> omega, fun s o hs ho => (h3.block s (Array.getElem?_eq_some_iff.1 ho).1 (fun e => hs (by cases e; rfl))).trans ho⟩)
  have HA2 : Hid (∀ u g c1 s, Below W0.heap.size W0 u → W0.heap.size ≤ g → u.ownsRow N 34 3 (.slice (some ⟨g, 0, none⟩) us.length c1) us.length (us.flatMap cellsUV) → u.heap[s]? = some (.cells #[.int .i64 src, .int .i64 dst, .slice ba bs.length bc] 34 (0, 0)) →
      ∃ g2 c2 u', (∀ ty, (Builtin.append_ #[43, 43] ty #[.slice (some ⟨g, 0, none⟩) us.length c1, .slice (some ⟨s, 0, none⟩) 1 1]).run Try.prog u = .ok (.slice (some ⟨g2, 0, none⟩) (us.length + 1) c2) u') ∧ Below W0.heap.size W0 u' ∧ u'.cell? ⟨q, 1, none⟩ = some (.slice aa us.length ac) ∧ u'.frozen? ⟨q, 1, none⟩ = false ∧
      ∀ Wm, u'.setCell ⟨q, 1, none⟩ (.slice (some ⟨g2, 0, none⟩) (us.length + 1) c2) = Wm → Wm.heap[w.heap.size]? = some (.cells #[.int .i64 src, .int .i64 dst, .slice ba bs.length bc] 34 (0, 0)) ∧
        ∃ g3 c3 Wc g4 c4 Wd, (∀ ty, (Builtin.append_ #[60, 60] ty #[.slice (some ⟨Wm.heap.size, 0, none⟩) 0 0, .slice ta ts.length tc]).run Try.prog (Wm.alloc (.cells #[] 4)) = .ok (.slice (some ⟨g3, 0, none⟩) ts.length c3) Wc) ∧
      (∀ ty, (Builtin.append_ #[60, 60] ty #[.slice (some ⟨g3, 0, none⟩) ts.length c3, .slice (some ⟨Wc.heap.size, 0, none⟩) 1 1]).run Try.prog (Wc.alloc (.cells #[.bool true] 4)) = .ok (.slice (some ⟨g4, 0, none⟩) (ts.length + 1) c4) Wd) ∧
        (Wm.alloc (.cells #[] 4)).cell? ⟨q, 2, none⟩ = some (.slice ta ts.length tc) ∧ Wd.cell? ⟨q, 2, none⟩ = some (.slice ta ts.length tc) ∧ Wd.frozen? ⟨q, 2, none⟩ = false ∧
        (Ending.returned (.int .i64 0) = .returned (.int .i64 (r.add ⟨src, dst, bs⟩).1)) ∧ RefR N w q (c + 1) (.slice aa us.length ac) (.slice ta ts.length tc) (r.add ⟨src, dst, bs⟩).2 (Wd.setCell ⟨q, 2, none⟩ (.slice (some ⟨g4, 0, none⟩) (ts.length + 1) c4))) := Lib.hid (fun u g c1 s hu hg hA hS => by
    have hsz := hu.size
    obtain ⟨g2, c2, u', h1, h2, h3, h4⟩ := all_app N u g c1 us.length s _ ⟨src, dst, bs⟩ _ ⟨_, _, _, rfl⟩ hA hS (by omega) (by omega)
    have hbu' : Below W0.heap.size W0 u' := hu.grown h3 hsz (fun k hk => by cases hk; exact hg)
    have hg2 : W0.heap.size ≤ g2 := by rcases h4 with h4 | h4 <;> omega
    have hKu := hK0.below hbu'
    refine ⟨g2, c2, u', h1, hbu', hKu.rb.cells.2.1, hKu.rb.cells.2.2.2.2.1, fun Wm hWm => ?_⟩
    have hf : Fr (· = q) u' Wm := by rw [← hWm]; exact (Fr.refl (· = q) u').setCell ⟨q, 1, none⟩ (Or.inl rfl) _
    have hfm : Fr (· = q) w Wm := (Fr.of_below (fun k => k = q) (hb0.trans (hbu'.mono hb0.size))).trans hf (fun _ _ h => h) (fun _ _ h => h)
    have hrm : Wm.heap[q]? = some (.cells #[.int .i64 (r.most : Int), .slice (some ⟨g2, 0, none⟩) (us.length + 1) c2, .slice ta ts.length tc, .int .i64 (r.lost : Int)] 62 (0, 0)) := by
      rw [← hWm]
      exact heap_setCell_same u' q 1 _ _ _ hKu.rb.row
    have htm : Wm.ownsRow N 4 1 (.slice ta ts.length tc) ts.length (ts.map Value.bool) := owns_frame hKu.rb.tr (fun k hk => hf.block k (World.ownsRow.lt hKu.rb.tr k hk).2 (hKu.rb.neT k hk))
    have hsm := hf.size
    have hsb := hbu'.size
    obtain ⟨g3, c3, Wc, g4, c4, Wd, t1, t2, t3, t4, t5, t6⟩ := there_app N Wm _ ts htm (by omega) (by omega)
    refine ⟨(hf.block w.heap.size (by omega) (by omega)).trans (below_row hrow hbu' (by omega)), g3, c3, Wc, g4, c4, Wd, t1, t2, ?_⟩
    have hrd : Wd.heap[q]? = _ := (t4.block q (by omega)).trans hrm
    refine ⟨(t3.cell (p := ⟨q, 2, none⟩) (by show q < _; omega)).trans (cell_of_row _ _ _ _ _ _ hrm), cell_of_row _ _ _ _ _ _ hrd, frozen_of_row _ _ _ _ _ hrd, ?_⟩
    unfold Bg.add
    rw [hbad, if_neg (by simp), if_neg (by omega)]
    have hf2 : Fr (· = q) Wd (Wd.setCell ⟨q, 2, none⟩ (.slice (some ⟨g4, 0, none⟩) (ts.length + 1) c4)) := (Fr.refl (· = q) Wd).setCell ⟨q, 2, none⟩ (Or.inl rfl) _
    have hold : ∀ k, k < w.heap.size → k ≠ q → (Wd.setCell ⟨q, 2, none⟩ (.slice (some ⟨g4, 0, none⟩) (ts.length + 1) c4)).heap[k]? = w.heap[k]? := fun k hk hkq => ((hf2.block k (by have := t4.size; omega) hkq).trans (t4.block k (by omega))).trans (hfm.block k hk hkq)
    have hfin : Fr (· = q) w (Wd.setCell ⟨q, 2, none⟩ (.slice (some ⟨g4, 0, none⟩) (ts.length + 1) c4)) := (hfm.trans (Fr.of_below (fun k => k = q) t4) (fun _ _ h => h) (fun _ _ h => h)).trans hf2 (fun _ _ h => h) (fun _ _ h => h)
    have hcl : (us ++ [((⟨src, dst, bs⟩ : Und), Value.slice ba bs.length bc)]).flatMap cellsUV = us.flatMap cellsUV ++ cellsUV (⟨src, dst, bs⟩, .slice ba bs.length bc) := by simp
    have hun : ∀ p ∈ us ++ [((⟨src, dst, bs⟩ : Und), Value.slice ba bs.length bc)], Byz w p.2 p.1.bytes ∧ (p.1.bytes ≠ [] → ∀ g, p.2.ownBlock = some g → g < N) := fun p hp => by
      rcases List.mem_append.1 hp with hp | hp
      · exact ⟨h.rb.all.bytes p hp, h.low p hp⟩
      · rw [List.mem_singleton.1 hp]; exact ⟨hz, hlow⟩
    have hqN := h.rb.base
    have hav : (Value.slice (some ⟨g2, 0, none⟩) (us.length + 1) c2).ownBlock = some g2 := rfl
    have htv : (Value.slice (some ⟨g4, 0, none⟩) (ts.length + 1) c4).ownBlock = some g4 := rfl
    have hownA : (Wd.setCell ⟨q, 2, none⟩ (.slice (some ⟨g4, 0, none⟩) (ts.length + 1) c4)).ownsRow N 34 3 (.slice (some ⟨g2, 0, none⟩) (us.length + 1) c2) (us.length + 1) (us.flatMap cellsUV ++ cellsUV (⟨src, dst, bs⟩, .slice ba bs.length bc)) := owns_frame h2 (fun k hk => by
      have hl := (World.ownsRow.lt h2 k hk).2
      rw [hav] at hk
      injection hk with hk
      exact ((hf2.block k (by have := t4.size; omega) (by omega)).trans (t4.block k (by omega))).trans (hf.block k hl (by omega)))
    refine ⟨rfl, .slice (some ⟨g2, 0, none⟩) (us.length + 1) c2, us ++ [((⟨src, dst, bs⟩ : Und), Value.slice ba bs.length bc)], .slice (some ⟨g4, 0, none⟩) (ts.length + 1) c4, ts ++ [true], ⟨⟨?_, ⟨?_, ?_, ?_⟩, ?_, ?_, ?_, ?_, hqN⟩, ?_, fun p hp => (hun p hp).2, ?_⟩, hfin, ?_, ?_⟩
    · have := heap_setCell_same Wd q 2 _ _ (.slice (some ⟨g4, 0, none⟩) (ts.length + 1) c4) hrd
      rw [this]
      simp
    · rw [hcl, List.length_append]
      exact hownA
    · exact fun p hp => (hun p hp).1.kept (Nat.le_trans hfm.size (Nat.le_trans t4.size hf2.size)) (fun k hk hne => hold k (by have := (hun p hp).2 hne k hk; omega) (by have := (hun p hp).2 hne k hk; omega))
    · intro p hp hne k hk e
      rw [hav] at e
      injection e with e
      have := (hun p hp).2 hne k hk
      omega
    · refine owns_frame t5 (fun k hk => hf2.block k (World.ownsRow.lt t5 k hk).2 ?_)
      rw [htv] at hk
      injection hk with hk
      omega
    · rw [List.length_append, List.length_append, hlen]; rfl
    · rintro k (hk | ⟨p, hp, hne, hk⟩)
      · rw [hav] at hk
        injection hk with hk
        omega
      · have := (hun p hp).2 hne k hk
        omega
    · intro k hk
      rw [htv] at hk
      injection hk with hk
      omega
    · rw [List.map_append]
      show rcur (us.map (·.1) ++ [⟨src, dst, bs⟩]) (ts ++ [true]) = _
      rw [rcur_app _ _ _ (by rw [List.length_map]; exact hlen), h.cur]
    · rw [List.length_append]
      show us.length + 1 ≤ c + 1
      omega
    · intro k hk
      rw [hav] at hk
      injection hk with hk
      exact Or.inr (by omega)
    · intro k hk
      rw [htv] at hk
      injection hk with hk
      exact Or.inr (by omega))
  have hus : us.length ≤ 1000 := by omega
  have hts : ts.length ≤ 1000 := by omega
  clear h h1c hz hrow hK0 hb0 hW0 hbad hlow hs0 hNw hlen hcnt hlc hL hfull hq0
  go_enter Try.func27, Try.ntmps27
  go_wp2_with (first | rw [HW0.out])
  refine wp_region_held_drew (S := fun W => Below W0.heap.size W0 W) (by kernel_rfl) HB1.out (fun _ => ?_)
  refine hh_take 0 (some 37) (.pointer (some ⟨q, 0, none⟩)) rfl rfl (by kernel_rfl) (by kernel_rfl) (by kernel_rfl) (fun _ _ _ h => h) rfl (fun _ _ => rfl) HB1.out ?_
  simp only [Act.put, List.setIfInBounds_toArray, List.set_cons_zero, List.set_cons_succ]
  refine hh_take 2 (some 39) (.pointer (some ⟨q, 0, none⟩)) rfl rfl (by kernel_rfl) (by kernel_rfl) (by kernel_rfl) (fun _ _ _ h => h) rfl (fun _ _ => rfl) HB1.out ?_
  simp only [Act.put, List.setIfInBounds_toArray, List.set_cons_zero, List.set_cons_succ]
  refine hh_take 3 (some 40) (.pointer (some ⟨q, 0, none⟩)) rfl rfl (by kernel_rfl) (by kernel_rfl) (by kernel_rfl) (fun _ _ _ h => h) rfl (fun _ _ => by first | rfl | kernel_rfl | go_simp) HB1.out ?_
  simp only [Act.put, List.setIfInBounds_toArray, List.set_cons_zero, List.set_cons_succ]
  refine hh_take 4 (some 41) (.pointer (some ⟨q, 0, none⟩)) rfl rfl (by kernel_rfl) (by kernel_rfl) (by kernel_rfl) (fun _ _ _ h => h) rfl (fun _ _ => by first | rfl | kernel_rfl | go_simp) HB1.out ?_
  simp only [Act.put, List.setIfInBounds_toArray, List.set_cons_zero, List.set_cons_succ]
  refine hh_take 5 (some 42) (.int .i64 (r.most : Int)) rfl rfl (by kernel_rfl) (by kernel_rfl) (by kernel_rfl) (fun _ _ _ h => h) rfl (fun W hW => ex_load 3 (.tmp 41) rfl _ _ rfl (run_load_int W _ _ _ (HM.out W hW))) HB1.out ?_
  simp only [Act.put, List.setIfInBounds_toArray, List.set_cons_zero, List.set_cons_succ]
  refine hh_one 1 (by kernel_rfl) rfl rfl (fun K hK => wp_callsh (some 38) rfl 20 _ (ex_call1 20 (.tmp 37) _ rfl _ rfl (fun _ _ => rfl)) (.int .i64 (L : Int)) (fun w' => Below W0.heap.size W0 w') ((HLEN.out _ HB1.out).mono fun _ _ ⟨he, hw⟩ => ⟨he, hw ▸ HB1.out⟩) (fun w5 hb5 => hK _ _ hb5 ?_))
  clear hK K
  simp only [Act.put, List.setIfInBounds_toArray, List.set_cons_zero, List.set_cons_succ]
  refine hh_take 6 (some 43) (.bool false) rfl rfl (by kernel_rfl) (by kernel_rfl) (by kernel_rfl) (fun _ _ _ h => h) rfl (fun _ _ => by first | (go_simp; done) | (go_simp; omega)) hb5 ?_
  simp only [Act.put, List.setIfInBounds_toArray, List.set_cons_zero, List.set_cons_succ]
  refine wpAnyH_done (by kernel_rfl) ?_ _
  clear HLEN HM HB1 k0 k1 k2
  have HB5 := Lib.hid hb5.drew
  clear hb5
  have HST : Hid (∀ W, Below W0.heap.size W0 W → W.heap[w.heap.size]? = some (.cells #[.int .i64 src, .int .i64 dst, .slice ba bs.length bc] 34 (0, 0)) ∧ W.cell? ⟨q, 1, none⟩ = some (.slice aa us.length ac)) := Lib.hid HK.out
  go_wp2_with fail
  refine wp_region_held_drew (S := fun W => W.heap[w.heap.size]? = some (.cells #[.int .i64 src, .int .i64 dst, .slice ba bs.length bc] 34 (0, 0))) (by kernel_rfl) (HK.out _ HB5.out).1 (fun _ => ?_)
  refine hh_take 0 (some 51) (.pointer (some ⟨q, 0, none⟩)) rfl rfl (by kernel_rfl) (by kernel_rfl) (by kernel_rfl) (fun _ _ _ h => h) rfl (fun _ _ => rfl) (HK.out _ HB5.out).1 ?_
  simp only [Act.put, List.setIfInBounds_toArray, List.set_cons_zero, List.set_cons_succ]
  refine hh_take 2 (some 53) (.pointer (some ⟨q, 0, none⟩)) rfl rfl (by kernel_rfl) (by kernel_rfl) (by kernel_rfl) (fun _ _ _ h => h) rfl (fun _ _ => rfl) (HK.out _ HB5.out).1 ?_
  simp only [Act.put, List.setIfInBounds_toArray, List.set_cons_zero, List.set_cons_succ]
  refine hh_take 3 (some 54) (.pointer (some ⟨q, 0, none⟩)) rfl rfl (by kernel_rfl) (by kernel_rfl) (by kernel_rfl) (fun _ _ _ h => h) rfl (fun _ _ => by first | rfl | kernel_rfl | go_simp) (HK.out _ HB5.out).1 ?_
  simp only [Act.put, List.setIfInBounds_toArray, List.set_cons_zero, List.set_cons_succ]
  refine hh_take 4 (some 55) (.pointer (some ⟨q, 1, none⟩)) rfl rfl (by kernel_rfl) (by kernel_rfl) (by kernel_rfl) (fun _ _ _ h => h) rfl (fun _ _ => by kernel_rfl) (HK.out _ HB5.out).1 ?_
  simp only [Act.put, List.setIfInBounds_toArray, List.set_cons_zero, List.set_cons_succ]
  refine hh_take 7 (some 58) (.agg #[.int .i64 src, .int .i64 dst, .slice ba bs.length bc]) rfl rfl (by kernel_rfl) (by kernel_rfl) (by kernel_rfl) (fun _ _ _ h => h) rfl (fun W hW => ex_load 34 (.tmp 3) rfl _ _ rfl (run_load_und W _ _ _ _ ⟨_, _, _, rfl⟩ hW)) (HK.out _ HB5.out).1 ?_
  simp only [Act.put, List.setIfInBounds_toArray, List.set_cons_zero, List.set_cons_succ]
  refine hh_three 1 5 8 (by kernel_rfl) rfl rfl rfl rfl rfl rfl (fun K hK => wp_runsh (some 52) rfl (ex_buildSlice 43 0 #[] rfl _ rfl _ (run_lit_none _)) (hK _ _ (HK.out _ (HL0.out _ HB5.out).1).1 ?_)) (fun K hK => wp_runsh (some 56) rfl (ex_load 43 (.tmp 55) rfl _ _ rfl (run_load_sl _ _ _ _ _ _ (HK.out _ HB5.out).2)) (hK _ _ (HK.out _ HB5.out).1 ?_)) (fun K hK => wp_runsh (some 59) rfl (ex_buildSlice 43 1 _ rfl [(0, .agg #[.int .i64 src, .int .i64 dst, .slice ba bs.length bc])] rfl _ (run_lit_und _ _ _ _)) (hK _ _ (HK.out _ (HL1.out _ HB5.out).1).1 ?_))
  · clear hK K
    simp only [Act.put, List.setIfInBounds_toArray, List.set_cons_zero, List.set_cons_succ]
    obtain ⟨hb1, le3, hE2⟩ := HL0.out _ HB5.out
    refine hh_two 5 8 (by kernel_rfl) rfl rfl rfl rfl (fun K hK => wp_runsh (some 56) rfl (ex_load 43 (.tmp 55) rfl _ _ rfl (run_load_sl _ _ _ _ _ _ (HK.out _ hb1).2)) (hK _ _ (HK.out _ hb1).1 ?_)) (fun K hK => wp_runsh (some 59) rfl (ex_buildSlice 43 1 _ rfl [(0, .agg #[.int .i64 src, .int .i64 dst, .slice ba bs.length bc])] rfl _ (run_lit_und _ _ _ _)) (hK _ _ (HK.out _ (HL1.out _ hb1).1).1 ?_))
    · clear hK K
      simp only [Act.put, List.setIfInBounds_toArray, List.set_cons_zero, List.set_cons_succ]
      obtain ⟨g12, c13, u14, hr15, hb16, hA17, le18, kp19⟩ := HA1.out _ _ hb1 le3 hE2
      refine hh_two 6 8 (by kernel_rfl) rfl rfl rfl rfl (fun K hK => wp_runsh (some 57) rfl (ex_append (.tmp 52) (.tmp 56) 43 43 rfl _ _ _ rfl rfl hr15) (hK _ _ (HK.out _ hb16).1 ?_)) (fun K hK => wp_runsh (some 59) rfl (ex_buildSlice 43 1 _ rfl [(0, .agg #[.int .i64 src, .int .i64 dst, .slice ba bs.length bc])] rfl _ (run_lit_und _ _ _ _)) (hK _ _ (HK.out _ (HL1.out _ hb1).1).1 ?_))
      · clear hK K
        simp only [Act.put, List.setIfInBounds_toArray, List.set_cons_zero, List.set_cons_succ]
        refine hh_one 8 (by kernel_rfl) rfl rfl (fun K hK => wp_runsh (some 59) rfl (ex_buildSlice 43 1 _ rfl [(0, .agg #[.int .i64 src, .int .i64 dst, .slice ba bs.length bc])] rfl _ (run_lit_und _ _ _ _)) (hK _ _ (HK.out _ (HL1.out _ hb16).1).1 ?_))
        clear hK K
        simp only [Act.put, List.setIfInBounds_toArray, List.set_cons_zero, List.set_cons_succ]
        obtain ⟨hb25, le27, hS26⟩ := HL1.out _ hb16
        have hA28 := World.ownsRow.alloc hA17 (.cells #[.int .i64 src, .int .i64 dst, .slice ba bs.length bc] 34)
        obtain ⟨g29, c30, u31, hr32, hb33, hc34, hf35, fin36⟩ := HA2.out _ _ _ _ hb25 le18 hA28 hS26
        refine hh_one 9 (by kernel_rfl) rfl rfl (fun K hK => wp_runsh (some 60) rfl (ex_append (.tmp 57) (.tmp 59) 43 43 rfl _ _ _ rfl rfl hr32) (hK _ _ (HK.out _ hb33).1 ?_))
        clear hK K
        simp only [Act.put, List.setIfInBounds_toArray, List.set_cons_zero, List.set_cons_succ]
        refine hh_take 10 (some 61) (.pointer (some ⟨q, 0, none⟩)) rfl rfl (by kernel_rfl) (by kernel_rfl) (by kernel_rfl) (fun _ _ _ h => h) rfl (fun _ _ => by first | rfl | kernel_rfl | go_simp) (HK.out _ hb33).1 ?_
        simp only [Act.put, List.setIfInBounds_toArray, List.set_cons_zero, List.set_cons_succ]
        refine hh_take 11 (some 62) (.pointer (some ⟨q, 1, none⟩)) rfl rfl (by kernel_rfl) (by kernel_rfl) (by kernel_rfl) (fun _ _ _ h => h) rfl (fun _ _ => by kernel_rfl) (HK.out _ hb33).1 ?_
        simp only [Act.put, List.setIfInBounds_toArray, List.set_cons_zero, List.set_cons_succ]
        obtain ⟨Wm37, hWm37⟩ : ∃ Wm, (u31).setCell ⟨q, 1, none⟩ (.slice (some ⟨g29, 0, none⟩) (us.length + 1) c30) = Wm := ⟨_, rfl⟩
        obtain ⟨hrw, g3, c3, Wc, g4, c4, Wd, t1, t2, t3, t4, t5, t6, t7⟩ := fin36 _ hWm37
        rw [← hWm37] at hrw
        refine hh_one 12 (by kernel_rfl) rfl rfl (fun K hK => wp_skipsh none rfl (ex_store 43 (.tmp 62) (.tmp 60) rfl _ _ rfl rfl (run_store_sl _ _ _ _ _ _ _ hc34 ⟨_, _, _, rfl⟩ hf35)) (hK _ _ hrw ?_))
        clear hK K
        simp only [Act.put]
        refine wpAnyH_done (by kernel_rfl) ?_ _
        rw [hWm37]
        obtain ⟨We, hWe⟩ : ∃ We, Wm37.alloc (.cells #[] 4) = We := ⟨_, rfl⟩
        obtain ⟨Wf, hWf⟩ : ∃ Wf, Wc.alloc (.cells #[.bool true] 4) = Wf := ⟨_, rfl⟩
        rw [hWe] at t1 t3
        rw [hWf] at t2
        have T1 := Lib.hid t1
        have T2 := Lib.hid t2
        have T6 := Lib.hid t6
        have T7 := Lib.hid t7
        have HWe := Lib.hid hWe
        have HWf := Lib.hid hWf
        have HWm := Lib.hid hWm37
        clear t1 t2 t6 t7 hWe hWf hWm37 hrw
        try clear hb1
        try clear le3
        try clear hE2
        try clear hb4
        try clear le6
        try clear hS5
        try clear hb7
        try clear le9
        try clear hS8
        try clear hE10
        try clear ne11
        try clear hr15
        try clear hb16
        try clear hA17
        try clear le18
        try clear kp19
        try clear hb20
        try clear le22
        try clear hS21
        try clear hE23
        try clear ne24
        try clear hb25
        try clear le27
        try clear hS26
        try clear hA28
        try clear hr32
        try clear hb33
        try clear hc34
        try clear hf35
        try clear fin36
        try clear HA1
        try clear HA2
        try clear HL0
        try clear HL1
        try clear HK
        try clear HST
        try clear HB5
        go_wp2_with (first
          | rw [HWe.out]
          | rw [HWf.out]
          | (at_builtin; refine wpList_append_run _ rfl _ _ 60 60 rfl _ _ rfl rfl _ Wc T1.out ?_)
          | (at_builtin; refine wpList_append_run _ rfl _ _ 60 60 rfl _ _ rfl rfl _ Wd T2.out ?_))
        go_ret
        exact ⟨T6.out, T7.out⟩
      · clear hK K
        simp only [Act.put, List.setIfInBounds_toArray, List.set_cons_zero, List.set_cons_succ]
        obtain ⟨hb20, le22, hS21⟩ := HL1.out _ hb1
        have hE23 := World.ownsRow.alloc hE2 (.cells #[.int .i64 src, .int .i64 dst, .slice ba bs.length bc] 34)
        have ne24 := (World.ownsRow.lt hE2 ((w5.drew).heap.size) rfl).2
        obtain ⟨g38, c39, u40, hr41, hb42, hA43, le44, kp45⟩ := HA1.out _ _ hb20 le3 hE23
        refine hh_one 6 (by kernel_rfl) rfl rfl (fun K hK => wp_runsh (some 57) rfl (ex_append (.tmp 52) (.tmp 56) 43 43 rfl _ _ _ rfl rfl hr41) (hK _ _ (HK.out _ hb42).1 ?_))
        clear hK K
        simp only [Act.put, List.setIfInBounds_toArray, List.set_cons_zero, List.set_cons_succ]
        have hS46 := kp45 _ _ (by omega) hS21
        obtain ⟨g47, c48, u49, hr50, hb51, hc52, hf53, fin54⟩ := HA2.out _ _ _ _ hb42 le44 hA43 hS46
        refine hh_one 9 (by kernel_rfl) rfl rfl (fun K hK => wp_runsh (some 60) rfl (ex_append (.tmp 57) (.tmp 59) 43 43 rfl _ _ _ rfl rfl hr50) (hK _ _ (HK.out _ hb51).1 ?_))
        clear hK K
        simp only [Act.put, List.setIfInBounds_toArray, List.set_cons_zero, List.set_cons_succ]
        refine hh_take 10 (some 61) (.pointer (some ⟨q, 0, none⟩)) rfl rfl (by kernel_rfl) (by kernel_rfl) (by kernel_rfl) (fun _ _ _ h => h) rfl (fun _ _ => by first | rfl | kernel_rfl | go_simp) (HK.out _ hb51).1 ?_
        simp only [Act.put, List.setIfInBounds_toArray, List.set_cons_zero, List.set_cons_succ]
        refine hh_take 11 (some 62) (.pointer (some ⟨q, 1, none⟩)) rfl rfl (by kernel_rfl) (by kernel_rfl) (by kernel_rfl) (fun _ _ _ h => h) rfl (fun _ _ => by kernel_rfl) (HK.out _ hb51).1 ?_
        simp only [Act.put, List.setIfInBounds_toArray, List.set_cons_zero, List.set_cons_succ]
        obtain ⟨Wm55, hWm55⟩ : ∃ Wm, (u49).setCell ⟨q, 1, none⟩ (.slice (some ⟨g47, 0, none⟩) (us.length + 1) c48) = Wm := ⟨_, rfl⟩
        obtain ⟨hrw, g3, c3, Wc, g4, c4, Wd, t1, t2, t3, t4, t5, t6, t7⟩ := fin54 _ hWm55
        rw [← hWm55] at hrw
        refine hh_one 12 (by kernel_rfl) rfl rfl (fun K hK => wp_skipsh none rfl (ex_store 43 (.tmp 62) (.tmp 60) rfl _ _ rfl rfl (run_store_sl _ _ _ _ _ _ _ hc52 ⟨_, _, _, rfl⟩ hf53)) (hK _ _ hrw ?_))
        clear hK K
        simp only [Act.put]
        refine wpAnyH_done (by kernel_rfl) ?_ _
        rw [hWm55]
        obtain ⟨We, hWe⟩ : ∃ We, Wm55.alloc (.cells #[] 4) = We := ⟨_, rfl⟩
        obtain ⟨Wf, hWf⟩ : ∃ Wf, Wc.alloc (.cells #[.bool true] 4) = Wf := ⟨_, rfl⟩
        rw [hWe] at t1 t3
        rw [hWf] at t2
        have T1 := Lib.hid t1
        have T2 := Lib.hid t2
        have T6 := Lib.hid t6
        have T7 := Lib.hid t7
        have HWe := Lib.hid hWe
        have HWf := Lib.hid hWf
        have HWm := Lib.hid hWm55
        clear t1 t2 t6 t7 hWe hWf hWm55 hrw
        try clear hb1
        try clear le3
        try clear hE2
        try clear hb4
        try clear le6
        try clear hS5
        try clear hb7
        try clear le9
        try clear hS8
        try clear hE10
        try clear ne11
        try clear hb20
        try clear le22
        try clear hS21
        try clear hE23
        try clear ne24
        try clear hr15
        try clear hb16
        try clear hA17
        try clear le18
        try clear kp19
        try clear hr41
        try clear hb42
        try clear hA43
        try clear le44
        try clear kp45
        try clear hS46
        try clear hr50
        try clear hb51
        try clear hc52
        try clear hf53
        try clear fin54
        try clear HA1
        try clear HA2
        try clear HL0
        try clear HL1
        try clear HK
        try clear HST
        try clear HB5
        go_wp2_with (first
          | rw [HWe.out]
          | rw [HWf.out]
          | (at_builtin; refine wpList_append_run _ rfl _ _ 60 60 rfl _ _ rfl rfl _ Wc T1.out ?_)
          | (at_builtin; refine wpList_append_run _ rfl _ _ 60 60 rfl _ _ rfl rfl _ Wd T2.out ?_))
        go_ret
        exact ⟨T6.out, T7.out⟩
    · clear hK K
      simp only [Act.put, List.setIfInBounds_toArray, List.set_cons_zero, List.set_cons_succ]
      obtain ⟨hb7, le9, hS8⟩ := HL1.out _ hb1
      have hE10 := World.ownsRow.alloc hE2 (.cells #[.int .i64 src, .int .i64 dst, .slice ba bs.length bc] 34)
      have ne11 := (World.ownsRow.lt hE2 ((w5.drew).heap.size) rfl).2
      refine hh_one 5 (by kernel_rfl) rfl rfl (fun K hK => wp_runsh (some 56) rfl (ex_load 43 (.tmp 55) rfl _ _ rfl (run_load_sl _ _ _ _ _ _ (HK.out _ hb7).2)) (hK _ _ (HK.out _ hb7).1 ?_))
      clear hK K
      simp only [Act.put, List.setIfInBounds_toArray, List.set_cons_zero, List.set_cons_succ]
      obtain ⟨g56, c57, u58, hr59, hb60, hA61, le62, kp63⟩ := HA1.out _ _ hb7 le3 hE10
      refine hh_one 6 (by kernel_rfl) rfl rfl (fun K hK => wp_runsh (some 57) rfl (ex_append (.tmp 52) (.tmp 56) 43 43 rfl _ _ _ rfl rfl hr59) (hK _ _ (HK.out _ hb60).1 ?_))
      clear hK K
      simp only [Act.put, List.setIfInBounds_toArray, List.set_cons_zero, List.set_cons_succ]
      have hS64 := kp63 _ _ (by omega) hS8
      obtain ⟨g65, c66, u67, hr68, hb69, hc70, hf71, fin72⟩ := HA2.out _ _ _ _ hb60 le62 hA61 hS64
      refine hh_one 9 (by kernel_rfl) rfl rfl (fun K hK => wp_runsh (some 60) rfl (ex_append (.tmp 57) (.tmp 59) 43 43 rfl _ _ _ rfl rfl hr68) (hK _ _ (HK.out _ hb69).1 ?_))
      clear hK K
      simp only [Act.put, List.setIfInBounds_toArray, List.set_cons_zero, List.set_cons_succ]
      refine hh_take 10 (some 61) (.pointer (some ⟨q, 0, none⟩)) rfl rfl (by kernel_rfl) (by kernel_rfl) (by kernel_rfl) (fun _ _ _ h => h) rfl (fun _ _ => by first | rfl | kernel_rfl | go_simp) (HK.out _ hb69).1 ?_
      simp only [Act.put, List.setIfInBounds_toArray, List.set_cons_zero, List.set_cons_succ]
      refine hh_take 11 (some 62) (.pointer (some ⟨q, 1, none⟩)) rfl rfl (by kernel_rfl) (by kernel_rfl) (by kernel_rfl) (fun _ _ _ h => h) rfl (fun _ _ => by kernel_rfl) (HK.out _ hb69).1 ?_
      simp only [Act.put, List.setIfInBounds_toArray, List.set_cons_zero, List.set_cons_succ]
      obtain ⟨Wm73, hWm73⟩ : ∃ Wm, (u67).setCell ⟨q, 1, none⟩ (.slice (some ⟨g65, 0, none⟩) (us.length + 1) c66) = Wm := ⟨_, rfl⟩
      obtain ⟨hrw, g3, c3, Wc, g4, c4, Wd, t1, t2, t3, t4, t5, t6, t7⟩ := fin72 _ hWm73
      rw [← hWm73] at hrw
      refine hh_one 12 (by kernel_rfl) rfl rfl (fun K hK => wp_skipsh none rfl (ex_store 43 (.tmp 62) (.tmp 60) rfl _ _ rfl rfl (run_store_sl _ _ _ _ _ _ _ hc70 ⟨_, _, _, rfl⟩ hf71)) (hK _ _ hrw ?_))
      clear hK K
      simp only [Act.put]
      refine wpAnyH_done (by kernel_rfl) ?_ _
      rw [hWm73]
      obtain ⟨We, hWe⟩ : ∃ We, Wm73.alloc (.cells #[] 4) = We := ⟨_, rfl⟩
      obtain ⟨Wf, hWf⟩ : ∃ Wf, Wc.alloc (.cells #[.bool true] 4) = Wf := ⟨_, rfl⟩
      rw [hWe] at t1 t3
      rw [hWf] at t2
      have T1 := Lib.hid t1
      have T2 := Lib.hid t2
      have T6 := Lib.hid t6
      have T7 := Lib.hid t7
      have HWe := Lib.hid hWe
      have HWf := Lib.hid hWf
      have HWm := Lib.hid hWm73
      clear t1 t2 t6 t7 hWe hWf hWm73 hrw
      try clear hb1
      try clear le3
      try clear hE2
      try clear hb4
      try clear le6
      try clear hS5
      try clear hb7
      try clear le9
      try clear hS8
      try clear hE10
      try clear ne11
      try clear hr59
      try clear hb60
      try clear hA61
      try clear le62
      try clear kp63
      try clear hS64
      try clear hr68
      try clear hb69
      try clear hc70
      try clear hf71
      try clear fin72
      try clear HA1
      try clear HA2
      try clear HL0
      try clear HL1
      try clear HK
      try clear HST
      try clear HB5
      go_wp2_with (first
        | rw [HWe.out]
        | rw [HWf.out]
        | (at_builtin; refine wpList_append_run _ rfl _ _ 60 60 rfl _ _ rfl rfl _ Wc T1.out ?_)
        | (at_builtin; refine wpList_append_run _ rfl _ _ 60 60 rfl _ _ rfl rfl _ Wd T2.out ?_))
      go_ret
      exact ⟨T6.out, T7.out⟩
  · clear hK K
    simp only [Act.put, List.setIfInBounds_toArray, List.set_cons_zero, List.set_cons_succ]
    refine hh_two 1 8 (by kernel_rfl) rfl rfl rfl rfl (fun K hK => wp_runsh (some 52) rfl (ex_buildSlice 43 0 #[] rfl _ rfl _ (run_lit_none _)) (hK _ _ (HK.out _ (HL0.out _ HB5.out).1).1 ?_)) (fun K hK => wp_runsh (some 59) rfl (ex_buildSlice 43 1 _ rfl [(0, .agg #[.int .i64 src, .int .i64 dst, .slice ba bs.length bc])] rfl _ (run_lit_und _ _ _ _)) (hK _ _ (HK.out _ (HL1.out _ HB5.out).1).1 ?_))
    · clear hK K
      simp only [Act.put, List.setIfInBounds_toArray, List.set_cons_zero, List.set_cons_succ]
      obtain ⟨hb74, le76, hE75⟩ := HL0.out _ HB5.out
      obtain ⟨g80, c81, u82, hr83, hb84, hA85, le86, kp87⟩ := HA1.out _ _ hb74 le76 hE75
      refine hh_two 6 8 (by kernel_rfl) rfl rfl rfl rfl (fun K hK => wp_runsh (some 57) rfl (ex_append (.tmp 52) (.tmp 56) 43 43 rfl _ _ _ rfl rfl hr83) (hK _ _ (HK.out _ hb84).1 ?_)) (fun K hK => wp_runsh (some 59) rfl (ex_buildSlice 43 1 _ rfl [(0, .agg #[.int .i64 src, .int .i64 dst, .slice ba bs.length bc])] rfl _ (run_lit_und _ _ _ _)) (hK _ _ (HK.out _ (HL1.out _ hb74).1).1 ?_))
      · clear hK K
        simp only [Act.put, List.setIfInBounds_toArray, List.set_cons_zero, List.set_cons_succ]
        refine hh_one 8 (by kernel_rfl) rfl rfl (fun K hK => wp_runsh (some 59) rfl (ex_buildSlice 43 1 _ rfl [(0, .agg #[.int .i64 src, .int .i64 dst, .slice ba bs.length bc])] rfl _ (run_lit_und _ _ _ _)) (hK _ _ (HK.out _ (HL1.out _ hb84).1).1 ?_))
        clear hK K
        simp only [Act.put, List.setIfInBounds_toArray, List.set_cons_zero, List.set_cons_succ]
        obtain ⟨hb93, le95, hS94⟩ := HL1.out _ hb84
        have hA96 := World.ownsRow.alloc hA85 (.cells #[.int .i64 src, .int .i64 dst, .slice ba bs.length bc] 34)
        obtain ⟨g97, c98, u99, hr100, hb101, hc102, hf103, fin104⟩ := HA2.out _ _ _ _ hb93 le86 hA96 hS94
        refine hh_one 9 (by kernel_rfl) rfl rfl (fun K hK => wp_runsh (some 60) rfl (ex_append (.tmp 57) (.tmp 59) 43 43 rfl _ _ _ rfl rfl hr100) (hK _ _ (HK.out _ hb101).1 ?_))
        clear hK K
        simp only [Act.put, List.setIfInBounds_toArray, List.set_cons_zero, List.set_cons_succ]
        refine hh_take 10 (some 61) (.pointer (some ⟨q, 0, none⟩)) rfl rfl (by kernel_rfl) (by kernel_rfl) (by kernel_rfl) (fun _ _ _ h => h) rfl (fun _ _ => by first | rfl | kernel_rfl | go_simp) (HK.out _ hb101).1 ?_
        simp only [Act.put, List.setIfInBounds_toArray, List.set_cons_zero, List.set_cons_succ]
        refine hh_take 11 (some 62) (.pointer (some ⟨q, 1, none⟩)) rfl rfl (by kernel_rfl) (by kernel_rfl) (by kernel_rfl) (fun _ _ _ h => h) rfl (fun _ _ => by kernel_rfl) (HK.out _ hb101).1 ?_
        simp only [Act.put, List.setIfInBounds_toArray, List.set_cons_zero, List.set_cons_succ]
        obtain ⟨Wm105, hWm105⟩ : ∃ Wm, (u99).setCell ⟨q, 1, none⟩ (.slice (some ⟨g97, 0, none⟩) (us.length + 1) c98) = Wm := ⟨_, rfl⟩
        obtain ⟨hrw, g3, c3, Wc, g4, c4, Wd, t1, t2, t3, t4, t5, t6, t7⟩ := fin104 _ hWm105
        rw [← hWm105] at hrw
        refine hh_one 12 (by kernel_rfl) rfl rfl (fun K hK => wp_skipsh none rfl (ex_store 43 (.tmp 62) (.tmp 60) rfl _ _ rfl rfl (run_store_sl _ _ _ _ _ _ _ hc102 ⟨_, _, _, rfl⟩ hf103)) (hK _ _ hrw ?_))
        clear hK K
        simp only [Act.put]
        refine wpAnyH_done (by kernel_rfl) ?_ _
        rw [hWm105]
        obtain ⟨We, hWe⟩ : ∃ We, Wm105.alloc (.cells #[] 4) = We := ⟨_, rfl⟩
        obtain ⟨Wf, hWf⟩ : ∃ Wf, Wc.alloc (.cells #[.bool true] 4) = Wf := ⟨_, rfl⟩
        rw [hWe] at t1 t3
        rw [hWf] at t2
        have T1 := Lib.hid t1
        have T2 := Lib.hid t2
        have T6 := Lib.hid t6
        have T7 := Lib.hid t7
        have HWe := Lib.hid hWe
        have HWf := Lib.hid hWf
        have HWm := Lib.hid hWm105
        clear t1 t2 t6 t7 hWe hWf hWm105 hrw
        try clear hb1
        try clear le3
        try clear hE2
        try clear hb4
        try clear le6
        try clear hS5
        try clear hb74
        try clear le76
        try clear hE75
        try clear hb77
        try clear le79
        try clear hS78
        try clear hr83
        try clear hb84
        try clear hA85
        try clear le86
        try clear kp87
        try clear hb88
        try clear le90
        try clear hS89
        try clear hE91
        try clear ne92
        try clear hb93
        try clear le95
        try clear hS94
        try clear hA96
        try clear hr100
        try clear hb101
        try clear hc102
        try clear hf103
        try clear fin104
        try clear HA1
        try clear HA2
        try clear HL0
        try clear HL1
        try clear HK
        try clear HST
        try clear HB5
        go_wp2_with (first
          | rw [HWe.out]
          | rw [HWf.out]
          | (at_builtin; refine wpList_append_run _ rfl _ _ 60 60 rfl _ _ rfl rfl _ Wc T1.out ?_)
          | (at_builtin; refine wpList_append_run _ rfl _ _ 60 60 rfl _ _ rfl rfl _ Wd T2.out ?_))
        go_ret
        exact ⟨T6.out, T7.out⟩
      · clear hK K
        simp only [Act.put, List.setIfInBounds_toArray, List.set_cons_zero, List.set_cons_succ]
        obtain ⟨hb88, le90, hS89⟩ := HL1.out _ hb74
        have hE91 := World.ownsRow.alloc hE75 (.cells #[.int .i64 src, .int .i64 dst, .slice ba bs.length bc] 34)
        have ne92 := (World.ownsRow.lt hE75 ((w5.drew).heap.size) rfl).2
        obtain ⟨g106, c107, u108, hr109, hb110, hA111, le112, kp113⟩ := HA1.out _ _ hb88 le76 hE91
        refine hh_one 6 (by kernel_rfl) rfl rfl (fun K hK => wp_runsh (some 57) rfl (ex_append (.tmp 52) (.tmp 56) 43 43 rfl _ _ _ rfl rfl hr109) (hK _ _ (HK.out _ hb110).1 ?_))
        clear hK K
        simp only [Act.put, List.setIfInBounds_toArray, List.set_cons_zero, List.set_cons_succ]
        have hS114 := kp113 _ _ (by omega) hS89
        obtain ⟨g115, c116, u117, hr118, hb119, hc120, hf121, fin122⟩ := HA2.out _ _ _ _ hb110 le112 hA111 hS114
        refine hh_one 9 (by kernel_rfl) rfl rfl (fun K hK => wp_runsh (some 60) rfl (ex_append (.tmp 57) (.tmp 59) 43 43 rfl _ _ _ rfl rfl hr118) (hK _ _ (HK.out _ hb119).1 ?_))
        clear hK K
        simp only [Act.put, List.setIfInBounds_toArray, List.set_cons_zero, List.set_cons_succ]
        refine hh_take 10 (some 61) (.pointer (some ⟨q, 0, none⟩)) rfl rfl (by kernel_rfl) (by kernel_rfl) (by kernel_rfl) (fun _ _ _ h => h) rfl (fun _ _ => by first | rfl | kernel_rfl | go_simp) (HK.out _ hb119).1 ?_
        simp only [Act.put, List.setIfInBounds_toArray, List.set_cons_zero, List.set_cons_succ]
        refine hh_take 11 (some 62) (.pointer (some ⟨q, 1, none⟩)) rfl rfl (by kernel_rfl) (by kernel_rfl) (by kernel_rfl) (fun _ _ _ h => h) rfl (fun _ _ => by kernel_rfl) (HK.out _ hb119).1 ?_
        simp only [Act.put, List.setIfInBounds_toArray, List.set_cons_zero, List.set_cons_succ]
        obtain ⟨Wm123, hWm123⟩ : ∃ Wm, (u117).setCell ⟨q, 1, none⟩ (.slice (some ⟨g115, 0, none⟩) (us.length + 1) c116) = Wm := ⟨_, rfl⟩
        obtain ⟨hrw, g3, c3, Wc, g4, c4, Wd, t1, t2, t3, t4, t5, t6, t7⟩ := fin122 _ hWm123
        rw [← hWm123] at hrw
        refine hh_one 12 (by kernel_rfl) rfl rfl (fun K hK => wp_skipsh none rfl (ex_store 43 (.tmp 62) (.tmp 60) rfl _ _ rfl rfl (run_store_sl _ _ _ _ _ _ _ hc120 ⟨_, _, _, rfl⟩ hf121)) (hK _ _ hrw ?_))
        clear hK K
        simp only [Act.put]
        refine wpAnyH_done (by kernel_rfl) ?_ _
        rw [hWm123]
        obtain ⟨We, hWe⟩ : ∃ We, Wm123.alloc (.cells #[] 4) = We := ⟨_, rfl⟩
        obtain ⟨Wf, hWf⟩ : ∃ Wf, Wc.alloc (.cells #[.bool true] 4) = Wf := ⟨_, rfl⟩
        rw [hWe] at t1 t3
        rw [hWf] at t2
        have T1 := Lib.hid t1
        have T2 := Lib.hid t2
        have T6 := Lib.hid t6
        have T7 := Lib.hid t7
        have HWe := Lib.hid hWe
        have HWf := Lib.hid hWf
        have HWm := Lib.hid hWm123
        clear t1 t2 t6 t7 hWe hWf hWm123 hrw
        try clear hb1
        try clear le3
        try clear hE2
        try clear hb4
        try clear le6
        try clear hS5
        try clear hb74
        try clear le76
        try clear hE75
        try clear hb77
        try clear le79
        try clear hS78
        try clear hb88
        try clear le90
        try clear hS89
        try clear hE91
        try clear ne92
        try clear hr83
        try clear hb84
        try clear hA85
        try clear le86
        try clear kp87
        try clear hr109
        try clear hb110
        try clear hA111
        try clear le112
        try clear kp113
        try clear hS114
        try clear hr118
        try clear hb119
        try clear hc120
        try clear hf121
        try clear fin122
        try clear HA1
        try clear HA2
        try clear HL0
        try clear HL1
        try clear HK
        try clear HST
        try clear HB5
        go_wp2_with (first
          | rw [HWe.out]
          | rw [HWf.out]
          | (at_builtin; refine wpList_append_run _ rfl _ _ 60 60 rfl _ _ rfl rfl _ Wc T1.out ?_)
          | (at_builtin; refine wpList_append_run _ rfl _ _ 60 60 rfl _ _ rfl rfl _ Wd T2.out ?_))
        go_ret
        exact ⟨T6.out, T7.out⟩
    · clear hK K
      simp only [Act.put, List.setIfInBounds_toArray, List.set_cons_zero, List.set_cons_succ]
      obtain ⟨hb77, le79, hS78⟩ := HL1.out _ HB5.out
      refine hh_one 1 (by kernel_rfl) rfl rfl (fun K hK => wp_runsh (some 52) rfl (ex_buildSlice 43 0 #[] rfl _ rfl _ (run_lit_none _)) (hK _ _ (HK.out _ (HL0.out _ hb77).1).1 ?_))
      clear hK K
      simp only [Act.put, List.setIfInBounds_toArray, List.set_cons_zero, List.set_cons_succ]
      obtain ⟨hb124, le126, hE125⟩ := HL0.out _ hb77
      have hS127 := heap_keep (.cells #[] 34) hS78
      have ne128 := lt_of_row hS78
      obtain ⟨g129, c130, u131, hr132, hb133, hA134, le135, kp136⟩ := HA1.out _ _ hb124 le126 hE125
      refine hh_one 6 (by kernel_rfl) rfl rfl (fun K hK => wp_runsh (some 57) rfl (ex_append (.tmp 52) (.tmp 56) 43 43 rfl _ _ _ rfl rfl hr132) (hK _ _ (HK.out _ hb133).1 ?_))
      clear hK K
      simp only [Act.put, List.setIfInBounds_toArray, List.set_cons_zero, List.set_cons_succ]
      have hS137 := kp136 _ _ (by omega) hS127
      obtain ⟨g138, c139, u140, hr141, hb142, hc143, hf144, fin145⟩ := HA2.out _ _ _ _ hb133 le135 hA134 hS137
      refine hh_one 9 (by kernel_rfl) rfl rfl (fun K hK => wp_runsh (some 60) rfl (ex_append (.tmp 57) (.tmp 59) 43 43 rfl _ _ _ rfl rfl hr141) (hK _ _ (HK.out _ hb142).1 ?_))
      clear hK K
      simp only [Act.put, List.setIfInBounds_toArray, List.set_cons_zero, List.set_cons_succ]
      refine hh_take 10 (some 61) (.pointer (some ⟨q, 0, none⟩)) rfl rfl (by kernel_rfl) (by kernel_rfl) (by kernel_rfl) (fun _ _ _ h => h) rfl (fun _ _ => by first | rfl | kernel_rfl | go_simp) (HK.out _ hb142).1 ?_
      simp only [Act.put, List.setIfInBounds_toArray, List.set_cons_zero, List.set_cons_succ]
      refine hh_take 11 (some 62) (.pointer (some ⟨q, 1, none⟩)) rfl rfl (by kernel_rfl) (by kernel_rfl) (by kernel_rfl) (fun _ _ _ h => h) rfl (fun _ _ => by kernel_rfl) (HK.out _ hb142).1 ?_
      simp only [Act.put, List.setIfInBounds_toArray, List.set_cons_zero, List.set_cons_succ]
      obtain ⟨Wm146, hWm146⟩ : ∃ Wm, (u140).setCell ⟨q, 1, none⟩ (.slice (some ⟨g138, 0, none⟩) (us.length + 1) c139) = Wm := ⟨_, rfl⟩
      obtain ⟨hrw, g3, c3, Wc, g4, c4, Wd, t1, t2, t3, t4, t5, t6, t7⟩ := fin145 _ hWm146
      rw [← hWm146] at hrw
      refine hh_one 12 (by kernel_rfl) rfl rfl (fun K hK => wp_skipsh none rfl (ex_store 43 (.tmp 62) (.tmp 60) rfl _ _ rfl rfl (run_store_sl _ _ _ _ _ _ _ hc143 ⟨_, _, _, rfl⟩ hf144)) (hK _ _ hrw ?_))
      clear hK K
      simp only [Act.put]
      refine wpAnyH_done (by kernel_rfl) ?_ _
      rw [hWm146]
      obtain ⟨We, hWe⟩ : ∃ We, Wm146.alloc (.cells #[] 4) = We := ⟨_, rfl⟩
      obtain ⟨Wf, hWf⟩ : ∃ Wf, Wc.alloc (.cells #[.bool true] 4) = Wf := ⟨_, rfl⟩
      rw [hWe] at t1 t3
      rw [hWf] at t2
      have T1 := Lib.hid t1
      have T2 := Lib.hid t2
      have T6 := Lib.hid t6
      have T7 := Lib.hid t7
      have HWe := Lib.hid hWe
      have HWf := Lib.hid hWf
      have HWm := Lib.hid hWm146
      clear t1 t2 t6 t7 hWe hWf hWm146 hrw
      try clear hb1
      try clear le3
      try clear hE2
      try clear hb4
      try clear le6
      try clear hS5
      try clear hb77
      try clear le79
      try clear hS78
      try clear hb74
      try clear le76
      try clear hE75
      try clear hb124
      try clear le126
      try clear hE125
      try clear hS127
      try clear ne128
      try clear hr132
      try clear hb133
      try clear hA134
      try clear le135
      try clear kp136
      try clear hS137
      try clear hr141
      try clear hb142
      try clear hc143
      try clear hf144
      try clear fin145
      try clear HA1
      try clear HA2
      try clear HL0
      try clear HL1
      try clear HK
      try clear HST
      try clear HB5
      go_wp2_with (first
        | rw [HWe.out]
        | rw [HWf.out]
        | (at_builtin; refine wpList_append_run _ rfl _ _ 60 60 rfl _ _ rfl rfl _ Wc T1.out ?_)
        | (at_builtin; refine wpList_append_run _ rfl _ _ 60 60 rfl _ _ rfl rfl _ Wd T2.out ?_))
      go_ret
      exact ⟨T6.out, T7.out⟩
  · clear hK K
    simp only [Act.put, List.setIfInBounds_toArray, List.set_cons_zero, List.set_cons_succ]
    obtain ⟨hb4, le6, hS5⟩ := HL1.out _ HB5.out
    refine hh_two 1 5 (by kernel_rfl) rfl rfl rfl rfl (fun K hK => wp_runsh (some 52) rfl (ex_buildSlice 43 0 #[] rfl _ rfl _ (run_lit_none _)) (hK _ _ (HK.out _ (HL0.out _ hb4).1).1 ?_)) (fun K hK => wp_runsh (some 56) rfl (ex_load 43 (.tmp 55) rfl _ _ rfl (run_load_sl _ _ _ _ _ _ (HK.out _ hb4).2)) (hK _ _ (HK.out _ hb4).1 ?_))
    · clear hK K
      simp only [Act.put, List.setIfInBounds_toArray, List.set_cons_zero, List.set_cons_succ]
      obtain ⟨hb147, le149, hE148⟩ := HL0.out _ hb4
      have hS150 := heap_keep (.cells #[] 34) hS5
      have ne151 := lt_of_row hS5
      refine hh_one 5 (by kernel_rfl) rfl rfl (fun K hK => wp_runsh (some 56) rfl (ex_load 43 (.tmp 55) rfl _ _ rfl (run_load_sl _ _ _ _ _ _ (HK.out _ hb147).2)) (hK _ _ (HK.out _ hb147).1 ?_))
      clear hK K
      simp only [Act.put, List.setIfInBounds_toArray, List.set_cons_zero, List.set_cons_succ]
      obtain ⟨g152, c153, u154, hr155, hb156, hA157, le158, kp159⟩ := HA1.out _ _ hb147 le149 hE148
      refine hh_one 6 (by kernel_rfl) rfl rfl (fun K hK => wp_runsh (some 57) rfl (ex_append (.tmp 52) (.tmp 56) 43 43 rfl _ _ _ rfl rfl hr155) (hK _ _ (HK.out _ hb156).1 ?_))
      clear hK K
      simp only [Act.put, List.setIfInBounds_toArray, List.set_cons_zero, List.set_cons_succ]
      have hS160 := kp159 _ _ (by omega) hS150
      obtain ⟨g161, c162, u163, hr164, hb165, hc166, hf167, fin168⟩ := HA2.out _ _ _ _ hb156 le158 hA157 hS160
      refine hh_one 9 (by kernel_rfl) rfl rfl (fun K hK => wp_runsh (some 60) rfl (ex_append (.tmp 57) (.tmp 59) 43 43 rfl _ _ _ rfl rfl hr164) (hK _ _ (HK.out _ hb165).1 ?_))
      clear hK K
      simp only [Act.put, List.setIfInBounds_toArray, List.set_cons_zero, List.set_cons_succ]
      refine hh_take 10 (some 61) (.pointer (some ⟨q, 0, none⟩)) rfl rfl (by kernel_rfl) (by kernel_rfl) (by kernel_rfl) (fun _ _ _ h => h) rfl (fun _ _ => by first | rfl | kernel_rfl | go_simp) (HK.out _ hb165).1 ?_
      simp only [Act.put, List.setIfInBounds_toArray, List.set_cons_zero, List.set_cons_succ]
      refine hh_take 11 (some 62) (.pointer (some ⟨q, 1, none⟩)) rfl rfl (by kernel_rfl) (by kernel_rfl) (by kernel_rfl) (fun _ _ _ h => h) rfl (fun _ _ => by kernel_rfl) (HK.out _ hb165).1 ?_
      simp only [Act.put, List.setIfInBounds_toArray, List.set_cons_zero, List.set_cons_succ]
      obtain ⟨Wm169, hWm169⟩ : ∃ Wm, (u163).setCell ⟨q, 1, none⟩ (.slice (some ⟨g161, 0, none⟩) (us.length + 1) c162) = Wm := ⟨_, rfl⟩
      obtain ⟨hrw, g3, c3, Wc, g4, c4, Wd, t1, t2, t3, t4, t5, t6, t7⟩ := fin168 _ hWm169
      rw [← hWm169] at hrw
      refine hh_one 12 (by kernel_rfl) rfl rfl (fun K hK => wp_skipsh none rfl (ex_store 43 (.tmp 62) (.tmp 60) rfl _ _ rfl rfl (run_store_sl _ _ _ _ _ _ _ hc166 ⟨_, _, _, rfl⟩ hf167)) (hK _ _ hrw ?_))
      clear hK K
      simp only [Act.put]
      refine wpAnyH_done (by kernel_rfl) ?_ _
      rw [hWm169]
      obtain ⟨We, hWe⟩ : ∃ We, Wm169.alloc (.cells #[] 4) = We := ⟨_, rfl⟩
      obtain ⟨Wf, hWf⟩ : ∃ Wf, Wc.alloc (.cells #[.bool true] 4) = Wf := ⟨_, rfl⟩
      rw [hWe] at t1 t3
      rw [hWf] at t2
      have T1 := Lib.hid t1
      have T2 := Lib.hid t2
      have T6 := Lib.hid t6
      have T7 := Lib.hid t7
      have HWe := Lib.hid hWe
      have HWf := Lib.hid hWf
      have HWm := Lib.hid hWm169
      clear t1 t2 t6 t7 hWe hWf hWm169 hrw
      try clear hb4
      try clear le6
      try clear hS5
      try clear hb1
      try clear le3
      try clear hE2
      try clear hb147
      try clear le149
      try clear hE148
      try clear hS150
      try clear ne151
      try clear hr155
      try clear hb156
      try clear hA157
      try clear le158
      try clear kp159
      try clear hS160
      try clear hr164
      try clear hb165
      try clear hc166
      try clear hf167
      try clear fin168
      try clear HA1
      try clear HA2
      try clear HL0
      try clear HL1
      try clear HK
      try clear HST
      try clear HB5
      go_wp2_with (first
        | rw [HWe.out]
        | rw [HWf.out]
        | (at_builtin; refine wpList_append_run _ rfl _ _ 60 60 rfl _ _ rfl rfl _ Wc T1.out ?_)
        | (at_builtin; refine wpList_append_run _ rfl _ _ 60 60 rfl _ _ rfl rfl _ Wd T2.out ?_))
      go_ret
      exact ⟨T6.out, T7.out⟩
    · clear hK K
      simp only [Act.put, List.setIfInBounds_toArray, List.set_cons_zero, List.set_cons_succ]
      refine hh_one 1 (by kernel_rfl) rfl rfl (fun K hK => wp_runsh (some 52) rfl (ex_buildSlice 43 0 #[] rfl _ rfl _ (run_lit_none _)) (hK _ _ (HK.out _ (HL0.out _ hb4).1).1 ?_))
      clear hK K
      simp only [Act.put, List.setIfInBounds_toArray, List.set_cons_zero, List.set_cons_succ]
      obtain ⟨hb170, le172, hE171⟩ := HL0.out _ hb4
      have hS173 := heap_keep (.cells #[] 34) hS5
      have ne174 := lt_of_row hS5
      obtain ⟨g175, c176, u177, hr178, hb179, hA180, le181, kp182⟩ := HA1.out _ _ hb170 le172 hE171
      refine hh_one 6 (by kernel_rfl) rfl rfl (fun K hK => wp_runsh (some 57) rfl (ex_append (.tmp 52) (.tmp 56) 43 43 rfl _ _ _ rfl rfl hr178) (hK _ _ (HK.out _ hb179).1 ?_))
      clear hK K
      simp only [Act.put, List.setIfInBounds_toArray, List.set_cons_zero, List.set_cons_succ]
      have hS183 := kp182 _ _ (by omega) hS173
      obtain ⟨g184, c185, u186, hr187, hb188, hc189, hf190, fin191⟩ := HA2.out _ _ _ _ hb179 le181 hA180 hS183
      refine hh_one 9 (by kernel_rfl) rfl rfl (fun K hK => wp_runsh (some 60) rfl (ex_append (.tmp 57) (.tmp 59) 43 43 rfl _ _ _ rfl rfl hr187) (hK _ _ (HK.out _ hb188).1 ?_))
      clear hK K
      simp only [Act.put, List.setIfInBounds_toArray, List.set_cons_zero, List.set_cons_succ]
      refine hh_take 10 (some 61) (.pointer (some ⟨q, 0, none⟩)) rfl rfl (by kernel_rfl) (by kernel_rfl) (by kernel_rfl) (fun _ _ _ h => h) rfl (fun _ _ => by first | rfl | kernel_rfl | go_simp) (HK.out _ hb188).1 ?_
      simp only [Act.put, List.setIfInBounds_toArray, List.set_cons_zero, List.set_cons_succ]
      refine hh_take 11 (some 62) (.pointer (some ⟨q, 1, none⟩)) rfl rfl (by kernel_rfl) (by kernel_rfl) (by kernel_rfl) (fun _ _ _ h => h) rfl (fun _ _ => by kernel_rfl) (HK.out _ hb188).1 ?_
      simp only [Act.put, List.setIfInBounds_toArray, List.set_cons_zero, List.set_cons_succ]
      obtain ⟨Wm192, hWm192⟩ : ∃ Wm, (u186).setCell ⟨q, 1, none⟩ (.slice (some ⟨g184, 0, none⟩) (us.length + 1) c185) = Wm := ⟨_, rfl⟩
      obtain ⟨hrw, g3, c3, Wc, g4, c4, Wd, t1, t2, t3, t4, t5, t6, t7⟩ := fin191 _ hWm192
      rw [← hWm192] at hrw
      refine hh_one 12 (by kernel_rfl) rfl rfl (fun K hK => wp_skipsh none rfl (ex_store 43 (.tmp 62) (.tmp 60) rfl _ _ rfl rfl (run_store_sl _ _ _ _ _ _ _ hc189 ⟨_, _, _, rfl⟩ hf190)) (hK _ _ hrw ?_))
      clear hK K
      simp only [Act.put]
      refine wpAnyH_done (by kernel_rfl) ?_ _
      rw [hWm192]
      obtain ⟨We, hWe⟩ : ∃ We, Wm192.alloc (.cells #[] 4) = We := ⟨_, rfl⟩
      obtain ⟨Wf, hWf⟩ : ∃ Wf, Wc.alloc (.cells #[.bool true] 4) = Wf := ⟨_, rfl⟩
      rw [hWe] at t1 t3
      rw [hWf] at t2
      have T1 := Lib.hid t1
      have T2 := Lib.hid t2
      have T6 := Lib.hid t6
      have T7 := Lib.hid t7
      have HWe := Lib.hid hWe
      have HWf := Lib.hid hWf
      have HWm := Lib.hid hWm192
      clear t1 t2 t6 t7 hWe hWf hWm192 hrw
      try clear hb4
      try clear le6
      try clear hS5
      try clear hb1
      try clear le3
      try clear hE2
      try clear hb147
      try clear le149
      try clear hE148
      try clear hS150
      try clear ne151
      try clear hb170
      try clear le172
      try clear hE171
      try clear hS173
      try clear ne174
      try clear hr178
      try clear hb179
      try clear hA180
      try clear le181
      try clear kp182
      try clear hS183
      try clear hr187
      try clear hb188
      try clear hc189
      try clear hf190
      try clear fin191
      try clear HA1
      try clear HA2
      try clear HL0
      try clear HL1
      try clear HK
      try clear HST
      try clear HB5
      go_wp2_with (first
        | rw [HWe.out]
        | rw [HWf.out]
        | (at_builtin; refine wpList_append_run _ rfl _ _ 60 60 rfl _ _ rfl rfl _ Wc T1.out ?_)
        | (at_builtin; refine wpList_append_run _ rfl _ _ 60 60 rfl _ _ rfl rfl _ Wd T2.out ?_))
      go_ret
      exact ⟨T6.out, T7.out⟩
end Go.Proofs.Ytdcpdeiljabkaaa
