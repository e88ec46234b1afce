/- Bag: node, Add. -/
import Derived.Test.YtdcpdeiljabkaaaN3
import Derived.BigQuiet
import Derived.Deep.QuietTactic
namespace Go.Proofs.Ytdcpdeiljabkaaa
open Go Go.RowKit

def nodeB (n : Int) : Bool := decide (0 ≤ n) && decide (n < 8)
set_option maxRecDepth 100000 in
theorem node_any (n : Int) (w : World) : Calls Try.prog 23 #[.int .i64 n] w fun e w' => e = .returned (.bool (nodeB n)) ∧ w = w' := by
  unfold nodeB
  by_cases h0 : 0 ≤ n
  · go_enter Try.func23, Try.ntmps23
    go_wp2
    go_ret
    exact ⟨ret_bool (by simp [h0]), rfl⟩
  · go_enter Try.func23, Try.ntmps23
    go_wp2
    go_ret
    exact ⟨ret_bool (by simp; omega), rfl⟩
theorem bad_not {x : Und} (h1 : nodeB x.src = true) (h2 : nodeB x.dst = true) (h3 : 1 ≤ x.bytes.length) (h4 : x.bytes.length ≤ 2006) : x.bad = false := by
  unfold nodeB at h1 h2
  unfold Und.bad
  simp only [Bool.and_eq_true, decide_eq_true_eq] at h1 h2
  simp [h1, h2, h3, h4]
theorem bad_yes {x : Und} (h : nodeB x.src = false ∨ nodeB x.dst = false ∨ x.bytes.length = 0 ∨ 2006 < x.bytes.length) : x.bad = true := by
  unfold nodeB at h
  unfold Und.bad
  rw [Bool.not_eq_true']
  rcases h with h | h | h | h
  · rw [h]; rfl
  · cases h1 : (decide (0 ≤ x.src) && decide (x.src < 8)) <;> simp only [Bool.and_assoc] <;> (try simp_all) <;> (try omega)
  · simp [h]
  · simp [show ¬ x.bytes.length ≤ 2006 by omega]
def AddR (B : Nat) (w : World) (p : Nat) (b : Bg) (sv : Value) (ps : List UV) (x : Und) (e : Ending) (w' : World) : Prop :=
  e = .returned (.int .i64 (b.add x).1) ∧ OpR B w p sv ps (b.add x).2 w'
theorem run_load_und (W : World) (N : Nat) (a b : Int) (pv : Value) (hpv : ∃ aa n c, pv = .slice aa n c) (h : W.heap[N]? = some (.cells #[.int .i64 a, .int .i64 b, pv] 34 (0, 0))) :
    (Instr.loadAt 34 (.pointer (some ⟨N, 0, none⟩))).run Try.prog W = .ok (.agg #[.int .i64 a, .int .i64 b, pv]) W := by
  obtain ⟨aa, n, c, rfl⟩ := hpv
  have h0 : W.cell? ⟨N, 0, none⟩ = some (.int .i64 a) := cell_of_row _ _ _ _ _ _ h
  have h1 : W.cell? ⟨N, 1, none⟩ = some (.int .i64 b) := cell_of_row _ _ _ _ _ _ h
  have h2 : W.cell? ⟨N, 2, none⟩ = some (.slice aa n c) := cell_of_row _ _ _ _ _ _ h
  clear h
  go_simp
theorem run_load_sl (W : World) (N j : Nat) (a : Option Addr) (n c : Nat) (h2 : W.cell? ⟨N, j, none⟩ = some (.slice a n c)) :
    (Instr.loadAt 43 (.pointer (some ⟨N, j, none⟩))).run Try.prog W = .ok (.slice a n c) W := by go_simp
theorem run_store_sl (W : World) (N j : Nat) (a : Option Addr) (n c : Nat) (old : Value) (h2 : W.cell? ⟨N, j, none⟩ = some old) (ho : ∃ aa m cc, old = .slice aa m cc) (hf : W.frozen? ⟨N, j, none⟩ = false) :
    (Instr.storeAt 43 (.pointer (some ⟨N, j, none⟩)) (.slice a n c)).run Try.prog W = .ok () (W.setCell ⟨N, j, none⟩ (.slice a n c)) := by
  obtain ⟨aa, m, cc, rfl⟩ := ho
  go_simp
theorem run_lit_und (W : World) (a b : Int) (pv : Value) : (Instr.buildSlice 43 1 [(0, .agg #[.int .i64 a, .int .i64 b, pv])].toArray).run Try.prog W = .ok (.slice (some ⟨W.heap.size, 0, none⟩) 1 1) (W.alloc (.cells #[.int .i64 a, .int .i64 b, pv] 34)) :=
  run_lit_one W 43 34 3 Try.underlying43 [.int .i64 0, .int .i64 0, .slice none 0 0] (by kernel_rfl) rfl (by decide) (by decide) [.int .i64 a, .int .i64 b, pv] rfl
set_option maxHeartbeats 8000000 in
set_option maxRecDepth 100000 in
theorem add_any (B p : Nat) (w : World) (b : Bg) (sv : Value) (ps : List UV) (x : Und) (pv : Value) (h : BagAt B w p b sv ps) (hz : Byz w pv x.bytes) (hl : x.bytes.length ≤ 9223372036854775807) (hn : b.us.length ≤ 1000) (hm : b.most ≤ 1000) (hlo : b.lost ≤ 1000000) :
    Calls Try.prog 10 #[.pointer (some ⟨p, 0, none⟩), .agg #[.int .i64 x.src, .int .i64 x.dst, pv]] w (AddR B w p b sv ps x) := by
  obtain ⟨src, dst, bs⟩ := x
  obtain ⟨ba, bc, rfl⟩ := hz.1
  dsimp only at hz hl ⊢
  obtain ⟨W0, hW0⟩ : ∃ W0, w.alloc (.cells #[.int .i64 src, .int .i64 dst, .slice ba bs.length bc] 34) = W0 := ⟨_, rfl⟩
  have hb0 : Below w.heap.size w W0 := by rw [← hW0]; exact (Below.refl _ w).alloc (Nat.le_refl _) _
  have hrow : W0.heap[w.heap.size]? = some (.cells #[.int .i64 src, .int .i64 dst, .slice ba bs.length bc] 34 (0, 0)) := by rw [← hW0]; exact heap_alloc_new w _
  have hs0 : W0.heap.size = w.heap.size + 1 := by rw [← hW0]; simp
  have hB0 := h.below hb0
  have k0 : W0.cell? ⟨w.heap.size, 0, none⟩ = some (.int .i64 src) := cell_of_row _ _ _ _ _ _ hrow
  have k1 : W0.cell? ⟨w.heap.size, 1, none⟩ = some (.int .i64 dst) := cell_of_row _ _ _ _ _ _ hrow
  have k2 : W0.cell? ⟨w.heap.size, 2, none⟩ = some (.slice ba bs.length bc) := cell_of_row _ _ _ _ _ _ hrow
  have HN1 := Lib.hid (node_any src W0)
  have HN2 := Lib.hid (node_any dst W0)
  have HW0 := Lib.hid hW0
  have HBAD : Hid ((⟨src, dst, bs⟩ : Und).bad = true → AddR B w p b sv ps ⟨src, dst, bs⟩ (.returned (.int .i64 2)) W0) := Lib.hid (fun hb => by
    unfold AddR Bg.add
    rw [if_pos hb]
    exact ⟨rfl, OpR.same h hb0⟩)
  have hby := @bad_yes ⟨src, dst, bs⟩
  dsimp only at hby
  by_cases h1 : nodeB src = true
  case neg =>
    rw [Bool.not_eq_true] at h1
    have HE := Lib.hid (HBAD.out (hby (Or.inl h1)))
    rw [h1] at HN1
    clear h hz hrow hB0 HBAD hby hb0 hW0 HN2
    go_enter Try.func10, Try.ntmps10
    go_wp2_with (first | rw [HW0.out])
    refine HN1.out.mono ?_
    rintro e w1 ⟨rfl, rfl⟩
    clear HN1
    go_wp2
    go_ret
    exact HE.out
  rw [h1] at HN1
  by_cases h2 : nodeB dst = true
  case neg =>
    rw [Bool.not_eq_true] at h2
    have HE := Lib.hid (HBAD.out (hby (Or.inr (Or.inl h2))))
    rw [h2] at HN2
    clear h hz hrow hB0 HBAD hby hb0 hW0
    go_enter Try.func10, Try.ntmps10
    go_wp2_with (first | rw [HW0.out])
    refine HN1.out.mono ?_
    rintro e w1 ⟨rfl, rfl⟩
    clear HN1
    go_wp2_with fail
    refine HN2.out.mono ?_
    rintro e w1 ⟨rfl, rfl⟩
    clear HN2
    go_wp2
    go_ret
    exact HE.out
  rw [h2] at HN2
  by_cases h3 : bs.length = 0 ∨ 2006 < bs.length
  · have HE := Lib.hid (HBAD.out (hby (Or.inr (Or.inr h3))))
    have h34 : ((bs.length : Int) == 0) = true ∨ (((bs.length : Int) == 0) = false ∧ (2006 : Int) < (bs.length : Int)) := by
      rw [beq_iff_eq, beq_eq_false_iff_ne]
      omega
    clear h hz hrow hB0 HBAD hby hb0 hW0 h3
    rcases h34 with h3 | ⟨h3, h4⟩
    all_goals
      go_enter Try.func10, Try.ntmps10
      go_wp2_with (first | rw [HW0.out])
      refine HN1.out.mono ?_
      rintro e w1 ⟨rfl, rfl⟩
      clear HN1
      go_wp2_with fail
      refine HN2.out.mono ?_
      rintro e w1 ⟨rfl, rfl⟩
      clear HN2
      go_wp2
      go_ret
      exact HE.out
  have h5 : 1 ≤ bs.length ∧ bs.length ≤ 2006 := by omega
  have e3 : ((bs.length : Int) == 0) = false := by rw [beq_eq_false_iff_ne]; omega
  have e4 : ¬ (2006 : Int) < (bs.length : Int) := by omega
  have hgood := @bad_not ⟨src, dst, bs⟩ h1 h2 h5.1 h5.2
  obtain ⟨c0, c1, c2, f1, f2⟩ := hB0.cells
  obtain ⟨sa, sc, rfl, _⟩ := h.us.len_le
  rw [h.len] at c2
  by_cases hfull : b.most ≤ b.us.length
  · have hfi : (b.most : Int) ≤ (b.us.length : Int) := by omega
    have hrow1 := hB0.row
    have HE : Hid (∀ nq : Nat, AddR B w p b (.slice sa ps.length sc) ps ⟨src, dst, bs⟩ (.returned (.int .i64 8)) ((W0.drewN nq).setCell ⟨p, 1, none⟩ (.int .i64 ((b.lost : Int) + 1)))) := Lib.hid (fun nq => by
      unfold AddR Bg.add
      rw [hgood, if_neg (by simp), if_pos hfull]
      refine ⟨rfl, _, ps, ⟨?_, ?_, h.eq, h.ne, h.base⟩, ?_, fun g hg => Or.inl hg⟩
      · have := heap_setCell_same (W0.drewN nq) p 1 _ _ (.int .i64 ((b.lost : Int) + 1)) hrow1
        rw [this]
        simp
      · have hf : Fr (· = p) W0 ((W0.drewN nq).setCell ⟨p, 1, none⟩ (.int .i64 ((b.lost : Int) + 1))) := (⟨rfl, rfl, rfl, Nat.le_refl _, fun _ _ _ => rfl⟩ : Fr (· = p) W0 (W0.drewN nq)).setCell ⟨p, 1, none⟩ (Or.inl rfl) _
        exact hB0.us.kept hf.size (fun g hg => hf.block g (hB0.us.has g hg).2 (h.ne g hg))
      · have hf : Fr (fun k => k = p ∨ (Value.slice sa ps.length sc).ownBlock = some k) W0 (W0.drewN nq) := ⟨rfl, rfl, rfl, Nat.le_refl _, fun _ _ _ => rfl⟩
        exact ((Fr.of_below _ hb0).trans hf (fun _ _ h => h) (fun _ _ h => h)).setCell ⟨p, 1, none⟩ (Or.inl (Or.inl rfl)) _)
    clear h hz hrow hB0 HBAD hby hb0 hW0 h3 hgood hrow1
    go_enter Try.func10, Try.ntmps10
    go_wp2_with (first | rw [HW0.out])
    refine HN1.out.mono ?_
    rintro e w1 ⟨rfl, rfl⟩
    clear HN1
    go_wp2_with fail
    refine HN2.out.mono ?_
    rintro e w1 ⟨rfl, rfl⟩
    clear HN2
    go_wp2_with fail
    go_quiet (fail)
    have HE1 := Lib.hid (HE.out nq)
    clear HE
    have c1' : (W0.drewN nq).cell? ⟨p, 1, none⟩ = some (.int .i64 (b.lost : Int)) := c1
    have f1' : (W0.drewN nq).frozen? ⟨p, 1, none⟩ = false := f1
    clear c0 c1 c2 f1 f2 k0 k1 k2
    generalize W0.drewN nq = W1 at *
    go_wp2
    go_ret
    exact HE1.out
  have hfi : ¬ (b.most : Int) ≤ (b.us.length : Int) := by omega
  have HCP : Hid (∀ u, Below W0.heap.size W0 u → Calls Try.prog 24 #[.agg #[.int .i64 src, .int .i64 dst, .slice ba bs.length bc]] u fun e w' => ∃ a c, e = .returned (.agg #[.int .i64 src, .int .i64 dst, .slice a bs.length c]) ∧ Row W0.heap.size w' (.slice a bs.length c) bs ∧ Below W0.heap.size W0 w') := Lib.hid (fun u hu => (copied_any u ⟨src, dst, bs⟩ _ ((hz.below hb0).below hu) (by show bs.length ≤ _; omega)).mono fun e w' ⟨a, c, he, hr, hb⟩ => ⟨a, c, he, ⟨hr.1, fun ad n' c' e' => by obtain ⟨a1, a2, a3⟩ := hr.2 ad n' c' e'; have := hu.size; exact ⟨by omega, a2, a3⟩⟩, hu.trans (hb.mono hu.size)⟩)
  have hplt0 := hB0.lt
  have HK : Hid (∀ u, Below W0.heap.size W0 u → u.heap[w.heap.size]? = some (.cells #[.int .i64 src, .int .i64 dst, .slice ba bs.length bc] 34 (0, 0)) ∧ u.cell? ⟨p, 2, none⟩ = some (.slice sa b.us.length sc)) := Lib.hid (fun u hu => ⟨below_row hrow hu (by omega), (hu.cell (p := ⟨p, 2, none⟩) hplt0).trans c2⟩)
  -- what the append and the store make
  have HAPP : Hid (∀ (u : World) (a : Option Addr) (c : Nat), Row W0.heap.size u (.slice a bs.length c) bs → Below W0.heap.size W0 u → ∃ a9 c9 w9, (∀ ty, (Builtin.append_ #[43, 43] ty #[.slice sa b.us.length sc, .slice (some ⟨u.heap.size, 0, none⟩) 1 1]).run Try.prog (u.alloc (.cells #[.int .i64 src, .int .i64 dst, .slice a bs.length c] 34)) = .ok (.slice a9 (b.us.length + 1) c9) w9) ∧
      w9.cell? ⟨p, 2, none⟩ = some (.slice sa b.us.length sc) ∧ w9.frozen? ⟨p, 2, none⟩ = false ∧ w9.heap[w.heap.size]? = some (.cells #[.int .i64 src, .int .i64 dst, .slice ba bs.length bc] 34 (0, 0)) ∧ (w9.setCell ⟨p, 2, none⟩ (.slice a9 (b.us.length + 1) c9)).heap[w.heap.size]? = some (.cells #[.int .i64 src, .int .i64 dst, .slice ba bs.length bc] 34 (0, 0)) ∧
      AddR B w p b (.slice sa ps.length sc) ps ⟨src, dst, bs⟩ (.returned (.int .i64 0)) (w9.setCell ⟨p, 2, none⟩ (.slice a9 (b.us.length + 1) c9))) := Lib.hid (fun u a c hr hb => by
    have hBu := hB0.below hb
    have hsz := hb.size
    have hplt : p < w.heap.size := h.lt
    have hx : ∀ g, (Value.slice a bs.length c).ownBlock = some g → W0.heap.size ≤ g := row_base hr
    have hrB : Row B u (.slice a bs.length c) bs := ⟨hr.1, fun ad n' c' e' => by obtain ⟨a1, a2, a3⟩ := hr.2 ad n' c' e'; exact ⟨by have := h.base; omega, a2, a3⟩⟩
    have hsvlt : ∀ g, (Value.slice sa ps.length sc).ownBlock = some g → g < w.heap.size := fun g hg => (h.us.has g (Or.inl hg)).2
    obtain ⟨a9, c9, w9, hrun, hus9, hg9, hwh⟩ := appU u (B := B) ((⟨src, dst, bs⟩ : Und), Value.slice a bs.length c) hBu.us (by have := h.base; omega) (by have := h.len; omega) hrB (fun g hg e => by have h1 := hx g hg; have h2 := hsvlt g e; omega)
    have hln : (ps ++ [((⟨src, dst, bs⟩ : Und), Value.slice a bs.length c)]).length = b.us.length + 1 := by simp [h.len]
    rw [hln] at hrun hus9 hwh
    rw [h.len] at hrun
    unfold unC at hrun
    have hpne : (Value.slice sa ps.length sc).ownBlock ≠ some p := fun e => h.ne p (Or.inl e) rfl
    have hrow9 : w9.heap[p]? = u.heap[p]? := hg9.block p (by omega) (fun e => hpne e.symm)
    have hrowp := hrow9.trans hBu.row
    rw [h.len] at hrowp
    have hrowN : w9.heap[w.heap.size]? = some (.cells #[.int .i64 src, .int .i64 dst, .slice ba bs.length bc] 34 (0, 0)) := (hg9.block w.heap.size (by omega) (fun e => by have := hsvlt _ e.symm; omega)).trans (below_row hrow hb (by omega))
    refine ⟨a9, c9, w9, hrun, cell_of_row _ _ _ _ _ _ hrowp, frozen_of_row _ _ _ _ _ hrowp, hrowN, (heap_setCell_other w9 ⟨p, 2, none⟩ w.heap.size _ (by show w.heap.size ≠ p; omega)).trans hrowN, ?_⟩
    unfold AddR Bg.add
    rw [hgood, if_neg (by simp), if_neg hfull]
    have hf : Fr (· = p) w9 (w9.setCell ⟨p, 2, none⟩ (.slice a9 (b.us.length + 1) c9)) := (Fr.refl (· = p) w9).setCell ⟨p, 2, none⟩ (Or.inl rfl) _
    have hhas : ∀ g, HasU (.slice a9 (b.us.length + 1) c9) (ps ++ [((⟨src, dst, bs⟩ : Und), Value.slice a bs.length c)]) g → HasU (.slice sa ps.length sc) ps g ∨ w.heap.size < g := fun g hg => by
      rcases hg with hg | ⟨q, hq, hg⟩
      · rcases hwh g hg with h1 | h1
        · exact Or.inl (Or.inl h1)
        · exact Or.inr (by omega)
      · rcases List.mem_append.1 hq with hq | hq
        · exact Or.inl (Or.inr ⟨q, hq, hg⟩)
        · rw [List.mem_singleton.1 hq] at hg
          have := hx g hg
          exact Or.inr (by omega)
    have hne9 : ∀ g, HasU (.slice a9 (b.us.length + 1) c9) (ps ++ [((⟨src, dst, bs⟩ : Und), Value.slice a bs.length c)]) g → g ≠ p := fun g hg e => by
      rcases hhas g hg with h1 | h1
      · exact h.ne g h1 e
      · omega
    refine ⟨rfl, _, _, ⟨?_, ?_, ?_, hne9, h.base⟩, ?_, fun g hg => (hhas g hg).imp id (fun h => by omega)⟩
    · have := heap_setCell_same w9 p 2 _ _ (.slice a9 (b.us.length + 1) c9) hrowp
      rw [this]
      simp
    · exact hus9.kept hf.size (fun g hg => hf.block g (hus9.has g hg).2 (hne9 g hg))
    · rw [List.map_append, h.eq]; rfl
    · have hfg : Fr (fun k => k = p ∨ (Value.slice sa ps.length sc).ownBlock = some k) u w9 := (Fr.refl _ u).grown hg9 (fun k e => Or.inl (Or.inr e))
      exact (((Fr.of_below _ hb0).trans (Fr.of_below (fun k => k = p ∨ (Value.slice sa ps.length sc).ownBlock = some k) hb) (fun _ _ h => h) (fun _ _ h => h)).trans hfg (fun _ _ h => h) (fun _ _ h => h)).setCell ⟨p, 2, none⟩ (Or.inl (Or.inl rfl)) _)
  have hbd := (Below.refl W0.heap.size W0).drew
  have HD := Lib.hid (show W0.heap.size = w.heap.size + 1 from hs0)
  have HQ : Hid (∀ nq : Nat, Below W0.heap.size W0 (W0.drewN nq)) := Lib.hid (fun nq => ⟨rfl, rfl, rfl, Nat.le_refl _, fun _ _ => rfl⟩)
  clear h hz hrow hB0 HBAD hby hb0 hW0 h3 hgood hplt0 hbd hs0
  go_enter Try.func10, Try.ntmps10
  go_wp2_with (first | rw [HW0.out])
  refine HN1.out.mono ?_
  rintro e w1 ⟨rfl, rfl⟩
  clear HN1
  go_wp2_with fail
  refine HN2.out.mono ?_
  rintro e w1 ⟨rfl, rfl⟩
  clear HN2
  go_wp2_with fail
  go_quiet (fail)
  have hbq := HQ.out nq
  generalize W0.drewN nq = W1 at *
  clear k0 k1 k2 c0 c1 c2 f1 f2
  have HB1 := Lib.hid hbq.drew
  clear hbq HQ
  go_wp2_with fail
  refine wp_region_held_drew (S := fun W => W.heap[w.heap.size]? = some (.cells #[.int .i64 src, .int .i64 dst, .slice ba bs.length bc] 34 (0, 0))) (by kernel_rfl) (HK.out _ HB1.out).1 (fun _ => ?_)
  refine hh_take 0 (some 43) (.pointer (some ⟨p, 0, none⟩)) rfl rfl (by kernel_rfl) (by kernel_rfl) (by kernel_rfl) (fun _ _ _ h => h) rfl (fun _ _ => rfl) (HK.out _ HB1.out).1 ?_
  simp only [Act.put, List.setIfInBounds_toArray, List.set_cons_zero, List.set_cons_succ]
  refine hh_take 1 (some 44) (.pointer (some ⟨p, 0, none⟩)) rfl rfl (by kernel_rfl) (by kernel_rfl) (by kernel_rfl) (fun _ _ _ h => h) rfl (fun _ _ => rfl) (HK.out _ HB1.out).1 ?_
  simp only [Act.put, List.setIfInBounds_toArray, List.set_cons_zero, List.set_cons_succ]
  refine hh_take 2 (some 45) (.pointer (some ⟨p, 0, none⟩)) rfl rfl (by kernel_rfl) (by kernel_rfl) (by kernel_rfl) (fun _ _ _ h => h) rfl (fun _ _ => by first | rfl | kernel_rfl | go_simp) (HK.out _ HB1.out).1 ?_
  simp only [Act.put, List.setIfInBounds_toArray, List.set_cons_zero, List.set_cons_succ]
  refine hh_take 3 (some 46) (.pointer (some ⟨p, 2, none⟩)) rfl rfl (by kernel_rfl) (by kernel_rfl) (by kernel_rfl) (fun _ _ _ h => h) rfl (fun _ _ => by kernel_rfl) (HK.out _ HB1.out).1 ?_
  simp only [Act.put, List.setIfInBounds_toArray, List.set_cons_zero, List.set_cons_succ]
  refine hh_take 5 (some 48) (.agg #[.int .i64 src, .int .i64 dst, .slice ba bs.length bc]) rfl rfl (by kernel_rfl) (by kernel_rfl) (by kernel_rfl) (fun _ _ _ h => h) rfl (fun W hW => ex_load 34 (.tmp 3) rfl _ _ rfl (run_load_und W _ _ _ _ ⟨_, _, _, rfl⟩ hW)) (HK.out _ HB1.out).1 ?_
  simp only [Act.put, List.setIfInBounds_toArray, List.set_cons_zero, List.set_cons_succ]
  refine hh_two 4 6 (by kernel_rfl) rfl rfl rfl rfl (fun K hK => wp_runsh (some 47) rfl (ex_load 43 (.tmp 46) rfl _ _ rfl (run_load_sl _ _ _ _ _ _ (HK.out _ HB1.out).2)) (hK _ _ (HK.out _ HB1.out).1 ?_)) (fun K hK => wp_callsE (some 49) rfl 24 _ (ex_call1 24 (.tmp 48) _ rfl _ rfl (fun _ _ => rfl)) (fun v' w' => ∃ a c, v' = .agg #[.int .i64 src, .int .i64 dst, .slice a bs.length c] ∧ Row W0.heap.size w' (.slice a bs.length c) bs ∧ Below W0.heap.size W0 w') ((HCP.out _ HB1.out).mono fun _ _ ⟨a, c, he, h1, h2⟩ => ⟨_, he, a, c, rfl, h1, h2⟩) (fun v2 w2 hR => hK _ _ (by obtain ⟨_, _, _, _, h2⟩ := hR; exact (HK.out _ h2).1) ?_))
  · clear hK K
    simp only [Act.put, List.setIfInBounds_toArray, List.set_cons_zero, List.set_cons_succ]
    refine hh_one 6 (by kernel_rfl) rfl rfl (fun K hK => wp_callsE (some 49) rfl 24 _ (ex_call1 24 (.tmp 48) _ rfl _ rfl (fun _ _ => rfl)) (fun v' w' => ∃ a c, v' = .agg #[.int .i64 src, .int .i64 dst, .slice a bs.length c] ∧ Row W0.heap.size w' (.slice a bs.length c) bs ∧ Below W0.heap.size W0 w') ((HCP.out _ HB1.out).mono fun _ _ ⟨a, c, he, h1, h2⟩ => ⟨_, he, a, c, rfl, h1, h2⟩) (fun v2 w2 hR => hK _ _ (by obtain ⟨_, _, _, _, h2⟩ := hR; exact (HK.out _ h2).1) ?_))
    clear hK K
    simp only [Act.put, List.setIfInBounds_toArray, List.set_cons_zero, List.set_cons_succ]
    obtain ⟨a2, c2, rfl, hr2, hb2⟩ := hR
    obtain ⟨a9, c9, w9, hrun, q2, qf, qN, qN2, hend⟩ := HAPP.out w2 a2 c2 hr2 hb2
    have hb3 : Below W0.heap.size W0 (w2.alloc (.cells #[.int .i64 src, .int .i64 dst, .slice a2 bs.length c2] 34)) := hb2.alloc hb2.size _
    refine hh_one 7 (by kernel_rfl) rfl rfl (fun K hK => wp_runsh (some 50) rfl (ex_buildSlice 43 1 _ rfl [(0, .agg #[.int .i64 src, .int .i64 dst, .slice a2 bs.length c2])] rfl _ (run_lit_und w2 _ _ _)) (hK _ _ (HK.out _ hb3).1 ?_))
    clear hK K
    simp only [Act.put, List.setIfInBounds_toArray, List.set_cons_zero, List.set_cons_succ]
    refine hh_one 8 (by kernel_rfl) rfl rfl (fun K hK => wp_runsh (some 51) rfl (ex_append (.tmp 47) (.tmp 50) 43 43 rfl _ _ _ rfl rfl hrun) (hK _ _ qN ?_))
    clear hK K
    simp only [Act.put, List.setIfInBounds_toArray, List.set_cons_zero, List.set_cons_succ]
    refine hh_take 9 (some 52) (.pointer (some ⟨p, 0, none⟩)) rfl rfl (by kernel_rfl) (by kernel_rfl) (by kernel_rfl) (fun _ _ _ h => h) rfl (fun _ _ => by first | rfl | kernel_rfl | go_simp) qN ?_
    simp only [Act.put, List.setIfInBounds_toArray, List.set_cons_zero, List.set_cons_succ]
    refine hh_take 10 (some 53) (.pointer (some ⟨p, 2, none⟩)) rfl rfl (by kernel_rfl) (by kernel_rfl) (by kernel_rfl) (fun _ _ _ h => h) rfl (fun _ _ => by kernel_rfl) qN ?_
    simp only [Act.put, List.setIfInBounds_toArray, List.set_cons_zero, List.set_cons_succ]
    refine hh_one 11 (by kernel_rfl) rfl rfl (fun K hK => wp_skipsh none rfl (ex_store 43 (.tmp 53) (.tmp 51) rfl _ _ rfl rfl (run_store_sl _ _ _ _ _ _ _ q2 ⟨_, _, _, rfl⟩ qf)) (hK _ _ qN2 ?_))
    clear hK K
    simp only [Act.put]
    refine wpAnyH_done (by kernel_rfl) ?_ _
    have HEND := Lib.hid hend
    clear hend hrun q2 qf qN qN2 hr2 hb2 hb3 HAPP HCP HK HB1
    generalize w9.setCell ⟨p, 2, none⟩ (.slice a9 (b.us.length + 1) c9) = W9 at *
    go_wp2
    go_ret
    exact HEND.out
  · have _tok := trivial
    clear hK K
    simp only [Act.put, List.setIfInBounds_toArray, List.set_cons_zero, List.set_cons_succ]
    obtain ⟨a2, c2, rfl, hr2, hb2⟩ := hR
    obtain ⟨a9, c9, w9, hrun, q2, qf, qN, qN2, hend⟩ := HAPP.out w2 a2 c2 hr2 hb2
    have hb3 : Below W0.heap.size W0 (w2.alloc (.cells #[.int .i64 src, .int .i64 dst, .slice a2 bs.length c2] 34)) := hb2.alloc hb2.size _
    refine hh_two 4 7 (by kernel_rfl) rfl rfl rfl rfl (fun K hK => wp_runsh (some 47) rfl (ex_load 43 (.tmp 46) rfl _ _ rfl (run_load_sl _ _ _ _ _ _ (HK.out _ hb2).2)) (hK _ _ (HK.out _ hb2).1 ?_)) (fun K hK => wp_runsh (some 50) rfl (ex_buildSlice 43 1 _ rfl [(0, .agg #[.int .i64 src, .int .i64 dst, .slice a2 bs.length c2])] rfl _ (run_lit_und w2 _ _ _)) (hK _ _ (HK.out _ hb3).1 ?_))
    · clear hK K
      simp only [Act.put, List.setIfInBounds_toArray, List.set_cons_zero, List.set_cons_succ]
      refine hh_one 7 (by kernel_rfl) rfl rfl (fun K hK => wp_runsh (some 50) rfl (ex_buildSlice 43 1 _ rfl [(0, .agg #[.int .i64 src, .int .i64 dst, .slice a2 bs.length c2])] rfl _ (run_lit_und w2 _ _ _)) (hK _ _ (HK.out _ hb3).1 ?_))
      clear hK K
      simp only [Act.put, List.setIfInBounds_toArray, List.set_cons_zero, List.set_cons_succ]
      refine hh_one 8 (by kernel_rfl) rfl rfl (fun K hK => wp_runsh (some 51) rfl (ex_append (.tmp 47) (.tmp 50) 43 43 rfl _ _ _ rfl rfl hrun) (hK _ _ qN ?_))
      clear hK K
      simp only [Act.put, List.setIfInBounds_toArray, List.set_cons_zero, List.set_cons_succ]
      refine hh_take 9 (some 52) (.pointer (some ⟨p, 0, none⟩)) rfl rfl (by kernel_rfl) (by kernel_rfl) (by kernel_rfl) (fun _ _ _ h => h) rfl (fun _ _ => by first | rfl | kernel_rfl | go_simp) qN ?_
      simp only [Act.put, List.setIfInBounds_toArray, List.set_cons_zero, List.set_cons_succ]
      refine hh_take 10 (some 53) (.pointer (some ⟨p, 2, none⟩)) rfl rfl (by kernel_rfl) (by kernel_rfl) (by kernel_rfl) (fun _ _ _ h => h) rfl (fun _ _ => by kernel_rfl) qN ?_
      simp only [Act.put, List.setIfInBounds_toArray, List.set_cons_zero, List.set_cons_succ]
      refine hh_one 11 (by kernel_rfl) rfl rfl (fun K hK => wp_skipsh none rfl (ex_store 43 (.tmp 53) (.tmp 51) rfl _ _ rfl rfl (run_store_sl _ _ _ _ _ _ _ q2 ⟨_, _, _, rfl⟩ qf)) (hK _ _ qN2 ?_))
      clear hK K
      simp only [Act.put]
      refine wpAnyH_done (by kernel_rfl) ?_ _
      have HEND := Lib.hid hend
      clear hend hrun q2 qf qN qN2 hr2 hb2 hb3 HAPP HCP HK HB1
      generalize w9.setCell ⟨p, 2, none⟩ (.slice a9 (b.us.length + 1) c9) = W9 at *
      go_wp2
      go_ret
      exact HEND.out
    · clear hK K
      simp only [Act.put, List.setIfInBounds_toArray, List.set_cons_zero, List.set_cons_succ]
      refine hh_one 4 (by kernel_rfl) rfl rfl (fun K hK => wp_runsh (some 47) rfl (ex_load 43 (.tmp 46) rfl _ _ rfl (run_load_sl _ _ _ _ _ _ (HK.out _ hb3).2)) (hK _ _ (HK.out _ hb3).1 ?_))
      clear hK K
      simp only [Act.put, List.setIfInBounds_toArray, List.set_cons_zero, List.set_cons_succ]
      refine hh_one 8 (by kernel_rfl) rfl rfl (fun K hK => wp_runsh (some 51) rfl (ex_append (.tmp 47) (.tmp 50) 43 43 rfl _ _ _ rfl rfl hrun) (hK _ _ qN ?_))
      clear hK K
      simp only [Act.put, List.setIfInBounds_toArray, List.set_cons_zero, List.set_cons_succ]
      refine hh_take 9 (some 52) (.pointer (some ⟨p, 0, none⟩)) rfl rfl (by kernel_rfl) (by kernel_rfl) (by kernel_rfl) (fun _ _ _ h => h) rfl (fun _ _ => by first | rfl | kernel_rfl | go_simp) qN ?_
      simp only [Act.put, List.setIfInBounds_toArray, List.set_cons_zero, List.set_cons_succ]
      refine hh_take 10 (some 53) (.pointer (some ⟨p, 2, none⟩)) rfl rfl (by kernel_rfl) (by kernel_rfl) (by kernel_rfl) (fun _ _ _ h => h) rfl (fun _ _ => by kernel_rfl) qN ?_
      simp only [Act.put, List.setIfInBounds_toArray, List.set_cons_zero, List.set_cons_succ]
      refine hh_one 11 (by kernel_rfl) rfl rfl (fun K hK => wp_skipsh none rfl (ex_store 43 (.tmp 53) (.tmp 51) rfl _ _ rfl rfl (run_store_sl _ _ _ _ _ _ _ q2 ⟨_, _, _, rfl⟩ qf)) (hK _ _ qN2 ?_))
      clear hK K
      simp only [Act.put]
      refine wpAnyH_done (by kernel_rfl) ?_ _
      have HEND := Lib.hid hend
      clear hend hrun q2 qf qN qN2 hr2 hb2 hb3 HAPP HCP HK HB1
      generalize w9.setCell ⟨p, 2, none⟩ (.slice a9 (b.us.length + 1) c9) = W9 at *
      go_wp2
      go_ret
      exact HEND.out
end Go.Proofs.Ytdcpdeiljabkaaa
