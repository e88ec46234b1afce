/- Disk, the document's own: New. -/
import Derived.Test.YtohmofhpbmhhjaaE8
namespace Go.Proofs.Ytohmofhpbmhhjaa
open Go Go.RowKit

/-- The disk while its pages are made: k of them are there. -/
structure Grow (w : World) (k : Nat) (pv : Value) (wr : World) : Prop where
  blk : wr.heap[w.heap.size]? = some (.cells #[pv, .slice none 0 0, .bool false, .int .i64 0, .int .i64 0] 73 (0, 0))
  own : wr.ownsRow 0 9 1 pv k ((List.replicate k zeroP).flatMap strC)
  loc : ∀ g, pv.ownBlock = some g → w.heap.size < g
  bel : Below w.heap.size w wr
  sz : w.heap.size < wr.heap.size
theorem rnew_bad (n : Int) (w : World) (hn : n < 1 ∨ 512 < n) :
    Calls Try.prog 24 #[.int .i64 n] w fun e w' => e = .returned (.tuple #[.pointer none, .int .i64 2]) ∧ w = w' := by
  by_cases h : n < 1
  · clear hn
    go_enter Try.func24, Try.ntmps24
    go_wp2
    go_ret2
    exact ⟨rfl, rfl⟩
  · have h' : 512 < n := by omega
    clear hn
    go_enter Try.func24, Try.ntmps24
    go_wp2
    go_ret2
    exact ⟨rfl, rfl⟩
theorem grow_more {w wr W1 : World} {k : Nat} {pv : Value} (h : Grow w k pv wr) (hb : Below wr.heap.size wr W1) (hk : k + 1 ≤ 1000) :
    ∃ a c W8, (∀ ty, (Builtin.append_ #[70, 70] ty #[pv, .slice (some ⟨W1.heap.size, 0, none⟩) 1 1]).run Try.prog (W1.alloc (.cells #[.string ⟨zeroP.toArray⟩] 9)) = .ok (.slice a (k + 1) c) W8) ∧ Grow w (k + 1) (.slice a (k + 1) c) (W8.setCell ⟨w.heap.size, 0, none⟩ (.slice a (k + 1) c)) ∧
      W8.cell? ⟨w.heap.size, 0, none⟩ = some pv ∧ W8.frozen? ⟨w.heap.size, 0, none⟩ = false := by
  obtain ⟨i0, hi0, hz0, hz1, hz2⟩ := info_parts infoS9
  have hba : Below wr.heap.size wr (W1.alloc (.cells #[.string ⟨zeroP.toArray⟩] 9)) := hb.alloc hb.size _
  have hown1 : (W1.alloc (.cells #[.string ⟨zeroP.toArray⟩] 9)).ownsRow 0 9 1 pv k ((List.replicate k zeroP).flatMap strC) := owns_frame h.own (fun q hq => hba.block q (row_lt h.own q hq))
  obtain ⟨v', W8, hr, h2, h3, h4⟩ := app_own (P := Try.prog) (W1.alloc (.cells #[.string ⟨zeroP.toArray⟩] 9)) 70 9 i0 _ 1 16 Try.underlying70 hi0 hz0 hz1 hz2 rfl (by decide) _ _ _ hown1
    ⟨W1.heap.size, 0, none⟩ 1 1 (strC zeroP) rfl (by decide) (fun j u hu => by rw [Addr.add_mid, Nat.zero_add]; exact (cell_of_row _ W1.heap.size j _ _ _ (heap_alloc_last W1 _)).trans (by rw [← hu]; simp [strC])) (strC_cell (l := [zeroP]) · <| by simpa using ·) (by unfold maxLen; omega) (by omega)
  have hfl : (List.replicate k zeroP).flatMap strC ++ strC zeroP = (List.replicate (k + 1) zeroP).flatMap strC := by rw [List.replicate_succ', List.flatMap_append]; simp
  rw [hfl] at h2
  obtain ⟨a, c, rfl, _⟩ := owns_shape h2
  have hloc : ∀ g, (Value.slice a (k + 1) c).ownBlock = some g → w.heap.size < g := fun g hg => by
    rcases h4 g hg with h0 | h0
    · exact h.loc g h0
    · have := hba.size; have := h.sz; omega
  have hblk8 : W8.heap[w.heap.size]? = some (.cells #[pv, .slice none 0 0, .bool false, .int .i64 0, .int .i64 0] 73 (0, 0)) :=
    (h3.block _ (by have := hba.size; have := h.sz; omega) (fun e => by have := h.loc _ e.symm; omega)).trans ((hba.block _ h.sz).trans h.blk)
  have hb8 : Below w.heap.size w W8 := (h.bel.trans (hba.mono h.bel.size)).grown h3 (Nat.le_trans h.bel.size hba.size) (fun q hq => Nat.le_of_lt (h.loc q hq))
  have hf : Fr (· = w.heap.size) W8 (W8.setCell ⟨w.heap.size, 0, none⟩ (.slice a (k + 1) c)) := (Fr.refl (· = w.heap.size) W8).setCell ⟨w.heap.size, 0, none⟩ (Or.inl rfl) _
  refine ⟨a, c, W8, hr, ⟨?_, owns_frame h2 (fun q hq => heap_setCell_other W8 _ _ _ (show q ≠ w.heap.size by have := hloc q hq; omega)), hloc, ?_, ?_⟩, ?_, frozen_of_row _ _ _ _ _ hblk8⟩
  · rw [heap_setCell_same _ _ 0 _ _ _ hblk8]
    rfl
  · exact ((Fr.of_below (fun q => w.heap.size ≤ q) hb8).setCell ⟨w.heap.size, 0, none⟩ (Or.inl (Nat.le_refl _)) _).below (Nat.le_refl _) (fun _ h => h)
  · have := hf.size; have := h3.size; have := hba.size; have := h.sz; omega
  · rw [cell_of_row _ _ _ _ _ _ hblk8]; rfl
theorem Grow.done {w wr : World} {n : Nat} {pv : Value} (h : Grow w n pv wr) (h1 : 1 ≤ n) (h2 : n ≤ 512) : ∃ O pv lv, RDsk O wr w.heap.size pv lv (St.new n) ∧ ∀ k, O k → w.heap.size ≤ k := by
  refine ⟨fun k => w.heap.size ≤ k ∧ k < wr.heap.size, pv, .slice none 0 0, ⟨⟨?_, (fun x h => by simp [St.new] at h), ?_, ?_, by simp [St.new], by simp [St.new], by simp [St.new]⟩, ?_, ?_, World.ownsRow_nil .., fun _ => rfl, ⟨Nat.le_refl _, h.sz⟩, fun g hg => ⟨⟨Nat.le_of_lt (h.loc g hg), row_lt h.own g hg⟩, by have := h.loc g hg; omega⟩, (fun g hg => by simp [Value.ownBlock] at hg), fun k hk => hk.2⟩, fun k hk => hk.1⟩
  · intro p hp
    simp only [St.new, List.mem_replicate] at hp
    rw [hp.2]; simp [zeroP]
  · simp only [St.new, List.length_replicate]; omega
  · simp only [St.new, List.length_replicate]; omega
  · exact h.blk
  · show World.ownsRow _ _ _ _ _ (List.replicate n zeroP).length _
    rw [List.length_replicate]
    exact h.own
set_option maxRecDepth 100000 in
set_option maxHeartbeats 4000000 in
theorem rnew_any (n : Nat) (w : World) (h1 : 1 ≤ n) (h2 : n ≤ 512) :
    Calls Try.prog 24 #[.int .i64 (n : Int)] w fun e w' => e = .returned (.tuple #[.pointer (some ⟨w.heap.size, 0, none⟩), .int .i64 0]) ∧ (∃ O pv lv, RDsk O w' w.heap.size pv lv (St.new n) ∧ ∀ k, O k → w.heap.size ≤ k) ∧ Below w.heap.size w w' := by
  have n1 : ¬ (n : Int) < 1 := by omega
  have n2 : ¬ 512 < (n : Int) := by omega
  have h0 : Hid (Grow w 0 (.slice none 0 0) (w.alloc (.cells #[.slice none 0 0, .slice none 0 0, .bool false, .int .i64 0, .int .i64 0] 73))) :=
    ⟨heap_alloc_last w _, World.ownsRow_nil .., (fun g hg => by simp [Value.ownBlock] at hg), (Below.refl _ w).alloc (Nat.le_refl _) _, by simp⟩
  go_enter Try.func24, Try.ntmps24
  go_wp2_with fail
  go_loopw [5] (fun iv wr => ∃ (k : Nat) (pv : Value), iv = .int .i64 (k : Int) ∧ k ≤ n ∧ Hid (Grow w k pv wr)) (fun iv _ => n - (intOf iv).toNat)
  case atStart => exact ⟨0, _, rfl, Nat.zero_le _, h0⟩
  case round =>
    clear h0
    obtain ⟨k, pv, rfl, hk, hG⟩ := hrel
    by_cases hgo : (k : Int) < (n : Int)
    · have hbd : Below wr.heap.size wr wr.drew := (Below.refl _ wr).drew
      have hp : ∃ pa pc, pv = .slice pa k pc := by obtain ⟨a, c, e, _⟩ := owns_shape hG.out.own; exact ⟨a, c, e⟩
      obtain ⟨pa, pc, rfl⟩ := hp
      have hl : ∀ W, Below wr.heap.size wr W → (Instr.loadAt 70 (.pointer (some ⟨w.heap.size, 0, none⟩))).run Try.prog W = .ok (.slice pa k pc) W := fun W hW => by
        have hc : W.cell? ⟨w.heap.size, 0, none⟩ = some (.slice pa k pc) := by rw [cell_of_row W _ _ _ _ _ ((hW.block _ hG.out.sz).trans hG.out.blk)]; rfl
        go_simp
      have hemp := (rempty_any wr.drew).mono (R' := fun e w' => e = .returned (.string ⟨zeroP.toArray⟩) ∧ Below wr.heap.size wr w') (fun e w' ⟨q1, q2⟩ => ⟨q1, hbd.trans (q2.mono hbd.size)⟩)
      have hlit : ∀ W, (Instr.buildSlice 70 1 #[(0, .string ⟨zeroP.toArray⟩)]).run Try.prog W = .ok (.slice (some ⟨W.heap.size, 0, none⟩) 1 1) (W.alloc (.cells #[.string ⟨zeroP.toArray⟩] 9)) := fun W => by
        generalize zeroP = Z
        go_simp
      have HL := Lib.hid hl
      have EM := Lib.hid hemp
      have LIT := Lib.hid hlit
      have BD := Lib.hid hbd
      clear hl hemp hlit hbd
      go_wp2_with fail
      refine wp_region_held_drew (S := fun _ => True) (by kernel_rfl) trivial (fun _ => ?_)
      refine anyH_take 0 (some 19) (.pointer (some ⟨w.heap.size, 0, none⟩)) rfl rfl (by kernel_rfl) (by kernel_rfl) (by kernel_rfl) (fun _ _ _ h => h) rfl (fun _ _ => rfl) trivial ?_
      simp only [Act.put, List.setIfInBounds_toArray, List.set_cons_zero, List.set_cons_succ]
      refine anyH_take 1 (some 20) (.pointer (some ⟨w.heap.size, 0, none⟩)) rfl rfl (by kernel_rfl) (by kernel_rfl) (by kernel_rfl) (fun _ _ _ h => h) rfl (fun _ _ => rfl) trivial ?_
      simp only [Act.put, List.setIfInBounds_toArray, List.set_cons_zero, List.set_cons_succ]
      refine anyH_take 2 (some 21) (.pointer (some ⟨w.heap.size, 0, none⟩)) rfl rfl (by kernel_rfl) (by kernel_rfl) (by kernel_rfl) (fun _ _ _ h => h) rfl (fun _ _ => rfl) trivial ?_
      simp only [Act.put, List.setIfInBounds_toArray, List.set_cons_zero, List.set_cons_succ]
      refine anyH_take 3 (some 22) (.pointer (some ⟨w.heap.size, 0, none⟩)) rfl rfl (by kernel_rfl) (by kernel_rfl) (by kernel_rfl) (fun _ _ _ h => h) rfl (fun _ _ => by kernel_rfl) trivial ?_
      simp only [Act.put, List.setIfInBounds_toArray, List.set_cons_zero, List.set_cons_succ]
      refine anyH_two 4 5 (by kernel_rfl) rfl rfl rfl rfl (fun K hK => wp_runs (some 23) rfl (ex_load 70 (.tmp 22) rfl _ _ rfl (HL.out _ BD.out)) (hK _ _ trivial ?_)) (fun K hK => wp_calls (some 24) rfl 37 #[] (ex_call0 37 _ rfl (fun _ _ => rfl)) (.string ⟨zeroP.toArray⟩) (fun w' => Below wr.heap.size wr w') EM.out (fun W1 hR1 => hK _ _ trivial ?_))
      · simp only [Act.put, List.setIfInBounds_toArray, List.set_cons_zero, List.set_cons_succ]
        refine anyH_one 5 (by kernel_rfl) rfl rfl (fun K hK => ?_)
        refine wp_calls (some 24) rfl 37 #[] (ex_call0 37 _ rfl (fun _ _ => rfl)) (.string ⟨zeroP.toArray⟩) (fun w' => Below wr.heap.size wr w') EM.out (fun W1 hR1 => hK _ _ trivial ?_)
        clear hK K
        simp only [Act.put, List.setIfInBounds_toArray, List.set_cons_zero, List.set_cons_succ]
        obtain ⟨a8, c8, W8, hr8, hg8, hc8, hf8⟩ := grow_more hG.out hR1 (by omega)
        have hst : (Instr.storeAt 70 (.pointer (some ⟨w.heap.size, 0, none⟩)) (.slice a8 (k + 1) c8)).run Try.prog W8 = .ok () (W8.setCell ⟨w.heap.size, 0, none⟩ (.slice a8 (k + 1) c8)) := by go_simp
        have R8 := Lib.hid hr8
        have G8 := Lib.hid hg8
        have ST := Lib.hid hst
        have LIT' := Lib.hid (LIT.out W1)
        have BR := Lib.hid hR1
        have BA := Lib.hid (hR1.alloc hR1.size (.cells #[.string ⟨zeroP.toArray⟩] 9))
        clear hr8 hg8 hst hc8 hf8 hR1
        refine anyH_one 6 (by kernel_rfl) rfl rfl (fun K hK => ?_)
        refine wp_runs (some 25) rfl (ex_buildSlice 70 1 #[(0, .tmp 24)] rfl _ rfl _ LIT'.out) (hK _ _ trivial ?_)
        clear hK K
        simp only [Act.put, List.setIfInBounds_toArray, List.set_cons_zero, List.set_cons_succ]
        refine anyH_one 7 (by kernel_rfl) rfl rfl (fun K hK => ?_)
        refine wp_runs (some 26) rfl (ex_append (.tmp 23) (.tmp 25) 70 70 rfl _ _ _ rfl rfl R8.out) (hK _ _ trivial ?_)
        clear hK K
        simp only [Act.put, List.setIfInBounds_toArray, List.set_cons_zero, List.set_cons_succ]
        refine anyH_take 8 (some 27) (.pointer (some ⟨w.heap.size, 0, none⟩)) rfl rfl (by kernel_rfl) (by kernel_rfl) (by kernel_rfl) (fun _ _ _ h => h) rfl (fun _ _ => rfl) trivial ?_
        simp only [Act.put, List.setIfInBounds_toArray, List.set_cons_zero, List.set_cons_succ]
        refine anyH_take 9 (some 28) (.pointer (some ⟨w.heap.size, 0, none⟩)) rfl rfl (by kernel_rfl) (by kernel_rfl) (by kernel_rfl) (fun _ _ _ h => h) rfl (fun _ _ => by kernel_rfl) trivial ?_
        simp only [Act.put, List.setIfInBounds_toArray, List.set_cons_zero, List.set_cons_succ]
        refine anyH_one 10 (by kernel_rfl) rfl rfl (fun K hK => ?_)
        refine wp_skips none rfl (ex_store 70 (.tmp 28) (.tmp 26) rfl _ _ rfl rfl ST.out) (hK _ _ trivial ?_)
        clear hK K
        simp only [Act.put]
        refine wpAnyH_done (by kernel_rfl) ?_ _
        clear R8 ST LIT' LIT EM HL BD hG BR BA
        go_wp2
        go_roundw
        case rel => exact ⟨k + 1, _, by go_num, by omega, G8⟩
        case measure => simp [intOf]; omega
      · simp only [Act.put, List.setIfInBounds_toArray, List.set_cons_zero, List.set_cons_succ]
        clear hK K
        obtain ⟨a8, c8, W8, hr8, hg8, hc8, hf8⟩ := grow_more hG.out hR1 (by omega)
        have hst : (Instr.storeAt 70 (.pointer (some ⟨w.heap.size, 0, none⟩)) (.slice a8 (k + 1) c8)).run Try.prog W8 = .ok () (W8.setCell ⟨w.heap.size, 0, none⟩ (.slice a8 (k + 1) c8)) := by go_simp
        have R8 := Lib.hid hr8
        have G8 := Lib.hid hg8
        have ST := Lib.hid hst
        have LIT' := Lib.hid (LIT.out W1)
        have BR := Lib.hid hR1
        have BA := Lib.hid (hR1.alloc hR1.size (.cells #[.string ⟨zeroP.toArray⟩] 9))
        clear hr8 hg8 hst hc8 hf8 hR1
        refine anyH_two 4 6 (by kernel_rfl) rfl rfl rfl rfl (fun K hK => wp_runs (some 23) rfl (ex_load 70 (.tmp 22) rfl _ _ rfl (HL.out _ BR.out)) (hK _ _ trivial ?_)) (fun K hK => wp_runs (some 25) rfl (ex_buildSlice 70 1 #[(0, .tmp 24)] rfl _ rfl _ LIT'.out) (hK _ _ trivial ?_))
        · simp only [Act.put, List.setIfInBounds_toArray, List.set_cons_zero, List.set_cons_succ]
          refine anyH_one 6 (by kernel_rfl) rfl rfl (fun K hK => ?_)
          refine wp_runs (some 25) rfl (ex_buildSlice 70 1 #[(0, .tmp 24)] rfl _ rfl _ LIT'.out) (hK _ _ trivial ?_)
          clear hK K
          simp only [Act.put, List.setIfInBounds_toArray, List.set_cons_zero, List.set_cons_succ]
          refine anyH_one 7 (by kernel_rfl) rfl rfl (fun K hK => ?_)
          refine wp_runs (some 26) rfl (ex_append (.tmp 23) (.tmp 25) 70 70 rfl _ _ _ rfl rfl R8.out) (hK _ _ trivial ?_)
          clear hK K
          simp only [Act.put, List.setIfInBounds_toArray, List.set_cons_zero, List.set_cons_succ]
          refine anyH_take 8 (some 27) (.pointer (some ⟨w.heap.size, 0, none⟩)) rfl rfl (by kernel_rfl) (by kernel_rfl) (by kernel_rfl) (fun _ _ _ h => h) rfl (fun _ _ => rfl) trivial ?_
          simp only [Act.put, List.setIfInBounds_toArray, List.set_cons_zero, List.set_cons_succ]
          refine anyH_take 9 (some 28) (.pointer (some ⟨w.heap.size, 0, none⟩)) rfl rfl (by kernel_rfl) (by kernel_rfl) (by kernel_rfl) (fun _ _ _ h => h) rfl (fun _ _ => by kernel_rfl) trivial ?_
          simp only [Act.put, List.setIfInBounds_toArray, List.set_cons_zero, List.set_cons_succ]
          refine anyH_one 10 (by kernel_rfl) rfl rfl (fun K hK => ?_)
          refine wp_skips none rfl (ex_store 70 (.tmp 28) (.tmp 26) rfl _ _ rfl rfl ST.out) (hK _ _ trivial ?_)
          clear hK K
          simp only [Act.put]
          refine wpAnyH_done (by kernel_rfl) ?_ _
          clear R8 ST LIT' LIT EM HL BD hG BR BA
          go_wp2
          go_roundw
          case rel => exact ⟨k + 1, _, by go_num, by omega, G8⟩
          case measure => simp [intOf]; omega
        · simp only [Act.put, List.setIfInBounds_toArray, List.set_cons_zero, List.set_cons_succ]
          refine anyH_one 4 (by kernel_rfl) rfl rfl (fun K hK => ?_)
          refine wp_runs (some 23) rfl (ex_load 70 (.tmp 22) rfl _ _ rfl (HL.out _ BA.out)) (hK _ _ trivial ?_)
          clear hK K
          simp only [Act.put, List.setIfInBounds_toArray, List.set_cons_zero, List.set_cons_succ]
          refine anyH_one 7 (by kernel_rfl) rfl rfl (fun K hK => ?_)
          refine wp_runs (some 26) rfl (ex_append (.tmp 23) (.tmp 25) 70 70 rfl _ _ _ rfl rfl R8.out) (hK _ _ trivial ?_)
          clear hK K
          simp only [Act.put, List.setIfInBounds_toArray, List.set_cons_zero, List.set_cons_succ]
          refine anyH_take 8 (some 27) (.pointer (some ⟨w.heap.size, 0, none⟩)) rfl rfl (by kernel_rfl) (by kernel_rfl) (by kernel_rfl) (fun _ _ _ h => h) rfl (fun _ _ => rfl) trivial ?_
          simp only [Act.put, List.setIfInBounds_toArray, List.set_cons_zero, List.set_cons_succ]
          refine anyH_take 9 (some 28) (.pointer (some ⟨w.heap.size, 0, none⟩)) rfl rfl (by kernel_rfl) (by kernel_rfl) (by kernel_rfl) (fun _ _ _ h => h) rfl (fun _ _ => by kernel_rfl) trivial ?_
          simp only [Act.put, List.setIfInBounds_toArray, List.set_cons_zero, List.set_cons_succ]
          refine anyH_one 10 (by kernel_rfl) rfl rfl (fun K hK => ?_)
          refine wp_skips none rfl (ex_store 70 (.tmp 28) (.tmp 26) rfl _ _ rfl rfl ST.out) (hK _ _ trivial ?_)
          clear hK K
          simp only [Act.put]
          refine wpAnyH_done (by kernel_rfl) ?_ _
          clear R8 ST LIT' LIT EM HL BD hG BR BA
          go_wp2
          go_roundw
          case rel => exact ⟨k + 1, _, by go_num, by omega, G8⟩
          case measure => simp [intOf]; omega
    · have hkn : k = n := by omega
      subst hkn
      have hfin := Lib.hid (hG.out.done h1 h2)
      have hbel := Lib.hid hG.out.bel
      clear hG
      go_wp2
      go_ret2
      obtain ⟨O, p, l, q1, q2⟩ := hfin.out
      exact ⟨rfl, ⟨O, ⟨p, l, q1⟩, q2⟩, hbel.out⟩
end Go.Proofs.Ytohmofhpbmhhjaa

