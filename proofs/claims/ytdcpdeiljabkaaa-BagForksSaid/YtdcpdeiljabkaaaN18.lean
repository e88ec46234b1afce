/- Bag: both Forks. -/
import Derived.Test.YtdcpdeiljabkaaaN17
namespace Go.Proofs.Ytdcpdeiljabkaaa
open Go Go.RowKit

theorem ex_box {P : Program} {o : Oper} {a : Act} {w : World} (t : TypeId) (x : Operand) (ho : o.op = .box t x) (C : Array Value) (hx : (a.eval x).cells = C) : (execOp a.eval o).run P w = .ok (.value (.pointer (some ⟨w.heap.size, 0, none⟩))) (w.alloc (.cells C t)) := by
  subst hx
  unfold execOp
  simp only [ho, Sem.run_bind, Instr.box, newVar, newRow, run_newObj_alloc, Sem.run_pure, Result.andThen_ok]
theorem ex_make {P : Program} {o : Oper} {a : Act} {w w' : World} (t : TypeId) (x y : Operand) (ho : o.op = .makeSlice t x y) (xv yv v : Value) (hx : a.eval x = xv) (hy : a.eval y = yv) (hr : (Instr.makeSlice t xv yv).run P w = .ok v w') : (execOp a.eval o).run P w = .ok (.value v) w' := by
  unfold execOp
  simp only [ho, hx, hy, Sem.run_bind, hr, Result.andThen_ok]
  rfl
theorem ex_len {P : Program} {o : Oper} {a : Act} {w : World} (t e : TypeId) (x : Operand) {p : Option Addr} {n c : Nat} (ho : o.op = .call { callee := .builtin .len, args := #[x], argTypes := #[t] }) (ht : P.underlying t = some (.slice e)) (hx : a.eval x = .slice p n c) : (execOp a.eval o).run P w = .ok (.value (.int .i64 (n : Int))) w := by
  unfold execOp
  simp [ho, resolve, invoke, builtin, hx, Sem.run_bind, Sem.run_pure, Result.andThen, Builtin.len_, run_underlying ht, goInt]
theorem run_index_und (W : World) (g n c j : Nat) (hj : j < n) (hn : n ≤ 9223372036854775807) : (Instr.indexAt 43 (.slice (some ⟨g, 0, none⟩) n c) (.int .i64 (j : Int))).run Try.prog W = .ok (.pointer (some ⟨g, j * 3, none⟩)) W := by
  have hj' : (j : Int) < (n : Int) := by omega
  go_simp
def zUn : Und := ⟨0, 0, []⟩
theorem flat_zero (n : Nat) : (madeCells (Value.agg #[.int .i64 0, .int .i64 0, .slice none 0 0]).cells (n * 3)).toList = (List.replicate n (zUn, Value.slice none 0 0)).flatMap cellsUV := by
  apply List.ext_getElem?
  intro i
  have hl : ((List.replicate n (zUn, Value.slice none 0 0)).flatMap cellsUV).length = n * 3 := by rw [flatU_len, List.length_replicate]
  by_cases hi : i < n * 3
  · have hq : i / 3 < n := by omega
    have hr : i % 3 < 3 := Nat.mod_lt _ (by decide)
    have hz : (List.replicate n (zUn, Value.slice none 0 0))[i / 3]? = some (zUn, Value.slice none 0 0) := by rw [List.getElem?_replicate, if_pos hq]
    have hc : ∃ u, (cellsUV (zUn, Value.slice none 0 0))[i % 3]? = some u ∧ (madeCells (Value.agg #[.int .i64 0, .int .i64 0, .slice none 0 0]).cells (n * 3)).toList[i]? = some u := by
      rcases (by omega : i % 3 = 0 ∨ i % 3 = 1 ∨ i % 3 = 2) with h | h | h
      all_goals exact ⟨_, by rw [h]; rfl, by simp [madeCells, hi, Value.cells, h, zUn]⟩
    obtain ⟨u, hu, hm⟩ := hc
    have := flat_at cellsUV 3 _ (i / 3) (fun _ _ => rfl) _ hz (i % 3) u hu
    rw [show i / 3 * 3 + i % 3 = i by omega] at this
    rw [hm, this]
  · rw [List.getElem?_eq_none (by simp [madeCells]; omega), List.getElem?_eq_none (by rw [hl]; omega)]
/-- Where the loop of Fork stands: the new bag in block s, its messages in block g. -/
structure FkI (w wr : World) (s : Nat) (b : Bg) (g n : Nat) (qs : List UV) : Prop where
  row : wr.heap[s]? = some (.cells #[.int .i64 (b.most : Int), .int .i64 (b.lost : Int), .slice (some ⟨g, 0, none⟩) n n] 56 (0, 0))
  us : UsAt w.heap.size wr (.slice (some ⟨g, 0, none⟩) n n) qs
  ne : ∀ k, HasU (.slice (some ⟨g, 0, none⟩) n n) qs k → k ≠ s
  sb : w.heap.size ≤ s
  bel : Below w.heap.size w wr
theorem FkI.put {w wr w2 : World} {s g n N1 k : Nat} {b : Bg} {qs : List UV} {x : Und} {v : Value} (h : FkI w wr s b g n qs) (hb : Below wr.heap.size wr w2) (hN : wr.heap.size ≤ N1) (hr : Row N1 w2 v x.bytes) (hk : k < qs.length) (hn : qs.length = n) :
    FkI w (w2.setCells g (k * 3) (cellsUV (x, v))) s b g n (qs.set k (x, v)) := by
  have hu := h.us.kept hb.size (fun gg hg => hb.block gg (h.us.has gg hg).2)
  have hgs : g ≠ s := h.ne g (Or.inl rfl)
  have hglt : g < wr.heap.size := (h.us.lt.1 g rfl).2
  have hgb : w.heap.size ≤ g := (h.us.lt.1 g rfl).1
  have hslt : s < wr.heap.size := (Array.getElem?_eq_some_iff.1 h.row).1
  have hf : Fr (· = g) w2 (w2.setCells g (k * 3) (cellsUV (x, v))) := (Fr.refl (· = g) w2).setCells g (k * 3) (Or.inl rfl) _
  have hvb := row_base hr
  have hsz := hb.size
  have hwb := h.bel.size
  have hmem : ∀ p ∈ qs.set k (x, v), p ∈ qs ∨ p = (x, v) := fun p hp => List.mem_or_eq_of_mem_set hp
  refine ⟨(hf.block s (by omega) (fun e => hgs e.symm)).trans ((hb.block s hslt).trans h.row), ⟨?_, fun p hp => ?_, fun p hp gg hgg => ?_⟩, fun gg hgg => ?_, h.sb, (h.bel.trans (hb.mono hwb)).trans (hf.below (by omega) (fun k e => by omega))⟩
  · have ho := hu.own
    rw [hn] at ho
    have h1 := owns_set ho (k * 3) (cellsUV (x, v)) (by rw [cellsUV_len]; omega)
    rw [flat_set cellsUV 3 qs k (fun _ _ => rfl) (x, v) rfl hk] at h1
    rw [List.length_set, hn]
    exact h1
  · rcases hmem p hp with hp | rfl
    · exact (hu.rows p hp).kept hf.size (fun gg hgg => hf.block gg ((hu.rows p hp).1.lt gg hgg) (fun e => by subst e; exact hu.ne p hp gg hgg rfl))
    · have h1 := hr.kept hf.size (fun gg hgg => hf.block gg (hr.1.lt gg hgg) (by have := hvb gg hgg; omega))
      exact ⟨h1.1, fun ad n' c' e' => by obtain ⟨a1, a2, a3⟩ := h1.2 ad n' c' e'; exact ⟨by omega, a2, a3⟩⟩
  · rcases hmem p hp with hp | rfl
    · exact hu.ne p hp gg hgg
    · intro e
      have := hvb gg hgg
      simp [Value.ownBlock] at e
      omega
  · rcases hgg with hgg | ⟨p, hp, hgg⟩
    · exact h.ne gg (Or.inl hgg)
    · rcases hmem p hp with hp | rfl
      · exact h.ne gg (Or.inr ⟨p, hp, hgg⟩)
      · have := hvb gg hgg; omega
/-- What Fork tells: a bag that is alike, all of it new. -/
def ForkR (w : World) (b : Bg) (e : Ending) (w' : World) : Prop := ∃ s sv' ps', e = .returned (.pointer (some ⟨s, 0, none⟩)) ∧ BagAt w.heap.size w' s b sv' ps' ∧ Below w.heap.size w w'
theorem map_set_at (f : UV → Und) (qs : List UV) (us : List Und) (k n : Nat) (x : Und) (v : Value) (hx : us[k]? = some x) (hf : f (x, v) = x) (hm : qs.map f = us.take k ++ List.replicate (n - k) zUn) (hk : k < n) : (qs.set k (x, v)).map f = us.take (k + 1) ++ List.replicate (n - (k + 1)) zUn := by
  have hkl : k < us.length := (List.getElem?_eq_some_iff.1 hx).1
  have htl : (us.take k).length = k := by rw [List.length_take]; omega
  rw [List.map_set, hm, hf, show n - k = (n - (k + 1)) + 1 by omega, List.replicate_succ, List.set_append_right _ _ (by omega), htl, Nat.sub_self, List.set_cons_zero, List.take_add_one, hx]
  simp
set_option maxHeartbeats 8000000 in
set_option maxRecDepth 100000 in
theorem fork_any (B p : Nat) (w : World) (b : Bg) (sv : Value) (ps : List UV) (h : BagAt B w p b sv ps) (hn : b.us.length ≤ 1000) (hbl : ∀ x ∈ b.us, x.bytes.length ≤ 2006) :
    Calls Try.prog 17 #[.pointer (some ⟨p, 0, none⟩)] w (ForkR w b) := by
  obtain ⟨sa, sc, rfl, _⟩ := h.us.len_le
  obtain ⟨n, hln⟩ : ∃ n, ps.length = n := ⟨_, rfl⟩
  have hbn : b.us.length = n := by rw [← h.len, hln]
  obtain ⟨i0, hi0, hz0, hz1, hz2⟩ := info_parts infoUn
  have hrow := h.row
  rw [hln] at hrow
  have hp := h.lt
  have hmk : ∀ W : World, (Instr.makeSlice 43 (.int .i64 (n : Int)) (.int .i64 (n : Int))).run Try.prog W = .ok (.slice (some ⟨W.heap.size, 0, none⟩) n n) (W.alloc (.cells ((List.replicate n (zUn, Value.slice none 0 0)).flatMap cellsUV).toArray 34)) := fun W => by
    have := run_make (P := Try.prog) W 43 34 i0 _ Try.underlying43 hi0 hz0 .i64 .i64 (n : Int) (n : Int) (by omega) (Int.le_refl _) (by rw [hz2]; omega) (by omega)
    rw [hz1, Int.toNat_natCast] at this
    rw [this, ← flat_zero, Array.toArray_toList]
  -- the start of the loop
  obtain ⟨W1, hW1⟩ : ∃ W1, w.drew.alloc (.cells ((List.replicate n (zUn, Value.slice none 0 0)).flatMap cellsUV).toArray 34) = W1 := ⟨_, rfl⟩
  obtain ⟨W2, hW2⟩ : ∃ W2, W1.alloc (.cells #[.int .i64 (b.most : Int), .int .i64 (b.lost : Int), .slice (some ⟨w.heap.size, 0, none⟩) n n] 56) = W2 := ⟨_, rfl⟩
  have hs1 : W1.heap.size = w.heap.size + 1 := by rw [← hW1]; simp
  have hb1 : Below w.heap.size w W1 := by rw [← hW1]; exact ((Below.refl _ w).drew).alloc (Nat.le_refl _) _
  have hb2 : Below w.heap.size w W2 := by rw [← hW2]; exact hb1.alloc (by omega) _
  have hb12 : Below W1.heap.size W1 W2 := by rw [← hW2]; exact (Below.refl _ W1).alloc (Nat.le_refl _) _
  have hr1 : W1.heap[w.heap.size]? = some (.cells ((List.replicate n (zUn, Value.slice none 0 0)).flatMap cellsUV).toArray 34 (0, 0)) := by rw [← hW1]; exact heap_alloc_new w.drew _
  have hr2 : W2.heap[w.heap.size + 1]? = some (.cells #[.int .i64 (b.most : Int), .int .i64 (b.lost : Int), .slice (some ⟨w.heap.size, 0, none⟩) n n] 56 (0, 0)) := by rw [← hW2, ← hs1]; exact heap_alloc_new W1 _
  have HI : Hid (FkI w W2 (w.heap.size + 1) b w.heap.size n (List.replicate n (zUn, Value.slice none 0 0))) := Lib.hid (by
    refine ⟨hr2, ⟨?_, fun p hp => ?_, fun p hp gg hgg => ?_⟩, fun gg hgg => ?_, by omega, hb2⟩
    · rw [List.length_replicate]
      exact owns_of_row ((hb12.block _ (by omega)).trans hr1) (Nat.le_refl _) (by rw [flatU_len, List.length_replicate]) (by unfold maxLen; omega)
    · rw [List.eq_of_mem_replicate hp]; exact Row.nil _ _
    · rw [List.eq_of_mem_replicate hp] at hgg; simp [Value.ownBlock] at hgg
    · rcases hgg with hgg | ⟨p, hp, hgg⟩
      · simp [Value.ownBlock] at hgg; omega
      · rw [List.eq_of_mem_replicate hp] at hgg; simp [Value.ownBlock] at hgg)
  have HH := Lib.hid h
  have HROW := Lib.hid hrow
  have HMK : Hid ((Instr.makeSlice 43 (.int .i64 (n : Int)) (.int .i64 (n : Int))).run Try.prog w.drew = .ok (.slice (some ⟨w.heap.size, 0, none⟩) n n) W1) := Lib.hid (by rw [← hW1]; exact hmk w.drew)
  have HW2 := Lib.hid hW2
  have HR1 := Lib.hid ((hb1.block p hp).trans hrow)
  have HR2 := Lib.hid ((hb2.block p hp).trans hrow)
  have HBN := Lib.hid hbn
  have hn1 : n ≤ 1000 := by omega
  have HBL := Lib.hid hbl
  have HLN := Lib.hid hln
  have HSZ := Lib.hid hs1
  clear h hbn hi0 hz0 hz1 hz2 hp hmk hW1 hW2 hb1 hb2 hb12 hr1 hr2 hbl hln hn
  go_enter Try.func17, Try.ntmps17
  go_wp2_with fail
  refine wp_region_held_drew (S := fun W : World => W.heap[p]? = some (.cells #[.int .i64 (b.most : Int), .int .i64 (b.lost : Int), .slice sa n sc] 56 (0, 0))) (by kernel_rfl) HROW.out (fun _ => ?_)
  refine hh_take 0 (some 8) (.pointer (some ⟨p, 0, none⟩)) rfl rfl (by kernel_rfl) (by kernel_rfl) (by kernel_rfl) (fun _ _ _ h => h) rfl (fun _ _ => rfl) HROW.out ?_
  simp only [Act.put, List.setIfInBounds_toArray, List.set_cons_zero, List.set_cons_succ]
  refine hh_take 1 (some 9) (.pointer (some ⟨p, 0, none⟩)) rfl rfl (by kernel_rfl) (by kernel_rfl) (by kernel_rfl) (fun _ _ _ h => h) rfl (fun _ _ => by first | rfl | kernel_rfl | go_simp) HROW.out ?_
  simp only [Act.put, List.setIfInBounds_toArray, List.set_cons_zero, List.set_cons_succ]
  refine hh_take 2 (some 10) (.pointer (some ⟨p, 0, none⟩)) rfl rfl (by kernel_rfl) (by kernel_rfl) (by kernel_rfl) (fun _ _ _ h => h) rfl (fun _ _ => by kernel_rfl) HROW.out ?_
  simp only [Act.put, List.setIfInBounds_toArray, List.set_cons_zero, List.set_cons_succ]
  refine hh_take 3 (some 11) (.int .i64 (b.most : Int)) rfl rfl (by kernel_rfl) (by kernel_rfl) (by kernel_rfl) (fun _ _ _ h => h) rfl (fun W hW => ex_load 3 (.tmp 10) rfl _ _ rfl (run_load_int W _ _ _ (cell_of_row _ _ _ _ _ _ hW))) HROW.out ?_
  simp only [Act.put, List.setIfInBounds_toArray, List.set_cons_zero, List.set_cons_succ]
  refine hh_take 4 (some 12) (.pointer (some ⟨p, 0, none⟩)) rfl rfl (by kernel_rfl) (by kernel_rfl) (by kernel_rfl) (fun _ _ _ h => h) rfl (fun _ _ => rfl) HROW.out ?_
  simp only [Act.put, List.setIfInBounds_toArray, List.set_cons_zero, List.set_cons_succ]
  refine hh_take 5 (some 13) (.pointer (some ⟨p, 0, none⟩)) rfl rfl (by kernel_rfl) (by kernel_rfl) (by kernel_rfl) (fun _ _ _ h => h) rfl (fun _ _ => by first | rfl | kernel_rfl | go_simp) HROW.out ?_
  simp only [Act.put, List.setIfInBounds_toArray, List.set_cons_zero, List.set_cons_succ]
  refine hh_take 6 (some 14) (.pointer (some ⟨p, 1, none⟩)) rfl rfl (by kernel_rfl) (by kernel_rfl) (by kernel_rfl) (fun _ _ _ h => h) rfl (fun _ _ => by kernel_rfl) HROW.out ?_
  simp only [Act.put, List.setIfInBounds_toArray, List.set_cons_zero, List.set_cons_succ]
  refine hh_take 7 (some 15) (.int .i64 (b.lost : Int)) rfl rfl (by kernel_rfl) (by kernel_rfl) (by kernel_rfl) (fun _ _ _ h => h) rfl (fun W hW => ex_load 3 (.tmp 14) rfl _ _ rfl (run_load_int W _ _ _ (cell_of_row _ _ _ _ _ _ hW))) HROW.out ?_
  simp only [Act.put, List.setIfInBounds_toArray, List.set_cons_zero, List.set_cons_succ]
  refine hh_take 8 (some 16) (.pointer (some ⟨p, 0, none⟩)) rfl rfl (by kernel_rfl) (by kernel_rfl) (by kernel_rfl) (fun _ _ _ h => h) rfl (fun _ _ => rfl) HROW.out ?_
  simp only [Act.put, List.setIfInBounds_toArray, List.set_cons_zero, List.set_cons_succ]
  refine hh_take 9 (some 17) (.pointer (some ⟨p, 0, none⟩)) rfl rfl (by kernel_rfl) (by kernel_rfl) (by kernel_rfl) (fun _ _ _ h => h) rfl (fun _ _ => by first | rfl | kernel_rfl | go_simp) HROW.out ?_
  simp only [Act.put, List.setIfInBounds_toArray, List.set_cons_zero, List.set_cons_succ]
  refine hh_take 10 (some 18) (.pointer (some ⟨p, 2, none⟩)) rfl rfl (by kernel_rfl) (by kernel_rfl) (by kernel_rfl) (fun _ _ _ h => h) rfl (fun _ _ => by kernel_rfl) HROW.out ?_
  simp only [Act.put, List.setIfInBounds_toArray, List.set_cons_zero, List.set_cons_succ]
  refine hh_take 11 (some 19) (.slice sa n sc) rfl rfl (by kernel_rfl) (by kernel_rfl) (by kernel_rfl) (fun _ _ _ h => h) rfl (fun W hW => ex_load 43 (.tmp 18) rfl _ _ rfl (run_load_sl W _ _ _ _ _ (cell_of_row _ _ _ _ _ _ hW))) HROW.out ?_
  simp only [Act.put, List.setIfInBounds_toArray, List.set_cons_zero, List.set_cons_succ]
  refine hh_take 12 (some 20) (.int .i64 (n : Int)) rfl rfl (by kernel_rfl) (by kernel_rfl) (by kernel_rfl) (fun _ _ _ h => h) rfl (fun _ _ => ex_len 43 34 (.tmp 19) rfl Try.underlying43 rfl) HROW.out ?_
  simp only [Act.put, List.setIfInBounds_toArray, List.set_cons_zero, List.set_cons_succ]
  refine hh_one 13 (by kernel_rfl) rfl rfl (fun K hK => wp_runsh (some 21) rfl (ex_make 43 (.tmp 20) (.tmp 20) rfl _ _ _ rfl rfl HMK.out) (hK _ _ HR1.out ?_))
  clear hK K
  simp only [Act.put, List.setIfInBounds_toArray, List.set_cons_zero, List.set_cons_succ]
  refine hh_take 14 (some 22) (.agg #[.int .i64 (b.most : Int), .int .i64 (b.lost : Int), .slice (some ⟨w.heap.size, 0, none⟩) n n]) rfl rfl (by kernel_rfl) (by kernel_rfl) (by kernel_rfl) (fun _ _ _ h => h) rfl (fun _ _ => by first | rfl | kernel_rfl | go_simp) HR1.out ?_
  simp only [Act.put, List.setIfInBounds_toArray, List.set_cons_zero, List.set_cons_succ]
  refine hh_one 15 (by kernel_rfl) rfl rfl (fun K hK => wp_runsh (some 23) rfl (ex_box 56 (.tmp 22) rfl #[.int .i64 (b.most : Int), .int .i64 (b.lost : Int), .slice (some ⟨w.heap.size, 0, none⟩) n n] rfl) (hK _ _ (by rw [HW2.out]; exact HR2.out) ?_))
  clear hK K
  simp only [Act.put, List.setIfInBounds_toArray, List.set_cons_zero, List.set_cons_succ]
  rw [HW2.out, HSZ.out]
  refine hh_take 16 (some 3) (.pointer (some ⟨w.heap.size + 1, 0, none⟩)) rfl rfl (by kernel_rfl) (by kernel_rfl) (by kernel_rfl) (fun _ _ _ h => h) rfl (fun _ _ => rfl) HR2.out ?_
  simp only [Act.put, List.setIfInBounds_toArray, List.set_cons_zero, List.set_cons_succ]
  refine wpAnyH_done (by kernel_rfl) ?_ _
  have c2 : W2.cell? ⟨p, 2, none⟩ = some (.slice sa n sc) := cell_of_row _ _ _ _ _ _ HR2.out
  obtain ⟨s, hs⟩ : ∃ s, w.heap.size + 1 = s := ⟨_, rfl⟩
  obtain ⟨g, hg⟩ : ∃ g, w.heap.size = g := ⟨_, rfl⟩
  rw [hs, show FkI w W2 s b w.heap.size = FkI w W2 s b g by rw [hg]] at HI
  rw [hs]
  rw [hg]
  clear hs hg HROW HMK HW2 HR1 HSZ
  go_wp2_with fail
  go_loopw [4, 5, 29] (fun _ _ iv wr => ∃ (k : Nat) (qs : List UV), iv = .int .i64 (k : Int) ∧ k ≤ n ∧ qs.length = n ∧ Hid (FkI w wr s b g n qs ∧ qs.map (·.1) = b.us.take k ++ List.replicate (n - k) zUn)) (fun _ _ iv _ => n - (intOf iv).toNat)
  case atStart => exact ⟨0, _, rfl, Nat.zero_le _, List.length_replicate, Lib.hid ⟨HI.out, by rw [List.map_replicate, List.take_zero, List.nil_append, Nat.sub_zero]⟩⟩
  case round =>
    clear HI HR2 c2
    obtain ⟨k, qs, rfl, hk, hql, hH⟩ := hrel
    by_cases hlt : k < n
    · have hlt' : (k : Int) < (n : Int) := by omega
      obtain ⟨hI, hM⟩ := hH.out
      have hBr := HH.out.below hI.bel
      obtain ⟨y, hy⟩ : ∃ y, ps[k]? = some y := ⟨_, List.getElem?_eq_getElem (by rw [HLN.out]; exact hlt)⟩
      obtain ⟨ga, cc, e, hglt, _, q0, q1, q2⟩ := hBr.us.at k y hy
      injection e with e1 _ e3
      subst e1 e3
      obtain ⟨x, pv⟩ := y
      have hyx : b.us[k]? = some x := by rw [← HH.out.eq, List.getElem?_map, hy]; rfl
      have hrw := hBr.us.rows _ (List.mem_of_getElem? hy)
      obtain ⟨pa, pc, hpv, _⟩ := hrw.1.shape
      dsimp only at q0 q1 q2 hrw hpv
      subst hpv
      have hx2 : x.bytes.length ≤ 2006 := HBL.out x (List.mem_of_getElem? hyx)
      have HR : Hid (wr.rangeAt ga (k * 3) [.int .i64 x.src, .int .i64 x.dst, .slice pa x.bytes.length pc]) := Lib.hid (fun j v hj => by
        match j, hj with
        | 0, hj => cases hj; exact q0
        | 1, hj => cases hj; exact q1
        | 2, hj => cases hj; exact q2)
      have HL3 : Hid ((Try.prog.info? 34).map (·.size) = some ([.int .i64 x.src, .int .i64 x.dst, .slice pa x.bytes.length pc] : List Value).length) := Lib.hid (by show _ = some 3; kernel_rfl)
      obtain ⟨wv, hwv⟩ : ∃ wv, wr.alloc (.cells #[.int .i64 x.src, .int .i64 x.dst, .slice pa x.bytes.length pc] 34) = wv := ⟨_, rfl⟩
      have hbv : Below wr.heap.size wr wv := by rw [← hwv]; exact (Below.refl _ wr).alloc (Nat.le_refl _) _
      have hrv : wv.heap[wr.heap.size]? = some (.cells #[.int .i64 x.src, .int .i64 x.dst, .slice pa x.bytes.length pc] 34 (0, 0)) := by rw [← hwv]; exact heap_alloc_new wr _
      have hrs : wv.heap[s]? = _ := (hbv.block s (Array.getElem?_eq_some_iff.1 hI.row).1).trans hI.row
      have hbd : Below wv.heap.size wv wv.drew := (Below.refl _ wv).drew
      have HC := Lib.hid (copied_any wv.drew x _ ((hrw.1.z.below hbv).below hbd) (by omega))
      have HPUT : Hid (∀ w2 v, Row wv.heap.size w2 v x.bytes → Below wv.heap.size wv w2 → (∃ a c, v = .slice a x.bytes.length c) → w2.heap[s]? = some (.cells #[.int .i64 (b.most : Int), .int .i64 (b.lost : Int), .slice (some ⟨g, 0, none⟩) n n] 56 (0, 0)) ∧ w2.heap[wr.heap.size]? = some (.cells #[.int .i64 x.src, .int .i64 x.dst, .slice pa x.bytes.length pc] 34 (0, 0)) ∧
          (Instr.storeAt 34 (.pointer (some ⟨g, k * 3, none⟩)) (.agg #[.int .i64 x.src, .int .i64 x.dst, v])).run Try.prog w2 = .ok () (w2.setCells g (k * 3) (cellsUV (x, v))) ∧
          (w2.setCells g (k * 3) (cellsUV (x, v))).heap[s]? = some (.cells #[.int .i64 (b.most : Int), .int .i64 (b.lost : Int), .slice (some ⟨g, 0, none⟩) n n] 56 (0, 0)) ∧ (w2.setCells g (k * 3) (cellsUV (x, v))).heap[wr.heap.size]? = some (.cells #[.int .i64 x.src, .int .i64 x.dst, .slice pa x.bytes.length pc] 34 (0, 0)) ∧
          FkI w (w2.setCells g (k * 3) (cellsUV (x, v))) s b g n (qs.set k (x, v)) ∧ (qs.set k (x, v)).map (·.1) = b.us.take (k + 1) ++ List.replicate (n - (k + 1)) zUn) := Lib.hid (fun w2 v hv hb2 hvs => by
        have hbr2 : Below wr.heap.size wr w2 := hbv.trans (hb2.mono hbv.size)
        have hgl : g < wr.heap.size := (hI.us.lt.1 g rfl).2
        have h1 := hI.put (k := k) hbr2 hbv.size hv (by omega) hql
        have hsl := (Array.getElem?_eq_some_iff.1 hrv).1
        have ho := (hI.us.kept hbr2.size (fun gg hg => hbr2.block gg (hI.us.has gg hg).2)).own
        rw [hql] at ho
        have hth := owns_there ho (k * 3) 3 (by omega)
        have hf : Fr (· = g) w2 (w2.setCells g (k * 3) (cellsUV (x, v))) := (Fr.refl (· = g) w2).setCells g (k * 3) (Or.inl rfl) _
        have hrw2 := (hb2.block wr.heap.size hsl).trans hrv
        exact ⟨(hbr2.block s (Array.getElem?_eq_some_iff.1 hI.row).1).trans hI.row, hrw2, run_storeAt_mid (P := Try.prog) w2 g (k * 3) 34 #[.int .i64 x.src, .int .i64 x.dst, v] hth (infoU3 _ rfl) (cellsU3 _ _ _ (by obtain ⟨a, c, e⟩ := hvs; exact ⟨a, _, c, e⟩)), h1.row, (hf.block _ (by have := hb2.size; omega) (by omega)).trans hrw2, h1, map_set_at (·.1) qs b.us k n x v hyx rfl hM hlt⟩)
      have HBD := Lib.hid hbd
      have HRV := Lib.hid hrv
      have HRS := Lib.hid hrs
      have HWV := Lib.hid hwv
      have hwb : wv.drew.heap.size = wv.heap.size := rfl
      clear hI hM hH hBr hy hglt q0 q1 q2 hyx hrw hx2 hwv hbv hrv hrs hbd
      go_wp2_with (first
        | rw [HWV.out]
        | (refine wpList_load_mid rfl 34 _ rfl ga (k * 3) rfl _ _ HR.out Try.underlying34 rfl HL3.out ?_))
      clear HWV HR HL3
      refine wp_region_held_drew (S := fun W : World => W.heap[s]? = some (.cells #[.int .i64 (b.most : Int), .int .i64 (b.lost : Int), .slice (some ⟨g, 0, none⟩) n n] 56 (0, 0)) ∧ W.heap[wr.heap.size]? = some (.cells #[.int .i64 x.src, .int .i64 x.dst, .slice pa x.bytes.length pc] 34 (0, 0))) (by kernel_rfl) ⟨HRS.out, HRV.out⟩ (fun _ => ?_)
      refine hh_take 0 (some 34) (.pointer (some ⟨s, 0, none⟩)) rfl rfl (by kernel_rfl) (by kernel_rfl) (by kernel_rfl) (fun _ _ _ h => h) rfl (fun _ _ => rfl) ⟨HRS.out, HRV.out⟩ ?_
      simp only [Act.put, List.setIfInBounds_toArray, List.set_cons_zero, List.set_cons_succ]
      refine hh_take 1 (some 35) (.pointer (some ⟨s, 0, none⟩)) rfl rfl (by kernel_rfl) (by kernel_rfl) (by kernel_rfl) (fun _ _ _ h => h) rfl (fun _ _ => by first | rfl | kernel_rfl | go_simp) ⟨HRS.out, HRV.out⟩ ?_
      simp only [Act.put, List.setIfInBounds_toArray, List.set_cons_zero, List.set_cons_succ]
      refine hh_take 2 (some 36) (.pointer (some ⟨s, 2, none⟩)) rfl rfl (by kernel_rfl) (by kernel_rfl) (by kernel_rfl) (fun _ _ _ h => h) rfl (fun _ _ => by kernel_rfl) ⟨HRS.out, HRV.out⟩ ?_
      simp only [Act.put, List.setIfInBounds_toArray, List.set_cons_zero, List.set_cons_succ]
      refine hh_take 3 (some 37) (.slice (some ⟨g, 0, none⟩) n n) rfl rfl (by kernel_rfl) (by kernel_rfl) (by kernel_rfl) (fun _ _ _ h => h) rfl (fun W hW => ex_load 43 (.tmp 36) rfl _ _ rfl (run_load_sl W _ _ _ _ _ (cell_of_row _ _ _ _ _ _ hW.1))) ⟨HRS.out, HRV.out⟩ ?_
      simp only [Act.put, List.setIfInBounds_toArray, List.set_cons_zero, List.set_cons_succ]
      refine hh_take 4 (some 38) (.int .i64 (k : Int)) rfl rfl (by kernel_rfl) (by kernel_rfl) (by kernel_rfl) (fun _ _ _ h => h) rfl (fun _ _ => rfl) ⟨HRS.out, HRV.out⟩ ?_
      simp only [Act.put, List.setIfInBounds_toArray, List.set_cons_zero, List.set_cons_succ]
      refine hh_take 5 (some 39) (.agg #[.int .i64 x.src, .int .i64 x.dst, .slice pa x.bytes.length pc]) rfl rfl (by kernel_rfl) (by kernel_rfl) (by kernel_rfl) (fun _ _ _ h => h) rfl (fun W hW => ex_load 34 (.tmp 5) rfl _ _ rfl (run_load_und W _ _ _ _ ⟨_, _, _, rfl⟩ hW.2)) ⟨HRS.out, HRV.out⟩ ?_
      simp only [Act.put, List.setIfInBounds_toArray, List.set_cons_zero, List.set_cons_succ]
      refine hh_one 6 (by kernel_rfl) rfl rfl (fun K hK => wp_callsE (some 40) rfl 24 _ (ex_call1 24 (.tmp 39) _ rfl _ rfl (fun _ _ => rfl)) (fun v w' => ∃ a c, v = .agg #[.int .i64 x.src, .int .i64 x.dst, .slice a x.bytes.length c] ∧ Row wv.heap.size w' (.slice a x.bytes.length c) x.bytes ∧ Below wv.heap.size wv w') (HC.out.mono fun e w' ⟨a, c, h1, h2, h3⟩ => ⟨_, h1, a, c, rfl, h2, HBD.out.trans h3⟩) (fun v2 w2 hR => hK _ _ (by obtain ⟨a, c, -, h2, h3⟩ := hR; have := HPUT.out w2 _ h2 h3 ⟨_, _, rfl⟩; exact ⟨this.1, this.2.1⟩) ?_))
      clear hK K
      simp only [Act.put, List.setIfInBounds_toArray, List.set_cons_zero, List.set_cons_succ]
      obtain ⟨va, vc, rfl, hr2, hb2⟩ := hR
      obtain ⟨t1, t2, t3, t4, t5, t6, t7⟩ := HPUT.out w2 _ hr2 hb2 ⟨_, _, rfl⟩
      refine hh_take 7 (some 41) (.pointer (some ⟨g, k * 3, none⟩)) rfl rfl (by kernel_rfl) (by kernel_rfl) (by kernel_rfl) (fun _ _ _ h => h) rfl (fun W _ => ex_index 43 (.tmp 37) (.tmp 38) rfl _ _ _ rfl rfl (run_index_und W g n n k hlt (by omega))) ⟨t1, t2⟩ ?_
      simp only [Act.put, List.setIfInBounds_toArray, List.set_cons_zero, List.set_cons_succ]
      refine hh_one 8 (by kernel_rfl) rfl rfl (fun K hK => wp_skipsh none rfl (ex_store 34 (.tmp 41) (.tmp 40) rfl _ _ rfl rfl t3) (hK _ _ ⟨t4, t5⟩ ?_))
      clear hK K
      simp only [Act.put]
      refine wpAnyH_done (by kernel_rfl) ?_ _
      have HN := Lib.hid (And.intro t6 t7)
      generalize w2.setCells g (k * 3) (cellsUV (x, .slice va x.bytes.length vc)) = w3 at *
      generalize qs.set k (x, .slice va x.bytes.length vc) = qz at *
      have HQZ : Hid (qz.length = n) := Lib.hid (by have h1 := congrArg List.length HN.out.2; rw [List.length_map, List.length_append, List.length_take, List.length_replicate, HBN.out] at h1; omega)
      clear hql hwb
      clear t1 t2 t3 t4 t5 t6 t7 hr2 hb2 HPUT HRS HRV HC
      go_wp2
      go_roundw
      case rel => exact ⟨k + 1, qz, by go_num, by omega, HQZ.out, HN⟩
      case measure => simp [intOf]; omega
    · have hkn : k = n := by omega
      have hlt' : ¬ (k : Int) < (n : Int) := by omega
      have HE : Hid (ForkR w b (.returned (.pointer (some ⟨s, 0, none⟩))) wr) := Lib.hid (by
        obtain ⟨hI, hM⟩ := hH.out
        refine ⟨s, _, qs, rfl, ⟨?_, hI.us, ?_, hI.ne, hI.sb⟩, hI.bel⟩
        · exact hI.row
        · rw [hM, hkn, Nat.sub_self, List.replicate_zero, List.append_nil, List.take_of_length_le (by rw [HBN.out]; exact Nat.le_refl _)])
      clear hH HH HBL
      go_wp2
      go_ret
      exact HE.out
set_option maxHeartbeats 4000000 in
set_option maxRecDepth 100000 in
theorem rfork_any (N q c : Nat) (w : World) (r : Bg) (av tv : Value) (us : List UV) (ts : List Bool) (h : RK N w q r c av us tv ts) :
    Calls Try.prog 18 #[.pointer (some ⟨q, 0, none⟩)] w fun e w' => e = .returned (.pointer (some ⟨w.heap.size, 0, none⟩)) ∧ RK N w' w.heap.size r c av us tv ts ∧ Below w.heap.size w w' := by
  obtain ⟨aa, ac, rfl, _⟩ := owns_shape h.rb.all.own
  obtain ⟨ta, tc, rfl, _⟩ := owns_shape h.rb.tr
  obtain ⟨W, hW⟩ : ∃ W, w.alloc (.cells #[.int .i64 (r.most : Int), .slice aa us.length ac, .slice ta ts.length tc, .int .i64 (r.lost : Int)] 62) = W := ⟨_, rfl⟩
  have hb : Below w.heap.size w W := by rw [← hW]; exact (Below.refl _ w).alloc (Nat.le_refl _) _
  have hr : W.heap[w.heap.size]? = some (.cells #[.int .i64 (r.most : Int), .slice aa us.length ac, .slice ta ts.length tc, .int .i64 (r.lost : Int)] 62 (0, 0)) := by rw [← hW]; exact heap_alloc_new w _
  have h1 := h.below hb
  have HE : Hid (RK N W w.heap.size r c (.slice aa us.length ac) us (.slice ta ts.length tc) ts ∧ Below w.heap.size w W) := Lib.hid ⟨⟨⟨hr, h1.rb.all, h1.rb.tr, h.rb.len, fun g hg => by have := h.rb.all.lt g hg; omega, fun g hg => by have := (World.ownsRow.lt h.rb.tr g hg).2; omega, by have := h.rb.base; have := h.rb.lt; omega⟩, h.cur, h.low, h.cnt⟩, hb⟩
  have HR := Lib.hid h.rb.row
  have HW := Lib.hid hW
  have HI : Hid ((Try.prog.info? 62).map (·.size) = some (#[.int .i64 (r.most : Int), .slice aa us.length ac, .slice ta ts.length tc, .int .i64 (r.lost : Int)] : Array Value).size) := Lib.hid (by show _ = some 4; kernel_rfl)
  clear h hb hr h1 hW
  go_enter Try.func18, Try.ntmps18
  go_wp2_with (first
    | rw [HW.out]
    | (refine wpList_load_row rfl 62 _ rfl q rfl 62 _ (0, 0) _ HR.out Try.underlying62 rfl HI.out ?_))
  go_ret
  exact ⟨rfl, HE.out⟩
end Go.Proofs.Ytdcpdeiljabkaaa
