/- Bag: copied, has, New, Len, Lost, remove. -/
import Derived.Test.YtdcpdeiljabkaaaN2
import Derived.Laws.MakeOwn
namespace Go.Proofs.Ytdcpdeiljabkaaa
open Go Go.RowKit

theorem wpList_copy_known {P : Program} {ops : Array Oper} {rest : List Oper} {o : Oper} {a : Act} {w : World} {Q : Exit → Act → World → Prop} (hgd : o.guard = none) (s x : Operand) (T U : TypeId)
    (ho : o.op = .call { callee := .builtin .copy, args := #[s, x], argTypes := #[T, U] }) (v xv : Value) (hs : a.eval s = v) (hx : a.eval x = xv) (v' : Value) (w' : World)
    (hr : ∀ ty, (Builtin.copy_ #[T, U] ty #[v, xv]).run P w = .ok v' w') (h : wpList P ops Q rest (a.put o.dst v') w') : wpList P ops Q (o :: rest) a w :=
  wpList_plain hgd fun K hK => by
    unfold Oper.wp execOp
    simp only [ho, resolve, invoke, builtin, Sem.run_bind, Sem.run_pure, Result.andThen_ok, List.map_toArray, List.map_cons, List.map_nil, hs, hx, hr]
    exact hK _ _ h
theorem over_all (m : Nat) (l : List UInt8) (h : l.length = m) : over ((List.replicate m (0 : UInt8)).map fun b => Value.int .u8 (b.toNat : Int)) 0 (pgC l) = pgC l := by
  unfold over
  rw [List.take_zero, List.nil_append, Nat.zero_add, pgC_len, List.drop_of_length_le (by simp; omega), List.append_nil]
/-- What copied tells: the message, with bytes of its own. -/
def CopR (w : World) (x : Und) (e : Ending) (w' : World) : Prop := ∃ a c, e = .returned (.agg #[.int .i64 x.src, .int .i64 x.dst, .slice a x.bytes.length c]) ∧ Row w.heap.size w' (.slice a x.bytes.length c) x.bytes ∧ Below w.heap.size w w'
set_option maxHeartbeats 4000000 in
set_option maxRecDepth 100000 in
theorem copied_any (w : World) (x : Und) (pv : Value) (hz : Byz w pv x.bytes) (hl : x.bytes.length ≤ 1000000000) :
    Calls Try.prog 24 #[.agg #[.int .i64 x.src, .int .i64 x.dst, pv]] w (CopR w x) := by
  obtain ⟨src, dst, bs⟩ := x
  obtain ⟨ba, bc, rfl⟩ := hz.1
  dsimp only at hz hl ⊢
  obtain ⟨wa, hwa⟩ : ∃ wa, (w.alloc (.cells #[.int .i64 src, .int .i64 dst, .slice ba bs.length bc] 34)).alloc (.cells #[.int .i64 0, .int .i64 0, .slice none 0 0] 34) = wa := ⟨_, rfl⟩
  have hba : Below w.heap.size w wa := by rw [← hwa]; exact ((Below.refl _ w).alloc (Nat.le_refl _) _).alloc (by simp) _
  have r0 : wa.heap[w.heap.size]? = some (.cells #[.int .i64 src, .int .i64 dst, .slice ba bs.length bc] 34 (0, 0)) := by rw [← hwa]; exact heap_alloc2_old w _ _
  have r1 : wa.heap[w.heap.size + 1]? = some (.cells #[.int .i64 0, .int .i64 0, .slice none 0 0] 34 (0, 0)) := by rw [← hwa]; exact heap_alloc2_new w _ _
  have hsz : wa.heap.size = w.heap.size + 2 := by rw [← hwa]; simp
  obtain ⟨i0, hi0, hz0, hz1, hz2⟩ := info_parts (show (Try.prog.info? 5).map (fun i => (i.zero, i.size, i.bytes)) = some (some (.int .u8 0), 1, 1) by kernel_rfl)
  obtain ⟨n, hn⟩ : ∃ n, bs.length = n := ⟨_, rfl⟩
  have hmk : (Instr.makeSlice 32 (.int .i64 (n : Int)) (.int .i64 (n : Int))).run Try.prog wa = .ok (.slice (some ⟨wa.heap.size, 0, none⟩) n n) (wa.alloc (.cells (madeCells (Value.int .u8 0).cells n) 5)) := by
    have := run_make (P := Try.prog) wa 32 5 i0 _ Try.underlying32 hi0 hz0 .i64 .i64 (n : Int) (n : Int) (by omega) (Int.le_refl _) (by rw [hz2]; omega) (by omega)
    rwa [hz1, Nat.mul_one, Int.toNat_natCast] at this
  have hcp := fun ty => run_copy_new (P := Try.prog) wa 32 5 ty Try.underlying32 (by kernel_rfl) ((List.replicate n (0 : UInt8)).map fun b => Value.int .u8 (b.toNat : Int)) 5 0 n n _ bs (hz.below hba) (by omega) (by simp; omega)
  rw [over_all n bs hn, ← made_list n] at hcp
  simp only [Array.toArray_toList] at hcp
  obtain ⟨W1, hW1⟩ : ∃ W1, wa.alloc (.cells (madeCells (Value.int .u8 0).cells n) 5) = W1 := ⟨_, rfl⟩
  obtain ⟨W2, hW2⟩ : ∃ W2, wa.alloc (.cells (pgC bs).toArray 5) = W2 := ⟨_, rfl⟩
  rw [hW1] at hmk
  rw [hW1, hW2] at hcp
  have hr2 : Row w.heap.size W2 (.slice (some ⟨wa.heap.size, 0, none⟩) n n) bs := by
    rw [← hW2, ← hn]
    exact Row.made wa 5 bs _ (by simp [pgC]) (by omega) (by unfold maxLen; omega)
  have hb2 : Below wa.heap.size wa W2 := by rw [← hW2]; exact (Below.refl _ wa).alloc (Nat.le_refl _) _
  have hb1 : Below wa.heap.size wa W1 := by rw [← hW1]; exact (Below.refl _ wa).alloc (Nat.le_refl _) _
  have r01 := below_row r0 hb1 (by omega)
  have r02 := below_row r0 hb2 (by omega)
  have r12 := below_row r1 hb2 (by omega)
  have c2a : wa.cell? ⟨w.heap.size, 2, none⟩ = some (.slice ba n bc) := by rw [← hn]; exact cell_of_row _ _ _ _ _ _ r0
  have c2b : W1.cell? ⟨w.heap.size, 2, none⟩ = some (.slice ba n bc) := by rw [← hn]; exact cell_of_row _ _ _ _ _ _ r01
  have c2c : W2.cell? ⟨w.heap.size, 2, none⟩ = some (.slice ba n bc) := by rw [← hn]; exact cell_of_row _ _ _ _ _ _ r02
  have f2c := frozen_of_row W2 w.heap.size 2 _ _ r02
  obtain ⟨W3, hW3⟩ : ∃ W3, W2.setCell ⟨w.heap.size, 2, none⟩ (.slice (some ⟨wa.heap.size, 0, none⟩) n n) = W3 := ⟨_, rfl⟩
  have r03 : W3.heap[w.heap.size]? = some (.cells #[.int .i64 src, .int .i64 dst, .slice (some ⟨wa.heap.size, 0, none⟩) n n] 34 (0, 0)) := by rw [← hW3]; exact heap_setCell_same W2 w.heap.size 2 _ _ _ r02
  have r13 : W3.heap[w.heap.size + 1]? = some (.cells #[.int .i64 0, .int .i64 0, .slice none 0 0] 34 (0, 0)) := by rw [← hW3]; exact (heap_setCell_other W2 ⟨w.heap.size, 2, none⟩ (w.heap.size + 1) _ (by simp)).trans r12
  obtain ⟨W4, hW4⟩ : ∃ W4, W3.setRow (w.heap.size + 1) #[.int .i64 src, .int .i64 dst, .slice (some ⟨wa.heap.size, 0, none⟩) n n] = W4 := ⟨_, rfl⟩
  have r14 : W4.heap[w.heap.size + 1]? = some (.cells #[.int .i64 src, .int .i64 dst, .slice (some ⟨wa.heap.size, 0, none⟩) n n] 34 (0, 0)) := by rw [← hW4]; exact setRow_heap _ _ _ _ _ _ r13
  have hf34 : Fr (fun k => k = w.heap.size ∨ k = w.heap.size + 1) W2 W4 := by
    have h3 : Fr (fun k => k = w.heap.size ∨ k = w.heap.size + 1) W2 W3 := by rw [← hW3]; exact (Fr.refl _ W2).setCell ⟨w.heap.size, 2, none⟩ (Or.inl (Or.inl rfl)) _
    rw [← hW4]
    exact ⟨h3.os, h3.tape, h3.output, by rw [setRow_size]; exact h3.size, fun k hk hn => (setRow_other _ _ _ _ (fun e => hn (Or.inr e))).trans (h3.block k hk hn)⟩
  have HEND : Hid (CopR w ⟨src, dst, bs⟩ (.returned (.agg #[.int .i64 src, .int .i64 dst, .slice (some ⟨wa.heap.size, 0, none⟩) n n])) W4) := Lib.hid (by
    refine ⟨_, n, by rw [← hn], ?_, (hba.trans (hb2.mono (by omega))).trans (hf34.below (by have := hb2.size; omega) (fun k e => by omega))⟩
    have := hr2.kept hf34.size (fun g hg => hf34.block g (hr2.1.lt g hg) (fun e => by simp [Value.ownBlock] at hg; omega))
    rw [← hn] at this ⊢
    exact this)
  obtain ⟨NN, hNN⟩ : ∃ NN, wa.heap.size = NN := ⟨_, rfl⟩
  have hmk2 : ∀ W, W = wa → (Instr.makeSlice 32 (.int .i64 (n : Int)) (.int .i64 (n : Int))).run Try.prog W = .ok (.slice (some ⟨NN, 0, none⟩) n n) W1 := fun W e => by rw [e, ← hNN]; exact hmk
  have hmk3 := hmk2 _ hwa
  rw [hn] at hmk3
  rw [hn, hNN] at hcp
  have HW3 := Lib.hid hW3
  have HW4 := Lib.hid hW4
  have HR3 := Lib.hid r03
  have HR13 := Lib.hid r13
  have HR4 := Lib.hid r14
  have HI3 : ∀ cs : Array Value, cs.size = 3 → Hid ((Try.prog.info? 34).map (·.size) = some cs.size) := fun cs h => Lib.hid (by rw [h]; kernel_rfl)
  have HZ1 := HI3 #[.int .i64 src, .int .i64 dst, .slice (some ⟨wa.heap.size, 0, none⟩) n n] rfl
  have HZ2 : Hid ((#[.int .i64 src, .int .i64 dst, .slice (some ⟨wa.heap.size, 0, none⟩) n n] : Array Value).all (·.oneCell') = true) := Lib.hid (by rw [Array.all_eq_true_iff_forall_mem]; intro u hu; simp only [List.mem_toArray, List.mem_cons, List.not_mem_nil, or_false] at hu; rcases hu with rfl | rfl | rfl <;> rfl)
  rw [hNN] at HEND HW3 HR3 HW4 HR4 HZ1 HZ2
  rw [hn]
  clear hmk2 hNN c2a hz hba r0 r1 hi0 hz0 hz1 hz2 hW1 hW2 hr2 hb2 hb1 r01 r02 r12 hW3 r03 r13 hW4 r14 hf34 hwa hn hsz hmk
  go_enter Try.func24, Try.ntmps24
  go_wp2_with (first
    | rw [HW3.out]
    | (refine wpList_load_row rfl 34 _ rfl w.heap.size rfl 34 _ (0, 0) _ HR3.out Try.underlying34 rfl HZ1.out ?_)
    | (refine wpList_store_row rfl 34 _ _ rfl (w.heap.size + 1) _ rfl rfl 34 _ HR13.out HZ1.out rfl HZ2.out ?_; rw [HW4.out]))
  exact bodyPost_ret (v := .agg #[.int .i64 src, .int .i64 dst, .slice (some ⟨NN, 0, none⟩) n n]) (results_cell_row rfl _ _ (w.heap.size + 1) 34 _ (0, 0) _ rfl HR4.out Try.underlying34 rfl (by kernel_rfl)) rfl HEND.out

/-- A bag, in plain words. -/
structure Bg where
  most : Nat
  lost : Nat
  us : List Und
def Und.bad (x : Und) : Bool := !(decide (0 ≤ x.src) && decide (x.src < 8) && decide (0 ≤ x.dst) && decide (x.dst < 8) && decide (1 ≤ x.bytes.length) && decide (x.bytes.length ≤ 2006))
def Bg.add (b : Bg) (x : Und) : Int × Bg := if x.bad = true then (2, b) else if b.most ≤ b.us.length then (8, { b with lost := b.lost + 1 }) else (0, { b with us := b.us ++ [x] })
def Bg.cut (b : Bg) (k : Nat) : Bg := { b with us := b.us.eraseIdx k }
/-- The bag b lies in block p; its messages in sv. -/
structure BagAt (B : Nat) (w : World) (p : Nat) (b : Bg) (sv : Value) (ps : List UV) : Prop where
  row : w.heap[p]? = some (.cells #[.int .i64 (b.most : Int), .int .i64 (b.lost : Int), sv] 56 (0, 0))
  us : UsAt B w sv ps
  eq : ps.map (·.1) = b.us
  ne : ∀ g, HasU sv ps g → g ≠ p
  base : B ≤ p
theorem BagAt.lt {B p : Nat} {w : World} {b : Bg} {sv : Value} {ps : List UV} (h : BagAt B w p b sv ps) : p < w.heap.size := (Array.getElem?_eq_some_iff.1 h.row).1
theorem BagAt.len {B p : Nat} {w : World} {b : Bg} {sv : Value} {ps : List UV} (h : BagAt B w p b sv ps) : ps.length = b.us.length := by rw [← h.eq, List.length_map]
theorem BagAt.cells {B p : Nat} {w : World} {b : Bg} {sv : Value} {ps : List UV} (h : BagAt B w p b sv ps) : w.cell? ⟨p, 0, none⟩ = some (.int .i64 (b.most : Int)) ∧ w.cell? ⟨p, 1, none⟩ = some (.int .i64 (b.lost : Int)) ∧ w.cell? ⟨p, 2, none⟩ = some sv ∧ w.frozen? ⟨p, 1, none⟩ = false ∧ w.frozen? ⟨p, 2, none⟩ = false :=
  ⟨cell_of_row _ _ _ _ _ _ h.row, cell_of_row _ _ _ _ _ _ h.row, cell_of_row _ _ _ _ _ _ h.row, frozen_of_row _ _ _ _ _ h.row, frozen_of_row _ _ _ _ _ h.row⟩
theorem BagAt.kept {B p : Nat} {w w' : World} {b : Bg} {sv : Value} {ps : List UV} (h : BagAt B w p b sv ps) (hs : w.heap.size ≤ w'.heap.size) (hk : ∀ g, g = p ∨ HasU sv ps g → w'.heap[g]? = w.heap[g]?) : BagAt B w' p b sv ps :=
  ⟨(hk p (Or.inl rfl)).trans h.row, h.us.kept hs (fun g hg => hk g (Or.inr hg)), h.eq, h.ne, h.base⟩
theorem BagAt.below {B p : Nat} {w w' : World} {b : Bg} {sv : Value} {ps : List UV} (h : BagAt B w p b sv ps) (hb : Below w.heap.size w w') : BagAt B w' p b sv ps :=
  h.kept hb.size (fun g hg => hb.block g (by rcases hg with rfl | hg; exact h.lt; exact (h.us.has g hg).2))
/-- What an operation on the bag does: it is b' behind it; it writes to its own blocks alone; what it lies in then it lay in, or is new. -/
def OpR (B : Nat) (w : World) (p : Nat) (sv : Value) (ps : List UV) (b' : Bg) (w' : World) : Prop :=
  ∃ sv' ps', BagAt B w' p b' sv' ps' ∧ Fr (fun k => k = p ∨ sv.ownBlock = some k) w w' ∧ ∀ g, HasU sv' ps' g → HasU sv ps g ∨ w.heap.size ≤ g
/-- The same, and nothing new is in it. -/
def OpS (B : Nat) (w : World) (p : Nat) (sv : Value) (ps : List UV) (b' : Bg) (w' : World) : Prop :=
  ∃ sv' ps', BagAt B w' p b' sv' ps' ∧ Fr (fun k => k = p ∨ sv.ownBlock = some k) w w' ∧ ∀ g, HasU sv' ps' g → HasU sv ps g
theorem OpS.op {B p : Nat} {w w' : World} {b : Bg} {sv : Value} {ps : List UV} (h : OpS B w p sv ps b w') : OpR B w p sv ps b w' := by
  obtain ⟨sv', ps', h1, h2, h3⟩ := h
  exact ⟨sv', ps', h1, h2, fun g hg => Or.inl (h3 g hg)⟩
theorem OpS.same {B p : Nat} {w w' : World} {b : Bg} {sv : Value} {ps : List UV} (h : BagAt B w p b sv ps) (hb : Below w.heap.size w w') : OpS B w p sv ps b w' :=
  ⟨sv, ps, h.below hb, Fr.of_below _ hb, fun g hg => hg⟩
/-- Ahead of it, and behind it, other blocks are made and written to. -/
theorem OpS.lift {B p N : Nat} {w wx wy w' : World} {b b' : Bg} {sv : Value} {ps : List UV} (h0 : BagAt B w p b sv ps) (hb : Below w.heap.size w wx) (h : OpS B wx p sv ps b' wy) (hf : Fr (fun k => N ≤ k) wy w') (hN : w.heap.size ≤ N) : OpS B w p sv ps b' w' := by
  obtain ⟨sv', ps', h1, h2, h3⟩ := h
  have hlt : ∀ g, g = p ∨ HasU sv' ps' g → g < w.heap.size := fun g hg => by
    rcases hg with rfl | hg
    · exact h0.lt
    · exact (h0.us.has g (h3 g hg)).2
  refine ⟨sv', ps', h1.kept hf.size (fun g hg => hf.block g (by have := hlt g hg; have := hb.size; have := h2.size; omega) (by have := hlt g hg; omega)), ?_, h3⟩
  exact ((Fr.of_below (fun k => k = p ∨ sv.ownBlock = some k) hb).trans h2 (fun _ _ h => h) (fun _ _ h => h)).trans hf (fun _ _ h => h) (fun k hk e => by omega)
theorem OpR.same {B p : Nat} {w w' : World} {b : Bg} {sv : Value} {ps : List UV} (h : BagAt B w p b sv ps) (hb : Below w.heap.size w w') : OpR B w p sv ps b w' :=
  ⟨sv, ps, h.below hb, Fr.of_below _ hb, fun g hg => Or.inl hg⟩
set_option maxRecDepth 100000 in
theorem len_any (B p : Nat) (w : World) (b : Bg) (sv : Value) (ps : List UV) (h : BagAt B w p b sv ps) :
    Calls Try.prog 13 #[.pointer (some ⟨p, 0, none⟩)] w fun e w' => e = .returned (.int .i64 (b.us.length : Int)) ∧ w = w' := by
  obtain ⟨c0, c1, c2, _, _⟩ := h.cells
  obtain ⟨a, c, rfl, _⟩ := h.us.len_le
  rw [h.len] at c2
  clear h
  go_enter Try.func13, Try.ntmps13
  go_wp2
  go_ret
  exact ⟨rfl, rfl⟩
set_option maxRecDepth 100000 in
theorem lost_any (B p : Nat) (w : World) (b : Bg) (sv : Value) (ps : List UV) (h : BagAt B w p b sv ps) :
    Calls Try.prog 14 #[.pointer (some ⟨p, 0, none⟩)] w fun e w' => e = .returned (.int .i64 (b.lost : Int)) ∧ w = w' := by
  obtain ⟨c0, c1, c2, _, _⟩ := h.cells
  clear h
  go_enter Try.func14, Try.ntmps14
  go_wp2
  go_ret
  exact ⟨rfl, rfl⟩
def Bg.has (b : Bg) (i : Int) : Bool := decide (0 ≤ i) && decide (i < (b.us.length : Int))
theorem ret_bool {a b : Bool} (h : a = b) : Ending.returned (.bool a) = .returned (.bool b) := by rw [h]
set_option maxRecDepth 100000 in
theorem has_any (B p : Nat) (w : World) (b : Bg) (sv : Value) (ps : List UV) (i : Int) (h : BagAt B w p b sv ps) :
    Calls Try.prog 25 #[.pointer (some ⟨p, 0, none⟩), .int .i64 i] w fun e w' => e = .returned (.bool (b.has i)) ∧ w = w' := by
  obtain ⟨c0, c1, c2, _, _⟩ := h.cells
  obtain ⟨a, c, rfl, _⟩ := h.us.len_le
  rw [h.len] at c2
  clear h
  unfold Bg.has
  by_cases h0 : 0 ≤ i
  · go_enter Try.func25, Try.ntmps25
    go_wp2
    go_ret
    exact ⟨ret_bool (by simp [h0]), rfl⟩
  · go_enter Try.func25, Try.ntmps25
    go_wp2
    go_ret
    exact ⟨ret_bool (by simp; omega), rfl⟩
theorem HasU.sub {v v' : Value} {ps ps' : List UV} (hv : v'.ownBlock = v.ownBlock) (hp : ∀ p ∈ ps', p ∈ ps) : ∀ g, HasU v' ps' g → HasU v ps g := fun g hg => by
  rcases hg with hg | ⟨p, hm, hg⟩
  · exact Or.inl (hv ▸ hg)
  · exact Or.inr ⟨p, hp p hm, hg⟩
theorem map_erase (f : UV → Und) : ∀ (l : List UV) (i : Nat), (l.eraseIdx i).map f = (l.map f).eraseIdx i
  | [], _ => rfl
  | _ :: _, 0 => rfl
  | x :: t, i + 1 => by simp [map_erase f t i]
set_option maxHeartbeats 4000000 in
set_option maxRecDepth 100000 in
theorem remove_any (B p : Nat) (w : World) (b : Bg) (sv : Value) (ps : List UV) (i : Nat) (h : BagAt B w p b sv ps) (hi : i < b.us.length) (hn : b.us.length ≤ 1000) :
    Calls Try.prog 26 #[.pointer (some ⟨p, 0, none⟩), .int .i64 (i : Int)] w fun e w' => e = .returned (.tuple #[]) ∧ OpS B w p sv ps (b.cut i) w' := by
  obtain ⟨c0, c1, c2, f1, f2⟩ := h.cells
  have hlen := h.len
  obtain ⟨m, hm⟩ : ∃ m, ps.length = m + 1 := ⟨ps.length - 1, by omega⟩
  obtain ⟨a, c, e, _⟩ := h.us.len_le
  have ho := h.us.own
  rcases ho.2 with ⟨_, h0⟩ | ⟨g, cap, cur, e2, hbg, hg, _⟩
  · omega
  rw [e] at e2
  injection e2 with ea _ ec
  subst ea ec
  subst e
  rw [hm] at c2
  have hus := h.us
  rw [hm] at hus
  have HC := Lib.hid (delete_any B g c m ps i w hus hm (by omega) (by omega))
  have hgp : g ≠ p := h.ne g (Or.inl rfl)
  have hplt := h.lt
  have HFIN : Hid (∀ w1, DelR B w g m c ps i (.returned (.slice (some ⟨g, 0, none⟩) m c)) w1 → w1.cell? ⟨p, 2, none⟩ = some (.slice (some ⟨g, 0, none⟩) (m + 1) c) ∧ w1.frozen? ⟨p, 2, none⟩ = false ∧ OpS B w p (.slice (some ⟨g, 0, none⟩) ps.length c) ps (b.cut i) (w1.setCell ⟨p, 2, none⟩ (.slice (some ⟨g, 0, none⟩) m c))) := Lib.hid (fun w1 hd => by
    obtain ⟨_, hus1, hf⟩ := hd
    have hrow := (hf.block p hplt (fun e => hgp e.symm)).trans h.row
    rw [hm] at hrow
    refine ⟨cell_of_row _ _ _ _ _ _ hrow, frozen_of_row _ _ _ _ _ hrow, .slice (some ⟨g, 0, none⟩) m c, ps.eraseIdx i, ⟨?_, ?_, ?_, ?_, h.base⟩, ?_, ?_⟩
    · exact heap_setCell_same w1 p 2 _ _ _ hrow
    · have hfp : Fr (· = p) w1 (w1.setCell ⟨p, 2, none⟩ (.slice (some ⟨g, 0, none⟩) m c)) := (Fr.refl (· = p) w1).setCell ⟨p, 2, none⟩ (Or.inl rfl) _
      refine hus1.kept hfp.size (fun gg hgg => hfp.block gg (hus1.has gg hgg).2 (h.ne gg ?_))
      exact HasU.sub (v := .slice (some ⟨g, 0, none⟩) ps.length c) rfl (fun q hq => List.mem_of_mem_eraseIdx hq) gg hgg
    · rw [map_erase, h.eq]; rfl
    · intro gg hgg
      exact h.ne gg (HasU.sub (v := .slice (some ⟨g, 0, none⟩) ps.length c) rfl (fun q hq => List.mem_of_mem_eraseIdx hq) gg hgg)
    · exact (hf.mono (o' := fun k => k = p ∨ (Value.slice (some ⟨g, 0, none⟩) ps.length c).ownBlock = some k) (fun k _ e => Or.inr (by rw [e]; rfl))).setCell ⟨p, 2, none⟩ (Or.inl (Or.inl rfl)) _
    · exact fun gg hgg => (HasU.sub (v := .slice (some ⟨g, 0, none⟩) ps.length c) rfl (fun q hq => List.mem_of_mem_eraseIdx hq) gg hgg))
  have hin : i < 1000 := by omega
  clear h hus ho hbg hg hgp hplt hlen
  go_enter Try.func26, Try.ntmps26
  go_wp2_with fail
  refine HC.out.mono ?_
  rintro e w1 hd
  have he := hd.1
  subst he
  obtain ⟨k2, k3, hop⟩ := HFIN.out w1 hd
  have HOP := Lib.hid hop
  clear hop hd HFIN HC c0 c1 c2 f1 f2
  go_wp2
  exact bodyPost_end (results_none rfl _ _ _) rfl ⟨rfl, HOP.out⟩
end Go.Proofs.Ytdcpdeiljabkaaa
