/- Place: slices.AppendSeq at seats: a round. -/
import Derived.Test.YtbmdhhafmieapaaH16
import Derived.RangeFuncNested
import Derived.RangeFuncBound
import Derived.RangeFuncCalls
import Derived.Shelf.RegionOpen
import Derived.Deep.WholeRow
import Derived.Laws.Rows
namespace Go.Proofs.Ytbmdhhafmieapaa
open Go Go.RowKit Go.Maps Go.Sort Go.Shelf Go.Proofs
attribute [local go_sem] Oper.semAt_some

def apAssign : Code := (Code.region 2 #[{ dst := some 5, op := Op.alloc 35, type := 0, pos := "iter.go:51", after := #[], guard := none }, { dst := none, op := Op.store 35 (Operand.tmp 5) (Operand.tmp 7), type := 0, pos := "iter.go:51", after := #[{ on := 0, ground := Ground.data }, { on := 0, ground := Ground.phase }], guard := none }] false)
def apBody : Code := (Code.block 1 (Code.region 3 #[{ dst := some 8, op := Op.load 29 (Operand.tmp 2), type := 29, pos := "iter.go:52", after := #[], guard := none }, { dst := some 9, op := Op.load 35 (Operand.tmp 5), type := 35, pos := "iter.go:52", after := #[], guard := none }, { dst := some 10, op := Op.buildSlice 29 1 #[(0, Operand.tmp 9)], type := 29, pos := "iter.go:52", after := #[{ on := 1, ground := Ground.data }], guard := none }, { dst := some 11, op := Op.call { callee := Callee.builtin Builtin.append, args := #[Operand.tmp 8, Operand.tmp 10], argTypes := #[29, 29] }, type := 29, pos := "iter.go:52", after := #[{ on := 0, ground := Ground.data }, { on := 2, ground := Ground.data }], guard := none }, { dst := none, op := Op.store 29 (Operand.tmp 2) (Operand.tmp 11), type := 0, pos := "iter.go:52", after := #[{ on := 3, ground := Ground.data }, { on := 3, ground := Ground.chain }, { on := 0, ground := Ground.phase }, { on := 1, ground := Ground.phase }, { on := 2, ground := Ground.phase }, { on := 3, ground := Ground.phase }], guard := none }] false))
/-- The loop's record, as AppendSeq's temporaries stood when it was entered. -/
def apRec (fn : FuncId) (sv : Value) (Bs D : Nat) (st : LoopState) (pend : Option Code) : Loop :=
  { state := st, pending := pend, fn, tmps := #[.slice none 0 0, sv, .pointer (some ⟨Bs, 0, none⟩), undef, .slice none 0 0, undef, sv, undef, undef, undef, undef, undef, undef], params := #[7], assign := apAssign, body := apBody, defers := D }
/-- Between two rounds: the box holds a slice of the call's own with what has come. -/
structure ApAt (w0 : World) (fn : FuncId) (sv : Value) (Bs l D : Nat) (ss : List Known) (W : World) : Prop where
  box : ∃ v, W.heap[Bs]? = some (.cells #[v] 29 (0, 0)) ∧ Mine w0.heap.size W v ss
  L : W.heap[l]? = some (.loop (apRec fn sv Bs D .ready none))
  K : W.heap[D]? = some (.deferred (some []))
  below : Below w0.heap.size w0 W
theorem mine_abides {W W' : World} {row : Option Nat} {base : Nat} {v : Value} {ss : List Known} (h : Mine base W v ss) (hg : W.grownBy W' row) (hrow : ∀ r, row = some r → ∃ o : Obj, W.heap[r]? = some o ∧ o.isWalk = true) : Mine base W' v ss := by
  refine World.ownsRow.kept h hg ?_
  rcases h.2 with ⟨rfl, _⟩ | ⟨g, cap, cur, rfl, _, hgb, _⟩
  · exact .inl rfl
  · refine .inr fun e' => ?_
    obtain ⟨o, ho, hw⟩ := hrow g (by simpa [Value.ownBlock] using e'.symm)
    rw [hgb] at ho; cases ho; cases hw
theorem ap_abides (w0 : World) (fn : FuncId) (sv : Value) (Bs l D B : Nat) (hB : w0.heap.size ≤ B) : AbidesFrom B (ApAt w0 fn sv Bs l D) := fun s W W' row h hg hrow => by
  have hrow' : ∀ r, row = some r → ∃ o : Obj, W.heap[r]? = some o ∧ o.isWalk = true := fun r e => (hrow r e).2
  obtain ⟨v, hv, hr⟩ := h.box
  exact ⟨⟨v, (grownBy_keeps hg hrow' hv rfl).trans hv, mine_abides hr hg hrow'⟩, (grownBy_keeps hg hrow' h.L rfl).trans h.L, (grownBy_keeps hg hrow' h.K rfl).trans h.K, h.below.grown hg h.below.size (fun k e => Nat.le_trans hB (hrow k e).1)⟩
theorem grown_putObj (W : World) (l : Nat) (o : Obj) : W.grownBy (W.putObj l o) (some l) := ⟨rfl, rfl, rfl, by simp, fun k _ hk => World.putObj_heap_other (fun e => hk (by rw [e]))⟩
theorem grown_setCell0 (W : World) (b : Nat) (v : Value) : W.grownBy (W.setCell ⟨b, 0, none⟩ v) (some b) := ⟨rfl, rfl, rfl, (KeepsWalks.setCell W _ v).size, fun k _ hk => Below.heap_setCell _ _ _ k (fun e => hk (by rw [e]))⟩
/-- A slice's own row is no block of something else. -/
theorem mine_ne {W : World} {base : Nat} {v : Value} {ss : List Known} (h : Mine base W v ss) {j : Nat} {o : Obj} (hj : W.heap[j]? = some o) (hno : ∀ cur, o ≠ .cells cur 35 (0, 0)) : v.ownBlock = none ∨ v.ownBlock ≠ some j := by
  rcases h.2 with ⟨rfl, _⟩ | ⟨g, cap, cur, rfl, _, hgb, _⟩
  · exact .inl rfl
  · refine .inr fun e' => ?_
    have : g = j := by simpa [Value.ownBlock] using e'
    subst this; rw [hgb] at hj; cases hj; exact hno cur rfl
theorem cell_of_box {W : World} {B : Nat} {v : Value} {t : TypeId} (h : W.heap[B]? = some (.cells #[v] t (0, 0))) : W.cell? ⟨B, 0, none⟩ = some v ∧ W.frozen? ⟨B, 0, none⟩ = false := by
  constructor <;> simp [World.cell?, World.frozen?, h]
theorem setCell_box {W : World} {B : Nat} {v : Value} {t : TypeId} (v' : Value) (h : W.heap[B]? = some (.cells #[v] t (0, 0))) : (W.setCell ⟨B, 0, none⟩ v').heap[B]? = some (.cells #[v'] t (0, 0)) := by
  obtain ⟨hlt, hk⟩ := Array.getElem?_eq_some_iff.1 h
  show (W.heap.modify B _)[B]? = _
  rw [Array.getElem?_eq_getElem (by rw [Array.size_modify]; exact hlt), Array.getElem_modify_self, hk]
  rfl
theorem mine_walk {W : World} {base : Nat} {v : Value} {ss : List Known} (h : Mine base W v ss) : ∀ (j : Nat) (o : Obj), v.ownBlock = some j → W.heap[j]? = some o → o.isWalk = false := by
  intro j o hj ho
  rcases h.2 with ⟨rfl, _⟩ | ⟨g, cap, cur, rfl, _, hgb, _⟩
  · simp [Value.ownBlock] at hj
  · have : g = j := by simpa [Value.ownBlock] using hj
    subst this; rw [hgb] at ho; cases ho; rfl
theorem not_box {v : Value} : ∀ cur, (Obj.cells #[v] 29 (0, 0)) ≠ .cells cur 35 (0, 0) := fun cur e => by
  have := (Obj.cells.inj e).2.1
  revert this
  decide

theorem wpListIn_append_run {F : Fence} {n : Nat} {P : Program} (w : World) {ops : Array Oper} {rest : List Oper} {o : Oper} {a : Act} {Q : Exit → Act → World → Prop} (hgd : o.guard = none) (s x : Operand) (T U : TypeId)
    (ho : o.op = .call { callee := .builtin .append, args := #[s, x], argTypes := #[T, U] }) (v xv : Value) (hs : a.eval s = v) (hx : a.eval x = xv) (v' : Value) (w' : World)
    (hr : ∀ ty, (Builtin.append_ #[T, U] ty #[v, xv]).run P w = .ok v' w') (h : wpListIn F n P ops Q rest (a.put o.dst v') w') : wpListIn F n P ops Q (o :: rest) a w := by
  refine wpListIn_plain hgd fun K hK' => ?_
  unfold Oper.wpIn
  refine ⟨by simp [Oper.about, ho, resolve, Target.leads, Sem.run_pure], ?_⟩
  rw [Oper.semAt_plain F _ _ (by rw [ho]; intro c hc'; cases hc')]
  simp [execOp, ho, resolve, invoke, builtin, hs, hx, hr, Result.andThen]
  exact hK' _ _ h

set_option maxRecDepth 100000 in
set_option maxHeartbeats 4000000 in
theorem ap_yield (F : Fence) (m : Nat) (w0 : World) (fn : FuncId) (hfn : F.fn fn) (sv : Value) (Bs l D : Nat) (hBl : Bs ≠ l) (hDl : D ≠ l) (hDB : D ≠ Bs) (h0B : w0.heap.size ≤ Bs) (h0l : w0.heap.size ≤ l)
    (N : Nat) (hN : N ≤ 100000) (ss : List Known) (x : Known) (W : World) (h : ApAt w0 fn sv Bs l D ss W) (hlen : ss.length < N) :
    YieldAt F m Try.prog l #[seatV x] W fun e W' => e = .returned (.bool true) ∧ ApAt w0 fn sv Bs l D (ss ++ [x]) W' ∧ KeepsWalks W W' := by
  obtain ⟨i0, hi, hz0, hz1, hz2⟩ := info_parts infoS
  obtain ⟨v, hv, hrow⟩ := h.box
  refine ⟨fn, #[.slice none 0 0, sv, .pointer (some ⟨Bs, 0, none⟩), undef, .slice none 0 0, undef, sv, seatV x, undef, undef, undef, undef, undef], apAssign, apBody, by simpa [apRec] using run_yield (P := Try.prog) (args := #[seatV x]) h.L rfl, roundIn_of_wpIn hfn ?_⟩
  -- the loop's variable in a block of its own
  have hal : Below W.heap.size W (W.alloc (.cells #[.string ⟨x.1.toArray⟩, .int .i64 x.2.1, .int .i64 x.2.2] 35)) := (Below.refl _ W).alloc (Nat.le_refl _) _
  have hkA : KeepsWalks W (W.alloc (.cells #[.string ⟨x.1.toArray⟩, .int .i64 x.2.1, .int .i64 x.2.2] 35)) := KeepsWalks.alloc _ _
  have hgA := grown_alloc W (.cells #[.string ⟨x.1.toArray⟩, .int .i64 x.2.1, .int .i64 x.2.2] 35)
  have hblk : (W.alloc (.cells #[.string ⟨x.1.toArray⟩, .int .i64 x.2.1, .int .i64 x.2.2] 35)).heap[W.heap.size]? = some (.cells #[.string ⟨x.1.toArray⟩, .int .i64 x.2.1, .int .i64 x.2.2] 35) := heap_alloc_last W _
  obtain ⟨WA, hWA⟩ : ∃ WA, W.alloc (.cells #[.string ⟨x.1.toArray⟩, .int .i64 x.2.1, .int .i64 x.2.2] 35) = WA := ⟨_, rfl⟩
  have hsA : WA.heap.size = W.heap.size + 1 := by rw [← hWA]; simp
  rw [hWA] at hal hkA hgA hblk
  have lt2 : ∀ {j : Nat} {o : Obj}, W.heap[j]? = some o → j < W.heap.size := fun h => (Array.getElem?_eq_some_iff.1 h).1
  have hvA := (hal.block Bs (lt2 hv)).trans hv
  have hKA := (hal.block D (lt2 h.K)).trans h.K
  have hLA := (hal.block l (lt2 h.L)).trans h.L
  have hrowA : Mine w0.heap.size WA v ss := mine_abides hrow hgA (fun r e => by cases e)
  have hbA : Below w0.heap.size w0 WA := h.below.trans (hal.mono h.below.size)
  have hl : l < WA.heap.size := (Array.getElem?_eq_some_iff.1 hLA).1
  have hxl : W.heap.size ≠ l := by have := lt2 h.L; omega
  have hbr := run_beginRound (P := Try.prog) hLA rfl
  obtain ⟨W2, hW2⟩ : ∃ W2, WA.putObj l (.loop { apRec fn sv Bs D .ready none with state := .busy }) = W2 := ⟨_, rfl⟩
  rw [hW2] at hbr
  have hg2 : WA.grownBy W2 (some l) := by rw [← hW2]; exact grown_putObj _ _ _
  have hk2 : KeepsWalks WA W2 := by rw [← hW2]; exact KeepsWalks.putObj _ hLA rfl
  have hv2 : W2.heap[Bs]? = some (.cells #[v] 29 (0, 0)) := by rw [← hW2]; exact (World.putObj_heap_other hBl).trans hvA
  have hK2 : W2.heap[D]? = some (.deferred (some [])) := by rw [← hW2]; exact (World.putObj_heap_other hDl).trans hKA
  have hL2 : W2.heap[l]? = some (.loop { apRec fn sv Bs D .ready none with state := .busy }) := by rw [← hW2]; exact World.putObj_heap_same hl
  have hx2 : W2.heap[W.heap.size]? = some (.cells #[.string ⟨x.1.toArray⟩, .int .i64 x.2.1, .int .i64 x.2.2] 35) := by rw [← hW2]; exact (World.putObj_heap_other hxl).trans hblk
  have hrow2 : Mine w0.heap.size W2 v ss := World.ownsRow.kept hrowA hg2 (mine_ne hrowA hLA (fun cur e => by cases e))
  have hb2 : Below w0.heap.size w0 W2 := hbA.grown hg2 hbA.size (fun k e => by cases e; exact h0l)
  obtain ⟨hc2, hf2⟩ := cell_of_box hv2
  have x0 : W2.cell? ⟨W.heap.size, 0, none⟩ = some (.string ⟨x.1.toArray⟩) := by rw [cell_of_row _ _ _ _ _ _ hx2]; rfl
  have x1 : W2.cell? ⟨W.heap.size, 1, none⟩ = some (.int .i64 x.2.1) := by rw [cell_of_row _ _ _ _ _ _ hx2]; rfl
  have x2 : W2.cell? ⟨W.heap.size, 2, none⟩ = some (.int .i64 x.2.2) := by rw [cell_of_row _ _ _ _ _ _ hx2]; rfl
  clear hW2
  -- the append
  have hgB := grown_alloc W2 (.cells #[.string ⟨x.1.toArray⟩, .int .i64 x.2.1, .int .i64 x.2.2] 35)
  have hrowB : Mine w0.heap.size (W2.alloc (.cells #[.string ⟨x.1.toArray⟩, .int .i64 x.2.1, .int .i64 x.2.2] 35)) v ss := mine_abides hrow2 hgB (fun r e => by cases e)
  have hRd : Reads (W2.alloc (.cells #[.string ⟨x.1.toArray⟩, .int .i64 x.2.1, .int .i64 x.2.2] 35)) (.slice (some ⟨W2.heap.size, 0, none⟩) 1 1) [x] := Or.inr ⟨⟨W2.heap.size, 0, none⟩, 1, rfl, fun j u hu => by
    rw [addr_plus, Nat.zero_add, cell_of_row _ _ _ _ _ _ (heap_alloc_last W2 _)]
    simpa [cellsL, cells3] using hu⟩
  obtain ⟨v', w3, hrun, hown', hg3⟩ := app3 _ hrowB hRd (by have := hb2.size; simp; omega) (by simp; omega)
  obtain ⟨g', cap', rfl⟩ : ∃ g' cap', v' = .slice (some ⟨g', 0, none⟩) (ss.length + 1) cap' := by
    rcases hown'.2 with ⟨_, h0⟩ | ⟨g', cap', cur', e, _⟩
    · rw [List.length_append] at h0; simp at h0
    · exact ⟨g', cap', by rw [e, List.length_append]; rfl⟩
  have ne_of : ∀ {j : Nat} {o : Obj}, W2.heap[j]? = some o → (∀ cur, o ≠ .cells cur 35 (0, 0)) → some j ≠ v.ownBlock := fun hj hno => by
    rcases mine_ne hrow2 hj hno with e | e
    · rw [e]; simp
    · exact fun e' => e e'.symm
  have lt2' : ∀ {j : Nat} {o : Obj}, W2.heap[j]? = some o → j < W2.heap.size := fun h => (Array.getElem?_eq_some_iff.1 h).1
  have hv3 : w3.heap[Bs]? = some (.cells #[v] 29 (0, 0)) := (hg3.block Bs (by have := lt2' hv2; simp; omega) (ne_of hv2 not_box)).trans ((Below.heap_alloc _ _ Bs (lt2' hv2)).trans hv2)
  have hL3 : w3.heap[l]? = some (.loop { apRec fn sv Bs D .ready none with state := .busy }) := (hg3.block l (by have := lt2' hL2; simp; omega) (ne_of hL2 (fun cur e => by cases e))).trans ((Below.heap_alloc _ _ l (lt2' hL2)).trans hL2)
  have hK3 : w3.heap[D]? = some (.deferred (some [])) := (hg3.block D (by have := lt2' hK2; simp; omega) (ne_of hK2 (fun cur e => by cases e))).trans ((Below.heap_alloc _ _ D (lt2' hK2)).trans hK2)
  obtain ⟨hc3, hf3⟩ := cell_of_box hv3
  obtain ⟨w4, hw4⟩ : ∃ w4, w3.setCell ⟨Bs, 0, none⟩ (.slice (some ⟨g', 0, none⟩) (ss.length + 1) cap') = w4 := ⟨_, rfl⟩
  have hg4 : w3.grownBy w4 (some Bs) := by rw [← hw4]; exact grown_setCell0 _ _ _
  have hv4 : w4.heap[Bs]? = some (.cells #[.slice (some ⟨g', 0, none⟩) (ss.length + 1) cap'] 29 (0, 0)) := by rw [← hw4]; exact setCell_box _ hv3
  have hL4 : w4.heap[l]? = some (.loop { apRec fn sv Bs D .ready none with state := .busy }) := (hg4.block l (Array.getElem?_eq_some_iff.1 hL3).1 (fun e => hBl (by cases e; rfl))).trans hL3
  have hK4 : w4.heap[D]? = some (.deferred (some [])) := (hg4.block D (Array.getElem?_eq_some_iff.1 hK3).1 (fun e => hDB (by cases e; rfl))).trans hK3
  have hrow4 : Mine w0.heap.size w4 (.slice (some ⟨g', 0, none⟩) (ss.length + 1) cap') (ss ++ [x]) := World.ownsRow.kept hown' hg4 (mine_ne hown' hv3 not_box)
  have hb3 : Below w0.heap.size w0 w3 := (hb2.alloc hb2.size _).grown hg3 (by have := hb2.size; simp; omega) (fun k e => (World.ownsRow.lt hrow2 k e).1)
  have hb4 : Below w0.heap.size w0 w4 := hb3.grown hg4 hb3.size (fun k e => by cases e; exact h0B)
  have hk4 : KeepsWalks W w4 := (((hkA.trans hk2).trans (KeepsWalks.alloc _ _)).trans (KeepsWalks.of_grownBy hg3 (mine_walk hrowB))).trans (by rw [← hw4]; exact KeepsWalks.setCell _ _ _)
  have RUN := Lib.hid hrun
  have R4 := Lib.hid hrow4
  have B4 := Lib.hid hb4
  have K4 := Lib.hid hk4
  have V4 := Lib.hid hv4
  have D4 := Lib.hid hK4
  have L4 := Lib.hid hL4
  clear hrun hrow4 hb4 hk4 hb3 hown' hg3 hg4 hRd hrowB hgB hrow2 hrow hrowA hb2 hbA hg2 hk2 hkA hgA hal hblk hx2 hv2 hK2 hL2 hvA hKA hLA hv3 hL3 hK3 hv hsA ne_of lt2 lt2' hv4 hK4 hL4
  unfold apAssign
  unfold seatV
  gi_wp2
  unfold apBody
  gi_wp2_with (gi_at_builtin; refine wpListIn_append_run _ rfl _ _ 29 29 rfl _ _ rfl rfl _ w3 RUN.out ?_)
  try rw [hw4]
  have hl4 : l < w4.heap.size := (Array.getElem?_eq_some_iff.1 L4.out).1
  refine ⟨_, _, run_endRound none L4.out, rfl, ⟨⟨_, (World.putObj_heap_other hBl).trans V4.out, ?_⟩, World.putObj_heap_same hl4, (World.putObj_heap_other hDl).trans D4.out, B4.out.grown (grown_putObj _ _ _) B4.out.size (fun k e => by cases e; exact h0l)⟩, K4.out.trans (KeepsWalks.putObj _ L4.out rfl)⟩
  exact World.ownsRow.kept R4.out (grown_putObj w4 l _) (mine_ne R4.out L4.out (fun cur e => by cases e))
end Go.Proofs.Ytbmdhhafmieapaa
