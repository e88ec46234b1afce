/- The reference's list of seats as its own: cuts, New. -/
import Derived.Test.YtbmdhhafmieapaaH9
namespace Go.Proofs.Ytbmdhhafmieapaa
open Go Go.RowKit Go.Maps

theorem addr_plus (b o j : Nat) : (⟨b, o, none⟩ : Addr).add j = ⟨b, o + j, none⟩ := by unfold Addr.add; split <;> simp_all
theorem wp_append_run (w : World) {P : Program} {Q : Exit → Act → World → Prop} {o : Oper} {a : Act} {K : Act → World → Prop} (s x : Operand) (T U : TypeId)
    (ho : o.op = .call { callee := .builtin .append, args := #[s, x], argTypes := #[T, U] }) (v xv : Value) (hs : a.eval s = v) (hx : a.eval x = xv) (v' : Value) (w' : World)
    (hr : ∀ ty, (Builtin.append_ #[T, U] ty #[v, xv]).run P w = .ok v' w') (h : K (a.put o.dst v') w') : o.wp P a w K Q := by
  unfold Oper.wp execOp
  simp only [ho, resolve, invoke, builtin, Sem.run_bind, Sem.run_pure, Result.andThen_ok, List.map_toArray, List.map_cons, List.map_nil, hs, hx, hr]
  exact h
/-- An append whose run is known, in the walk. -/
theorem wpList_append_run (w : World) {P : Program} {ops : Array Oper} {rest : List Oper} {o : Oper} {a : Act} {Q : Exit → Act → World → Prop} (hgd : o.guard = none) (s x : Operand) (T U : TypeId)
    (ho : o.op = .call { callee := .builtin .append, args := #[s, x], argTypes := #[T, U] }) (v xv : Value) (hs : a.eval s = v) (hx : a.eval x = xv) (v' : Value) (w' : World)
    (hr : ∀ ty, (Builtin.append_ #[T, U] ty #[v, xv]).run P w = .ok v' w') (h : wpList P ops Q rest (a.put o.dst v') w') : wpList P ops Q (o :: rest) a w :=
  wpList_plain hgd fun _ hK => wp_append_run w s x T U ho v xv hs hx v' w' hr (hK _ _ h)
theorem szS : ∀ w, (sizeOf 35).run Try.prog w = .ok 3 w := fun w => by kernel_rfl

/-- The slice v is all of l, from its block's start. -/
def Full (w : World) (v : Value) (l : List Known) : Prop := (v = .slice none 0 0 ∧ l = []) ∨ ∃ g cap, v = .slice (some ⟨g, 0, none⟩) l.length cap ∧ l.length ≤ cap ∧ g < w.heap.size ∧ ∀ j u, (cellsL l)[j]? = some u → w.cell? ⟨g, j, none⟩ = some u
theorem Full.kept {w w' : World} {v : Value} {l : List Known} (h : Full w v l) (hz : w.heap.size ≤ w'.heap.size) (hb : ∀ k, v.ownBlock = some k → w'.heap[k]? = w.heap[k]?) : Full w' v l := by
  rcases h with h | ⟨g, cap, rfl, h2, h3, h4⟩
  · exact Or.inl h
  · exact Or.inr ⟨g, cap, rfl, h2, by omega, fun j u hu => (World.cell?_of_block (a := ⟨g, j, none⟩) (hb g rfl)).trans (h4 j u hu)⟩
theorem Mine.full {B : Nat} {w : World} {v : Value} {l : List Known} (h : Mine B w v l) : Full w v l := by
  rcases h.2 with ⟨hv, hn⟩ | ⟨g, cap, cur, hv, _, hg, hnc, _, _, _⟩
  · exact Or.inl ⟨hv, List.length_eq_zero_iff.mp hn⟩
  · refine Or.inr ⟨g, cap, hv, hnc, (Array.getElem?_eq_some_iff.1 hg).1, fun j u hu => ?_⟩
    have := World.ownsRow.cells h (g := g) (by rw [hv]; rfl) j u hu
    rw [addr_plus, Nat.zero_add] at this
    exact this
theorem cut_to {w0 : World} {v : Value} {l : List Known} (h0 : Full w0 v l) (i : Nat) (hi : i ≤ l.length) :
    ∃ x, (∀ w, (Instr.slice 29 v none (some (.int .i64 (i : Int))) none).run Try.prog w = .ok x w) ∧ ∀ w, Full w v l → Reads w x (l.take i) := by
  have ht' : Try.prog.underlying 29 = some (.slice (Try.prog.elem 29)) := by simp [Program.elem, Try.underlying29]
  have he : Try.prog.elem 29 = 35 := by simp [Program.elem, Try.underlying29]
  rcases h0 with ⟨rfl, rfl⟩ | ⟨g, cap, rfl, hcap, _, _⟩
  · have hi0 : i = 0 := by simpa using hi
    subst hi0
    refine ⟨.slice none 0 0, fun w => ?_, fun w _ => Or.inl ⟨rfl, rfl⟩⟩
    rw [run_slice_h w _ none 0 0 ht' .i64 _ (by omega) (by omega), he, szS]
    simp [Result.andThen, sliced]
  · refine ⟨.slice (some ⟨g, 0, none⟩) i cap, fun w => ?_, fun w hw => ?_⟩
    · rw [run_slice_h w _ _ _ cap ht' .i64 _ (by omega) (by omega), he, szS]
      simp [Result.andThen, sliced, addr_plus]
    · rcases hw with ⟨e, _⟩ | ⟨g', cap', e, _, _, hc⟩
      · cases e
      · cases e
        refine Or.inr ⟨⟨g, 0, none⟩, cap, by rw [List.length_take, Nat.min_eq_left hi], fun j u hu => ?_⟩
        rw [addr_plus, Nat.zero_add]
        rw [cellsL_take, List.getElem?_take] at hu
        split at hu
        · exact hc j u hu
        · cases hu
theorem cut_from {w0 : World} {v : Value} {l : List Known} (h0 : Full w0 v l) (i : Nat) (hi : i ≤ l.length) :
    ∃ x, (∀ w, (Instr.slice 29 v (some (.int .i64 (i : Int))) none none).run Try.prog w = .ok x w) ∧ ∀ w, Full w v l → Reads w x (l.drop i) := by
  have ht' : Try.prog.underlying 29 = some (.slice (Try.prog.elem 29)) := by simp [Program.elem, Try.underlying29]
  have he : Try.prog.elem 29 = 35 := by simp [Program.elem, Try.underlying29]
  rcases h0 with ⟨rfl, rfl⟩ | ⟨g, cap, rfl, hcap, _, _⟩
  · have hi0 : i = 0 := by simpa using hi
    subst hi0
    refine ⟨.slice none 0 0, fun w => ?_, fun w _ => Or.inl ⟨rfl, rfl⟩⟩
    rw [run_slice_l w _ none 0 0 ht' .i64 _ (by omega) (by omega), he, szS]
    simp [Result.andThen, sliced]
  · by_cases hic : i = cap
    · have hil : i = l.length := by omega
      refine ⟨.slice (some ⟨g, 0, none⟩) 0 0, fun w => ?_, fun w hw => Or.inr ⟨⟨g, 0, none⟩, 0, by rw [List.length_drop, hil, Nat.sub_self], fun j u hu => ?_⟩⟩
      · rw [run_slice_l w _ _ _ cap ht' .i64 _ (by omega) (by omega), he, szS]
        simp [Result.andThen, sliced]
        omega
      · rw [hil, List.drop_length] at hu
        cases hu
    · refine ⟨.slice (some ⟨g, i * 3, none⟩) (l.length - i) (cap - i), fun w => ?_, fun w hw => ?_⟩
      · rw [run_slice_l w _ _ _ cap ht' .i64 _ (by omega) (by omega), he, szS]
        simp [Result.andThen, sliced, addr_plus]
        omega
      · rcases hw with ⟨e, _⟩ | ⟨g', cap', e, _, _, hc⟩
        · cases e
        · cases e
          refine Or.inr ⟨⟨g, i * 3, none⟩, cap - i, by rw [List.length_drop], fun j u hu => ?_⟩
          rw [addr_plus]
          rw [cellsL_drop, List.getElem?_drop] at hu
          exact hc _ u hu

/-- The reference's map in block q: so many shards, and the list l. -/
structure RefOwn (w : World) (q : Nat) (n : Int) (v : Value) (l : List Known) : Prop where
  c0 : w.cell? ⟨q, 0, none⟩ = some (.int .i64 n)
  c1 : w.cell? ⟨q, 1, none⟩ = some v
  free : w.frozen? ⟨q, 1, none⟩ = false
  own : Mine 0 w v l
  apart : v.ownBlock ≠ some q
  nil : l = [] → v = .slice none 0 0
theorem RefOwn.full {w : World} {q : Nat} {n : Int} {v : Value} {l : List Known} (h : RefOwn w q n v l) : Full w v l := h.own.full
theorem RefOwn.lt {w : World} {q : Nat} {n : Int} {v : Value} {l : List Known} (h : RefOwn w q n v l) : q < w.heap.size := World.block_lt_of_cell? w _ h.c0
theorem RefOwn.map {w : World} {q : Nat} {n : Int} {v : Value} {l : List Known} (h : RefOwn w q n v l) : ∃ a cap g, v = .slice a l.length cap ∧ RefMap w q n a cap g l := by
  have c1 := h.c1
  rcases h.full with ⟨rfl, rfl⟩ | ⟨g, cap, rfl, _, _, hc⟩
  · exact ⟨none, 0, 0, rfl, h.c0, c1, fun e => absurd rfl e, fun i x hi => by simp at hi⟩
  · refine ⟨some ⟨g, 0, none⟩, cap, g, rfl, h.c0, c1, fun _ => rfl, fun i x hi => ?_⟩
    obtain ⟨a0, a1, a2⟩ := cellsL_at l i x hi
    exact ⟨hc _ _ a0, hc _ _ a1, hc _ _ a2⟩
theorem RefOwn.kept {w w' : World} {q : Nat} {n : Int} {v : Value} {l : List Known} (h : RefOwn w q n v l) {r : Option Nat} (hg : w.grownBy w' r) (hr : r ≠ some q) (hv : v.ownBlock = none ∨ v.ownBlock ≠ r) : RefOwn w' q n v l :=
  ⟨(World.cell?_of_block (a := ⟨q, 0, none⟩) (hg.block q h.lt hr.symm)).trans h.c0, (World.cell?_of_block (a := ⟨q, 1, none⟩) (hg.block q h.lt hr.symm)).trans h.c1, (World.frozen?_of_block (a := ⟨q, 1, none⟩) (hg.block q h.lt hr.symm)).trans h.free, World.ownsRow.kept h.own hg hv, h.apart, h.nil⟩

set_option maxHeartbeats 400000 in
theorem refNew (n : Int) (w : World) (hn : 1 ≤ n ∧ n ≤ 4) :
    Calls Try.prog 24 #[.int .i64 n] w fun e w' => e = .returned (.tuple #[.pointer (some ⟨w.heap.size, 0, none⟩), .int .i64 0]) ∧ w.grownBy w' none ∧ w'.heap.size = w.heap.size + 1 ∧ RefOwn w' w.heap.size n (.slice none 0 0) [] := by
  have h1 : ¬ n < 1 := by omega
  have h2 : ¬ 4 < n := by omega
  clear hn
  go_enter Try.func24, Try.ntmps24
  go_wp2
  exact bodyPost_ret (v := .tuple #[.pointer (some ⟨w.heap.size, 0, none⟩), .int .i64 0]) (by simp [results, Try.results24, go_sem]) rfl ⟨rfl, World.grownBy_alloc _ _ _, by simp, ⟨by simp, by simp, by simp, World.ownsRow_nil .., by simp [Value.ownBlock], fun _ => rfl⟩⟩
end Go.Proofs.Ytbmdhhafmieapaa
