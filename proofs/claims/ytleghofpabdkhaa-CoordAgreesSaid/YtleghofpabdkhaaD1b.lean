/- Laws of a walk on values of many cells: alloc, store into the newest block. No program. -/
import Derived.Test.YtleghofpabdkhaaD1
import Derived.Deep.WholeRow
namespace Go.Proofs.Ytleghofpabdkhaa
open Go Go.RowKit
section
variable {P : Program}
theorem run_alloc_row (w : World) (t : TypeId) (Z : Array Value) (hz : (zeroValue t).run P w = .ok (.agg Z) w) : (Instr.alloc t true (.tuple #[])).run P w = .ok (.pointer (some ⟨w.heap.size, 0, none⟩)) (w.alloc (.cells Z t)) := by
  unfold Instr.alloc
  rw [Sem.run_bind, hz]
  rfl
theorem wpList_alloc_row {ops : Array Oper} {rest : List Oper} {o : Oper} {a : Act} {w : World} {Q : Exit → Act → World → Prop} (hg : o.guard = none) (t : TypeId) (ho : o.op = .alloc t) (Z : Array Value) (hz : (zeroValue t).run P w = .ok (.agg Z) w)
    (h : wpList P ops Q rest (a.put o.dst (.pointer (some ⟨w.heap.size, 0, none⟩))) (w.alloc (.cells Z t))) : wpList P ops Q (o :: rest) a w :=
  wpList_plain hg fun K hK => by
    unfold Oper.wp execOp
    simp only [ho, Sem.run_bind, run_alloc_row w t Z hz, Result.andThen_ok]
    exact hK _ _ h
/-- A load that is known. -/
theorem wpList_load_known {ops : Array Oper} {rest : List Oper} {o : Oper} {a : Act} {w : World} {Q : Exit → Act → World → Prop} (hg : o.guard = none) (t : TypeId) (x : Operand) (ho : o.op = .load t x) (p v : Value) (hx : a.eval x = p)
    (hr : (Instr.loadAt t p).run P w = .ok v w) (h : wpList P ops Q rest (a.put o.dst v) w) : wpList P ops Q (o :: rest) a w :=
  wpList_plain hg fun K hK => by
    unfold Oper.wp execOp
    simp only [ho, hx, Sem.run_bind, hr, Result.andThen_ok]
    exact hK _ _ h
/-- A store into the block that was made last. -/
theorem wpList_store_new {ops : Array Oper} {rest : List Oper} {o : Oper} {a : Act} {w0 : World} {Q : Exit → Act → World → Prop} (hg : o.guard = none) (t : TypeId) (x y : Operand) (ho : o.op = .store t x y) (Z C : Array Value)
    (hx : a.eval x = .pointer (some ⟨w0.heap.size, 0, none⟩)) (hy : a.eval y = .agg C) (hi : (P.info? t).map (·.size) = some C.size) (hs : Z.size = C.size) (h1 : C.all (·.oneCell') = true)
    (h : wpList P ops Q rest (a.put o.dst undef) (w0.alloc (.cells C t))) : wpList P ops Q (o :: rest) a (w0.alloc (.cells Z t)) :=
  wpList_plain hg fun K hK => by
    refine wp_store_row t x y ho w0.heap.size C hx hy t Z (heap_alloc_last w0 _) hi hs h1 ?_
    rw [World.setRow_alloc_new]
    exact hK _ _ h
theorem wpList_build_row {ops : Array Oper} {rest : List Oper} {o : Oper} {a : Act} {w : World} {Q : Exit → Act → World → Prop} (hg : o.guard = none) (t : TypeId) (parts : Array (Nat × Operand)) (ho : o.op = .build t parts) (ps : List (Nat × Value)) (hp : (parts.toList.map fun (i, x) => (i, a.eval x)) = ps) (C : Array Value)
    (hf : P.built t ps = some C)
    (h : wpList P ops Q rest (a.put o.dst (.agg C)) w) : wpList P ops Q (o :: rest) a w := by
  have he : P.built t (parts.map fun (i, x) => (i, a.eval x)).toList = some C := by rw [Array.toList_map, hp]; exact hf
  exact wpList_build hg t parts ho (by rw [he]; rfl) (by rw [he]; exact h)
end
end Go.Proofs.Ytleghofpabdkhaa
