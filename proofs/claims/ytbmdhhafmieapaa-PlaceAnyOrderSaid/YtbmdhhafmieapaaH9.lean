/- Slices of seats: what they read as, appends. -/
import Derived.Test.YtbmdhhafmieapaaH8
import Derived.Laws.OwnMore
import Derived.Laws.AppendOwn
namespace Go.Proofs.Ytbmdhhafmieapaa
open Go Go.RowKit Go.Maps

def cells3 (x : Known) : List Value := [.string ⟨x.1.toArray⟩, .int .i64 x.2.1, .int .i64 x.2.2]
def cellsL (l : List Known) : List Value := l.flatMap cells3
theorem cellsL_len (l : List Known) : (cellsL l).length = l.length * 3 := by
  induction l with
  | nil => rfl
  | cons x t ih =>
    show (cells3 x ++ cellsL t).length = _
    rw [List.length_append, ih, List.length_cons]
    show 3 + _ = _
    omega
theorem cellsL_app (l m : List Known) : cellsL (l ++ m) = cellsL l ++ cellsL m := List.flatMap_append ..
theorem cellsL_one (x : Known) : cellsL [x] = cells3 x := by show cells3 x ++ [] = _; rw [List.append_nil]
theorem cellsL_cell {l : List Known} : ∀ u ∈ cellsL l, u.oneCell' = true := by
  intro u hu
  obtain ⟨x, _, hx⟩ := List.mem_flatMap.mp hu
  unfold cells3 at hx
  simp only [List.mem_cons, List.not_mem_nil, or_false] at hx
  rcases hx with rfl | rfl | rfl <;> rfl
theorem cellsL_take : ∀ (l : List Known) (i : Nat), cellsL (l.take i) = (cellsL l).take (i * 3)
  | [], i => by simp [cellsL]
  | x :: t, 0 => by simp [cellsL]
  | x :: t, i + 1 => by
    rw [List.take_succ_cons]
    show cells3 x ++ cellsL (t.take i) = (cells3 x ++ cellsL t).take _
    rw [cellsL_take t i, Nat.succ_mul]
    rfl
theorem cellsL_drop : ∀ (l : List Known) (i : Nat), cellsL (l.drop i) = (cellsL l).drop (i * 3)
  | [], i => by simp [cellsL]
  | x :: t, 0 => by simp
  | x :: t, i + 1 => by
    rw [List.drop_succ_cons]
    show cellsL (t.drop i) = (cells3 x ++ cellsL t).drop _
    rw [cellsL_drop t i, Nat.succ_mul]
    rfl
theorem cellsL_at (l : List Known) (i : Nat) (x : Known) (h : l[i]? = some x) : (cellsL l)[i * 3]? = some (.string ⟨x.1.toArray⟩) ∧ (cellsL l)[i * 3 + 1]? = some (.int .i64 x.2.1) ∧ (cellsL l)[i * 3 + 2]? = some (.int .i64 x.2.2) := by
  obtain ⟨hi, rfl⟩ := List.getElem?_eq_some_iff.mp h
  have e : cellsL (l.drop i) = (cellsL l).drop (i * 3) := cellsL_drop l i
  rw [List.drop_eq_getElem_cons hi] at e
  have e : cells3 l[i] ++ cellsL (l.drop (i + 1)) = (cellsL l).drop (i * 3) := e
  have g : ∀ j, (cellsL l)[i * 3 + j]? = (cells3 l[i] ++ cellsL (l.drop (i + 1)))[j]? := by intro j; rw [e, List.getElem?_drop]
  exact ⟨g 0, g 1, g 2⟩

/-- The slice v reads as l. -/
def Reads (w : World) (v : Value) (l : List Known) : Prop := (v = .slice none 0 0 ∧ l = []) ∨ ∃ ad c, v = .slice (some ad) l.length c ∧ ∀ j u, (cellsL l)[j]? = some u → w.cell? (ad.add j) = some u
def Mine (B : Nat) (w : World) (v : Value) (l : List Known) : Prop := w.ownsRow B 35 3 v l.length (cellsL l)
theorem infoS : (Try.prog.info? 35).map (fun i => (i.zero, i.size, i.bytes)) = some (some (.agg #[.string ⟨#[]⟩, .int .i64 0, .int .i64 0]), 3, 32) := by kernel_rfl
theorem app_ty (ts : Array TypeId) (ty ty' : TypeId) (vs : Array Value) : Builtin.append_ ts ty vs = Builtin.append_ ts ty' vs := rfl
theorem app3 (w : World) {B : Nat} {v x : Value} {l p : List Known} (hv : Mine B w v l) (hx : Reads w x p) (hB : B ≤ w.heap.size) (hlen : l.length + p.length ≤ 1000000) :
    ∃ v' w', (∀ ty, (Builtin.append_ #[29, 29] ty #[v, x]).run Try.prog w = .ok v' w') ∧ Mine B w' v' (l ++ p) ∧ w.grownBy w' v.ownBlock := by
  cases hi : Try.prog.info? 35 with
  | none => have h := infoS; rw [hi] at h; cases h
  | some i =>
    have h := infoS
    rw [hi] at h
    injection h with h
    injection h with hz h
    injection h with hs hb
    rcases hx with ⟨rfl, rfl⟩ | ⟨ad, c, rfl, hc⟩
    · refine ⟨v, w, fun ty => run_append_owned_none (P := Try.prog) (w := w) B 29 ty 35 i 3 Try.underlying29 hi v l.length (cellsL l) hv, ?_, ⟨rfl, rfl, rfl, Nat.le_refl _, fun _ _ _ => rfl⟩⟩
      rw [List.append_nil]; exact hv
    · obtain ⟨v', w', hr, h2, h3, _⟩ := run_append_own (P := Try.prog) w B 29 0 35 i _ 3 32 Try.underlying29 hi hz hs hb rfl (by omega) v l.length (cellsL l) hv ad p.length c (cellsL p) (cellsL_len p) hc cellsL_cell (by unfold maxLen; omega) (by omega) hB
      refine ⟨v', w', fun ty => hr, ?_, h3⟩
      unfold Mine
      rw [List.length_append, cellsL_app]
      exact h2
end Go.Proofs.Ytbmdhhafmieapaa
