/- Bag: calls as an argument, opened with the bound of their integers. -/
import Derived.Test.YtdcpdeiljabkaaaNO
import Derived.Test.YtdcpdeiljabkaaaRows
import Derived.ProofKit
import Derived.OpenShut
import Derived.SizedLaws
import Derived.Deep.DeepHandedRow
import Derived.Deep.Strs
import Derived.Deep.Slices
import Derived.Lib.SmallJoins
import Derived.ChangeArms
namespace Go.Proofs.Ytdcpdeiljabkaaa
open Go.ChangeShapes Go.WideShapes Go.ChangeAt Go.RowKit Go.Deep Go.Joins

theorem call_of2 {H : Type} {enc : TypeId × Value → H} {W : World} {cs : List Value} {n : Nat} {x : DataW H × List MemPlace} (h : DataW.trod enc Try.prog W 0 (fun _ => true) true n 36 cs = some x) :
    ∃ (d : Cl) (bv : Value), cs = clS d bv ∧ Byz W bv d.x.bytes ∧ d.x.bytes.length ≤ 9223372036854775807 ∧ d.i ≤ 9223372036854775807 := by
  obtain ⟨y0, y1, y2, y3, m, _, hl, t0, t1, t2, t3⟩ := trod_struct4 Try.underlying36 h
  rw [cellsCall] at hl
  match cs, hl with
  | [c0, c1, c2, c3, c4, c5], _ =>
    simp only [cells3', cells4', cellsUnder, List.drop_zero, List.drop_succ_cons, List.take_succ_cons, List.take_zero] at t0 t1 t2 t3
    obtain ⟨a0, e0, _, _⟩ := DataW.trod_int Try.underlying3 t0
    obtain ⟨u, bv, e1, hb, hbl⟩ := under_of t1
    obtain ⟨a2, e2, _, wf2⟩ := DataW.trod_int Try.underlying3 t2
    obtain ⟨a3, e3, _⟩ := DataW.trod_bool Try.underlying4 t3
    simp only [List.cons.injEq, and_true] at e0 e1 e2 e3
    obtain ⟨e1, e4, e5⟩ := e1
    subst e0 e1 e2 e3 e4 e5
    exact ⟨⟨a0, u, a2, a3⟩, _, rfl, hb, hbl, by first | exact (int_of wf2).2 | exact (int_of (by assumption)).2⟩
/-- An argument of calls, opened. -/
theorem open_calls2 {H : Type} {enc : TypeId × Value → H} {W : World} {base : Nat} {v : Value} {d : DataW H} {p : List MemPlace}
    (hval : Value.okWide Try.prog W .any base 22 v) (h0 : DataW.Trod enc Try.prog W 0 (fun _ => true) true 22 v d p) {Q : Prop} (_ : Q) : ∃ l, Cls W v l ∧ ∀ d ∈ l, d.i ≤ 9223372036854775807 := by
  obtain ⟨a0, len0, cap0, rfl⟩ := okWide_slice Try.underlying22 hval
  obtain ⟨fuel, hf⟩ := h0
  rcases open_slice Try.underlying22 hf with ⟨hcs, _⟩ | ⟨a, len, cap, m, n, D, Pl, hcs, _, hl, hm, hmm, _, hx⟩
  · simp [Value.cells] at hcs
    obtain ⟨rfl, rfl, rfl⟩ := hcs
    exact ⟨[], ⟨none, 0, rfl, by simp, fun j d h => by simp at h⟩, fun d hd => by cases hd⟩
  · simp [Value.cells] at hcs
    obtain ⟨rfl, rfl, rfl⟩ := hcs
    simp only [if_true] at hmm
    subst hmm
    rw [cellsCall] at hx
    obtain ⟨l, hll, hp⟩ := choose_list (p := fun j (d : Cl) => ∃ g off bv, some a = some (⟨g, off, none⟩ : Addr) ∧ (g < W.heap.size ∧ d.i ≤ 9223372036854775807) ∧ ClAt W g (off + j * 6) d bv) len0 (fun j hj => by
      obtain ⟨cs', h1, h2⟩ := hx j (by omega)
      obtain ⟨d, bv, rfl, q1, q2, q3⟩ := call_of2 h2
      obtain ⟨_, hlen, hcell⟩ := World.cells?_some h1
      have hc0 := hcell 0 (by decide)
      rw [show (a.add (j * 6)).add 0 = a.add (j * 6) by unfold Addr.add; simp] at hc0
      have hs := cell_spot hc0
      obtain ⟨g, off, sp⟩ := a
      have hsp : sp = none := by
        obtain ⟨cs0, g1, g2⟩ := hx 0 (by omega)
        obtain ⟨d0, bv0, rfl, _⟩ := call_of2 g2
        obtain ⟨_, _, hcell0⟩ := World.cells?_some g1
        have hz := hcell0 0 (by decide)
        rw [show ((⟨g, off, sp⟩ : Addr).add (0 * 6)).add 0 = ⟨g, off, sp⟩ by unfold Addr.add; simp] at hz
        exact cell_spot hz
      subst hsp
      rw [addr_plus] at hcell hc0
      exact ⟨d, g, off, bv, rfl, ⟨World.block_lt_of_cell? W _ hc0, q3⟩, ⟨fun i u hu => by have := hcell i (by have := (List.getElem?_eq_some_iff.1 hu).1; simpa [clS] using this); rw [addr_plus, hu] at this; exact this, q1, q2⟩⟩)
    refine ⟨l, ⟨some a, _, by rw [hll], by rw [hll]; unfold maxLen at hm; omega, fun j d hj => ?_⟩, fun d hd => ?_⟩
    · obtain ⟨g, off, bv, e1, ⟨h1, _⟩, h2⟩ := hp j d hj
      exact ⟨g, off, bv, e1, h1, h2⟩
    · obtain ⟨j, hj⟩ := List.getElem?_of_mem hd
      obtain ⟨g, off, bv, e1, ⟨_, h1⟩, _⟩ := hp j d hj
      exact h1
end Go.Proofs.Ytdcpdeiljabkaaa
