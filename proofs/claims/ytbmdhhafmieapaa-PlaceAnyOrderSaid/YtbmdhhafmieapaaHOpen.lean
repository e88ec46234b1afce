/- Place: seats as an argument, opened. -/
import Derived.Test.YtbmdhhafmieapaaH21
import Derived.Test.YtbmdhhafmieapaaRows
import Derived.ProofKit
import Derived.OpenShut
import Derived.SizedLaws
import Derived.ChangeMaps5
import Derived.Deep.DeepHandedRow
import Derived.Deep.Grids
import Derived.Deep.Strs
import Derived.Deep.Slices
import Derived.Lib.SmallJoins
namespace Go.Proofs.Ytbmdhhafmieapaa
open Go.ChangeShapes Go.WideShapes Go.ChangeAt Go.RowKit Go.Deep Go.Joins

theorem own : ownKnob Try.prog.godebug = none := by kernel_rfl
theorem laidOut : laidOutB Try.prog = true := by kernel_rfl
theorem byte_of {x : Int} (h : (Lit.int .u8 x).wf = true) : 0 ≤ x ∧ x < 256 := by
  have h1 : IntKind.u8.min = 0 := rfl
  have h2 : IntKind.u8.max = 255 := rfl
  simp only [Lit.wf, Bool.and_eq_true, decide_eq_true_eq] at h
  omega
theorem int_of {x : Int} (h : (Lit.int .i64 x).wf = true) : -9223372036854775808 ≤ x ∧ x ≤ 9223372036854775807 := by
  have h1 : IntKind.i64.min = -9223372036854775808 := rfl
  have h2 : IntKind.i64.max = 9223372036854775807 := rfl
  simp only [Lit.wf, Bool.and_eq_true, decide_eq_true_eq] at h
  omega
/-- A seat that may be asked about. -/
structure Sm (x : Known) : Prop where
  u : x.1.length ≤ 140737488351232
  s : -9223372036854775808 ≤ x.2.1 ∧ x.2.1 ≤ 9223372036854775807
  e : -9223372036854775808 ≤ x.2.2 ∧ x.2.2 ≤ 9223372036854775807
/-- A slice that was handed in. -/
def Given (W : World) (v : Value) (l : List Known) : Prop :=
  ∃ a cap, v = .slice a l.length cap ∧ l.length ≤ cap ∧ l.length ≤ 9223372036854775807 ∧ ∀ j x, l[j]? = some x → Sm x ∧ ∃ g off, a = some ⟨g, off, none⟩ ∧ g < W.heap.size ∧ ∀ i u, (cells3 x)[i]? = some u → W.cell? ⟨g, off + j * 3 + i, none⟩ = some u
theorem Given.below {W W' : World} {v : Value} {l : List Known} (h : Given W v l) (hb : Below W.heap.size W W') : Given W' v l := by
  obtain ⟨a, cap, h1, h2, h3, h4⟩ := h
  refine ⟨a, cap, h1, h2, h3, fun j x hj => ?_⟩
  obtain ⟨q0, g, off, q1, q2, q3⟩ := h4 j x hj
  exact ⟨q0, g, off, q1, Nat.lt_of_lt_of_le q2 hb.size, fun i u hu => (hb.cell (p := ⟨g, off + j * 3 + i, none⟩) q2).trans (q3 i u hu)⟩
/-- One of its seats, loaded. -/
theorem Given.load {W : World} {a : Option Addr} {n cap : Nat} {l : List Known} (h : Given W (.slice a n cap) l) (j : Nat) (x : Known) (hj : l[j]? = some x) : ∃ g off, a = some ⟨g, off, none⟩ ∧ g < W.heap.size ∧ ∀ W', Below W.heap.size W W' → (Instr.loadAt 35 (.pointer (some ⟨g, off + j * 3, none⟩))).run Try.prog W' = .ok (.agg #[.string ⟨x.1.toArray⟩, .int .i64 x.2.1, .int .i64 x.2.2]) W' := by
  obtain ⟨a', cap', he, _, _, h4⟩ := h
  cases he
  obtain ⟨_, g, off, q1, q2, q3⟩ := h4 j x hj
  exact ⟨g, off, q1, q2, fun W' hb => run_loadAt_mid W' g (off + j * 3) 35 (cells3 x) _ (fun i u hu => (hb.cell (p := ⟨g, off + j * 3 + i, none⟩) q2).trans (q3 i u hu)) Try.underlying35 rfl (by kernel_rfl)⟩
theorem cellsS : Try.prog.cellsOf 35 = 3 := by kernel_rfl
theorem cellsI : Try.prog.cellsOf 3 = 1 := by kernel_rfl
theorem cellsT : Try.prog.cellsOf 9 = 1 := by kernel_rfl
theorem wAll_mem {H : Type} {P : Program} {e : TypeId} : ∀ {l : List (DataW H)} {d : DataW H}, d ∈ l → ∀ n ∈ d.weights P e, n ∈ DataW.weightsAll P e l
  | d' :: r, d, hd, n, hn => by
    simp only [DataW.weightsAll, List.mem_append]
    rcases List.mem_cons.1 hd with rfl | h
    · exact Or.inl hn
    · exact Or.inr (wAll_mem h n hn)
theorem seat_read {H : Type} {enc : TypeId × Value → H} {W : World} {cs : List Value} {n : Nat} {x : DataW H × List MemPlace} (h : DataW.trod enc Try.prog W 0 (fun _ => true) true n 35 cs = some x) (hw : ∀ m ∈ x.1.weights Try.prog 35, m ≤ 140737488351232) :
    ∃ y : Known, cs = cells3 y ∧ Sm y := by
  obtain ⟨y0, y1, y2, m, hx, hl, t0, t1, t2⟩ := trod_struct3 Try.underlying35 h
  rw [cellsS] at hl
  match cs, hl with
  | [c0, c1, c2], _ =>
    simp only [cellsI, cellsT, List.drop_zero, List.drop_succ_cons, List.take_succ_cons, List.take_zero] at t0 t1 t2
    obtain ⟨s, e0, g0, _⟩ := DataW.trod_string Try.underlying9 t0
    obtain ⟨a1, e1, _, w1⟩ := DataW.trod_int Try.underlying3 t1
    obtain ⟨a2, e2, _, w2⟩ := DataW.trod_int Try.underlying3 t2
    simp only [List.cons.injEq, and_true] at e0 e1 e2
    subst e0 e1 e2
    refine ⟨(s.data.toList, a1, a2), by simp [cells3, Lib.mk_data], ?_, int_of w1, int_of w2⟩
    refine hw _ ?_
    rw [hx, g0]
    simp only [DataW.weights, Try.underlying35]
    exact DataW.weights_mem_each (j := 0) rfl rfl _ (by simp [DataW.weights])
theorem choose_list {α : Type} {p : Nat → α → Prop} : ∀ n, (∀ i, i < n → ∃ x, p i x) → ∃ l : List α, l.length = n ∧ ∀ i x, l[i]? = some x → p i x
  | 0, _ => ⟨[], rfl, fun i x h => by simp at h⟩
  | n + 1, h => by
    obtain ⟨l, hl, hp⟩ := choose_list n (fun i hi => h i (by omega))
    obtain ⟨y, hy⟩ := h n (by omega)
    refine ⟨l ++ [y], by simp [hl], fun i x hx => ?_⟩
    rw [List.getElem?_append] at hx
    split at hx
    · exact hp i x hx
    · have : i = n := by
        rw [List.getElem?_singleton] at hx
        split at hx
        · omega
        · cases hx
      subst this
      rw [hl, Nat.sub_self] at hx
      simp at hx
      rw [← hx]; exact hy
theorem open_seats {H : Type} {enc : TypeId × Value → H} {W : World} {base : Nat} {v : Value} {d : DataW H} {p : List MemPlace}
    (hval : Value.okWide Try.prog W .any base 29 v) (h0 : DataW.Trod enc Try.prog W 0 (fun _ => true) true 29 v d p) (hw : ∀ m ∈ d.weights Try.prog 29, m ≤ 140737488351232) : ∃ l, Given W v l := by
  obtain ⟨a0, len0, cap0, rfl⟩ := okWide_slice Try.underlying29 hval
  obtain ⟨fuel, hf⟩ := h0
  rcases open_slice Try.underlying29 hf with ⟨hcs, _⟩ | ⟨a, len, cap, m, n, D, Pl, hcs, _, hl, hm, hmm, hxd, hx⟩
  · simp [Value.cells] at hcs
    obtain ⟨rfl, rfl, rfl⟩ := hcs
    exact ⟨[], none, 0, rfl, by simp, by simp, fun j d h => by simp at h⟩
  · simp [Value.cells] at hcs
    obtain ⟨rfl, rfl, rfl⟩ := hcs
    simp only [if_true] at hmm
    subst hmm
    rw [cellsS] at hx
    have hd : d = .slice ((List.range len0).map D) ((List.range (m - len0)).map fun j => D (len0 + j)) := by simpa using congrArg Prod.fst hxd
    have hwj : ∀ j, j < len0 → ∀ q ∈ (D j).weights Try.prog 35, q ≤ 140737488351232 := fun j hj q hq => hw q (by
      rw [hd]
      simp only [DataW.weights, Try.underlying29, List.mem_cons, List.mem_append]
      exact Or.inr (Or.inl (wAll_mem (List.mem_map.2 ⟨j, List.mem_range.2 hj, rfl⟩) q hq)))
    obtain ⟨l, hll, hp⟩ := choose_list (p := fun j (x : Known) => Sm x ∧ ∃ g off, some a = some (⟨g, off, none⟩ : Addr) ∧ g < W.heap.size ∧ ∀ i u, (cells3 x)[i]? = some u → W.cell? ⟨g, off + j * 3 + i, none⟩ = some u) len0 (fun j hj => by
      obtain ⟨cs', h1, h2⟩ := hx j (by omega)
      obtain ⟨y, rfl, q2⟩ := seat_read h2 (hwj j hj)
      obtain ⟨_, hlen, hcell⟩ := World.cells?_some h1
      have hc0 := hcell 0 (by decide)
      rw [show (a.add (j * 3)).add 0 = a.add (j * 3) by unfold Addr.add; simp] at hc0
      obtain ⟨g, off, sp⟩ := a
      have hsp : sp = none := by
        obtain ⟨cs0, g1, g2⟩ := hx 0 (by omega)
        obtain ⟨d0, rfl, _⟩ := seat_read g2 (hwj 0 (by omega))
        obtain ⟨_, _, hcell0⟩ := World.cells?_some g1
        have hz := hcell0 0 (by decide)
        rw [show ((⟨g, off, sp⟩ : Addr).add (0 * 3)).add 0 = ⟨g, off, sp⟩ by unfold Addr.add; simp] at hz
        exact World.cell?_spot hz
      subst hsp
      rw [addr_plus] at hcell hc0
      exact ⟨y, q2, g, off, rfl, World.block_lt_of_cell? W _ hc0, fun i u hu => by have := hcell i (by have := (List.getElem?_eq_some_iff.1 hu).1; simpa [cells3] using this); rw [addr_plus, hu] at this; exact this⟩)
    exact ⟨l, some a, _, by rw [hll], by rw [hll]; exact hl, by rw [hll]; unfold maxLen at hm; omega, hp⟩
end Go.Proofs.Ytbmdhhafmieapaa
