/- Lines: deeds as an argument; play. -/
import Derived.Test.YtbhkchdkknainaaU13
import Derived.Test.YtbhkchdkknainaaOpen2
import Derived.Deep.Grids
import Derived.Deep.Strs
import Derived.Lib.SmallJoins
namespace Go.Proofs.Ytbhkchdkknainaa
open Go.ChangeShapes Go.WideShapes Go.ChangeAt Go.RowKit Go.Deep Go.Joins

structure Dd where
  do' : Int
  bytes : List UInt8
  n : Int
/-- One deed, at a place. -/
structure DeedAt (W : World) (g o : Nat) (d : Dd) (bv : Value) : Prop where
  r : ∀ i u, [Value.int .i64 d.do', bv, .int .i64 d.n][i]? = some u → W.cell? ⟨g, o + i, none⟩ = some u
  b : Rd W bv d.bytes
  s : d.bytes.length ≤ 140737488351232
def Deeds (W : World) (v : Value) (l : List Dd) : Prop :=
  ∃ a cap, v = .slice a l.length cap ∧ l.length ≤ 9223372036854775807 ∧ ∀ j d, l[j]? = some d → ∃ g off bv, a = some ⟨g, off, none⟩ ∧ g < W.heap.size ∧ DeedAt W g (off + j * 3) d bv
theorem Deeds.below {W W' : World} {v : Value} {l : List Dd} (h : Deeds W v l) (hb : Below W.heap.size W W') : Deeds W' v l := by
  obtain ⟨a, cap, h1, h2, h3⟩ := h
  refine ⟨a, cap, h1, h2, fun j d hj => ?_⟩
  obtain ⟨g, off, bv, q1, q2, q3⟩ := h3 j d hj
  exact ⟨g, off, bv, q1, Nat.lt_of_lt_of_le q2 hb.size, fun i u hu => (hb.cell (p := ⟨g, off + j * 3 + i, none⟩) q2).trans (q3.r i u hu), q3.b.below hb, q3.s⟩
theorem bytes5 : Try.prog.bytesOf 5 = 1 := by kernel_rfl
theorem cells48 : Try.prog.cellsOf 48 = 3 := by kernel_rfl
theorem cells3' : Try.prog.cellsOf 3 = 1 := by kernel_rfl
theorem wAll_mem {H : Type} {P : Program} {e : TypeId} : ∀ {l : List (DataW H)} {d : DataW H}, d ∈ l → ∀ n ∈ d.weights P e, n ∈ DataW.weightsAll P e l
  | d' :: r, d, hd, n, hn => by
    simp only [DataW.weightsAll, List.mem_append]
    rcases List.mem_cons.1 hd with rfl | h
    · exact Or.inl hn
    · exact Or.inr (wAll_mem h n hn)
theorem rd_small {H : Type} {enc : TypeId × Value → H} {W : World} {v : Value} {n : Nat} {x : DataW H × List MemPlace} {l : List UInt8} (h : DataW.trod enc Try.prog W 0 (fun _ => true) true n 31 [v] = some x) (hb : Rd W v l)
    (hw : ∀ m ∈ x.1.weights Try.prog 31, m ≤ 140737488351232) : l.length ≤ 140737488351232 := by
  obtain ⟨a', c', rfl, _⟩ := hb.shape
  rcases open_ints Try.underlying31 Try.underlying5 cells5 h with ⟨hcs, hx⟩ | ⟨a, len, cap, zs, hcs, _, hl, hm, hz, hx, _, _⟩
  · simp only [List.cons.injEq, and_true, Value.slice.injEq] at hcs
    omega
  · simp only [List.cons.injEq, and_true, Value.slice.injEq] at hcs
    obtain ⟨_, h2, _⟩ := hcs
    rw [hx] at hw
    have := hw ((lits .u8 (zs.take len)).length + (lits .u8 (zs.drop len)).length) (by
      simp only [DataW.weights, Try.underlying31, List.mem_cons]
      left
      rw [bytes5, Nat.mul_one])
    simp only [lits, List.length_map, List.length_take, List.length_drop] at this
    simp only [if_true] at hz
    omega
/-- One deed that was read. -/
theorem deed_of {H : Type} {enc : TypeId × Value → H} {W : World} {cs : List Value} {n : Nat} {x : DataW H × List MemPlace} (h : DataW.trod enc Try.prog W 0 (fun _ => true) true n 48 cs = some x) (hw : ∀ m ∈ x.1.weights Try.prog 48, m ≤ 140737488351232) :
    ∃ (d : Dd) (bv : Value), cs = [.int .i64 d.do', bv, .int .i64 d.n] ∧ Rd W bv d.bytes ∧ d.bytes.length ≤ 140737488351232 := by
  obtain ⟨y0, y1, y2, m, hx, hl, t0, t1, t2⟩ := trod_struct3 Try.underlying48 h
  rw [cells48] at hl
  match cs, hl with
  | [c0, c1, c2], _ =>
    simp only [cells3', cells31, List.drop_zero, List.drop_succ_cons, List.take_succ_cons, List.take_zero] at t0 t1 t2
    obtain ⟨a0, e0, _, _⟩ := DataW.trod_int Try.underlying3 t0
    obtain ⟨a2, e2, _, _⟩ := DataW.trod_int Try.underlying3 t2
    simp only [List.cons.injEq, and_true] at e0 e2
    subst e0 e2
    obtain ⟨l, hb, _⟩ := rd_of t1
    refine ⟨⟨a0, l, a2⟩, c1, rfl, hb, rd_small t1 hb (fun q hq => hw q ?_)⟩
    rw [hx]
    simp only [DataW.weights, Try.underlying48]
    exact DataW.weights_mem_each (j := 1) rfl rfl q hq
theorem choose_list {α : Type} {p : Nat → α → Prop} : ∀ n, (∀ i, i < n → ∃ x, p i x) → ∃ l : List α, l.length = n ∧ ∀ i x, l[i]? = some x → p i x
  | 0, _ => ⟨[], rfl, fun i x h => by simp at h⟩
  | n + 1, h => by
    obtain ⟨l, hl, hp⟩ := choose_list n (fun i hi => h i (by omega))
    obtain ⟨y, hy⟩ := h n (by omega)
    refine ⟨l ++ [y], by simp [hl], fun i x hx => ?_⟩
    rw [List.getElem?_append] at hx
    split at hx
    · exact hp i x hx
    · have : i = n := by
        rw [List.getElem?_singleton] at hx
        split at hx
        · omega
        · cases hx
      subst this
      rw [hl, Nat.sub_self] at hx
      simp at hx
      rw [← hx]; exact hy
/-- An argument of deeds, opened, with the bulk of each one's bytes. -/
theorem open_deeds_small {H : Type} {enc : TypeId × Value → H} {W : World} {base : Nat} {v : Value} {d : DataW H} {p : List MemPlace}
    (hval : Value.okWide Try.prog W .any base 22 v) (h0 : DataW.Trod enc Try.prog W 0 (fun _ => true) true 22 v d p) (hw : ∀ m ∈ d.weights Try.prog 22, m ≤ 140737488351232) : ∃ l, Deeds W v l := by
  obtain ⟨a0, len0, cap0, rfl⟩ := okWide_slice Try.underlying22 hval
  obtain ⟨fuel, hf⟩ := h0
  rcases open_slice Try.underlying22 hf with ⟨hcs, _⟩ | ⟨a, len, cap, m, n, D, Pl, hcs, _, hl, hm, hmm, hxd, hx⟩
  · simp [Value.cells] at hcs
    obtain ⟨rfl, rfl, rfl⟩ := hcs
    exact ⟨[], none, 0, rfl, by simp, fun j d h => by simp at h⟩
  · simp [Value.cells] at hcs
    obtain ⟨rfl, rfl, rfl⟩ := hcs
    simp only [if_true] at hmm
    subst hmm
    rw [cells48] at hx
    have hd : d = .slice ((List.range len0).map D) ((List.range (m - len0)).map fun j => D (len0 + j)) := by simpa using congrArg Prod.fst hxd
    have hwj : ∀ j, j < len0 → ∀ q ∈ (D j).weights Try.prog 48, q ≤ 140737488351232 := fun j hj q hq => hw q (by
      rw [hd]
      simp only [DataW.weights, Try.underlying22, List.mem_cons, List.mem_append]
      exact Or.inr (Or.inl (wAll_mem (List.mem_map.2 ⟨j, List.mem_range.2 hj, rfl⟩) q hq)))
    obtain ⟨l, hll, hp⟩ := choose_list (p := fun j (d : Dd) => ∃ g off bv, some a = some (⟨g, off, none⟩ : Addr) ∧ g < W.heap.size ∧ DeedAt W g (off + j * 3) d bv) len0 (fun j hj => by
      obtain ⟨cs', h1, h2⟩ := hx j (by omega)
      obtain ⟨d, bv, rfl, q1, q2⟩ := deed_of h2 (hwj j hj)
      obtain ⟨_, hlen, hcell⟩ := World.cells?_some h1
      have hc0 := hcell 0 (by decide)
      rw [show (a.add (j * 3)).add 0 = a.add (j * 3) by unfold Addr.add; simp] at hc0
      obtain ⟨g, off, sp⟩ := a
      have hsp : sp = none := by
        obtain ⟨cs0, g1, g2⟩ := hx 0 (by omega)
        obtain ⟨d0, bv0, rfl, _⟩ := deed_of g2 (hwj 0 (by omega))
        obtain ⟨_, _, hcell0⟩ := World.cells?_some g1
        have hz := hcell0 0 (by decide)
        rw [show ((⟨g, off, sp⟩ : Addr).add (0 * 3)).add 0 = ⟨g, off, sp⟩ by unfold Addr.add; simp] at hz
        exact World.cell?_spot hz
      subst hsp
      rw [addr_plus] at hcell hc0
      exact ⟨d, g, off, bv, rfl, World.block_lt_of_cell? W _ hc0, fun i u hu => by have := hcell i (by have := (List.getElem?_eq_some_iff.1 hu).1; simpa using this); rw [addr_plus, hu] at this; exact this, q1, q2⟩)
    exact ⟨l, some a, _, by rw [hll], by rw [hll]; unfold maxLen at hm; omega, hp⟩
end Go.Proofs.Ytbhkchdkknainaa
