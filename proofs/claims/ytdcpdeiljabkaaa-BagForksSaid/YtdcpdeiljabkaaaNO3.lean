/- Bag: calls as an argument, opened with the bulk of each one's bytes. -/
import Derived.Test.YtdcpdeiljabkaaaNO2
namespace Go.Proofs.Ytdcpdeiljabkaaa
open Go.ChangeShapes Go.WideShapes Go.ChangeAt Go.RowKit Go.Deep Go.Joins

theorem bytes5 : Try.prog.bytesOf 5 = 1 := by kernel_rfl
theorem wAll_mem {H : Type} {P : Program} {e : TypeId} : ∀ {l : List (DataW H)} {d : DataW H}, d ∈ l → ∀ n ∈ d.weights P e, n ∈ DataW.weightsAll P e l
  | d' :: r, d, hd, n, hn => by
    simp only [DataW.weightsAll, List.mem_append]
    rcases List.mem_cons.1 hd with rfl | h
    · exact Or.inl hn
    · exact Or.inr (wAll_mem h n hn)
theorem byt_small {H : Type} {enc : TypeId × Value → H} {W : World} {v : Value} {n : Nat} {x : DataW H × List MemPlace} {l : List UInt8} (h : DataW.trod enc Try.prog W 0 (fun _ => true) true n 32 [v] = some x) (hb : Byz W v l)
    (hw : ∀ m ∈ x.1.weights Try.prog 32, m ≤ 140737488351232) : l.length ≤ 140737488351232 := by
  obtain ⟨a', c', rfl⟩ := hb.1
  rcases open_ints Try.underlying32 Try.underlying5 cells5 h with ⟨hcs, hx⟩ | ⟨a, len, cap, zs, hcs, _, hl, hm, hz, hx, _, _⟩
  · simp only [List.cons.injEq, and_true, Value.slice.injEq] at hcs
    omega
  · simp only [List.cons.injEq, and_true, Value.slice.injEq] at hcs
    obtain ⟨_, h2, _⟩ := hcs
    rw [hx] at hw
    have := hw ((lits .u8 (zs.take len)).length + (lits .u8 (zs.drop len)).length) (by
      simp only [DataW.weights, Try.underlying32, List.mem_cons]
      left
      rw [bytes5, Nat.mul_one])
    simp only [lits, List.length_map, List.length_take, List.length_drop] at this
    simp only [if_true] at hz
    omega
theorem call_small {H : Type} {enc : TypeId × Value → H} {W : World} {d : Cl} {bv : Value} {n : Nat} {x : DataW H × List MemPlace} (h : DataW.trod enc Try.prog W 0 (fun _ => true) true n 36 (clS d bv) = some x) (hb : Byz W bv d.x.bytes)
    (hw : ∀ m ∈ x.1.weights Try.prog 36, m ≤ 140737488351232) : d.x.bytes.length ≤ 140737488351232 := by
  unfold clS at h
  obtain ⟨y0, y1, y2, y3, m, rfl, hl, t0, t1, t2, t3⟩ := trod_struct4 Try.underlying36 h
  simp only [cells3', cells4', cellsUnder, List.drop_zero, List.drop_succ_cons, List.take_succ_cons, List.take_zero] at t1
  obtain ⟨z0, z1, z2, m2, rfl, hl2, s0, s1, s2⟩ := trod_struct3 Try.underlying34 t1
  simp only [cells3', cells29, List.drop_zero, List.drop_succ_cons, List.take_succ_cons, List.take_zero] at s2
  refine byt_small s2 hb (fun q hq => hw q ?_)
  simp only [DataW.weights, Try.underlying36]
  refine DataW.weights_mem_each (j := 1) rfl rfl q ?_
  simp only [DataW.weights, Try.underlying34]
  exact DataW.weights_mem_each (j := 2) rfl rfl q hq
/-- An argument of calls, opened, with the bulk of each one's bytes. -/
theorem open_calls3 {H : Type} {enc : TypeId × Value → H} {W : World} {base : Nat} {v : Value} {d : DataW H} {p : List MemPlace}
    (hval : Value.okWide Try.prog W .any base 22 v) (h0 : DataW.Trod enc Try.prog W 0 (fun _ => true) true 22 v d p) (hw : ∀ m ∈ d.weights Try.prog 22, m ≤ 140737488351232) : ∃ l, Cls W v l ∧ ∀ d ∈ l, d.i ≤ 9223372036854775807 ∧ d.x.bytes.length ≤ 140737488351232 := by
  obtain ⟨a0, len0, cap0, rfl⟩ := okWide_slice Try.underlying22 hval
  obtain ⟨fuel, hf⟩ := h0
  rcases open_slice Try.underlying22 hf with ⟨hcs, _⟩ | ⟨a, len, cap, m, n, D, Pl, hcs, _, hl, hm, hmm, hxd, hx⟩
  · simp [Value.cells] at hcs
    obtain ⟨rfl, rfl, rfl⟩ := hcs
    exact ⟨[], ⟨none, 0, rfl, by simp, fun j d h => by simp at h⟩, fun d hd => by cases hd⟩
  · simp [Value.cells] at hcs
    obtain ⟨rfl, rfl, rfl⟩ := hcs
    simp only [if_true] at hmm
    subst hmm
    rw [cellsCall] at hx
    have hd : d = .slice ((List.range len0).map D) ((List.range (m - len0)).map fun j => D (len0 + j)) := by simpa using congrArg Prod.fst hxd
    have hwj : ∀ j, j < len0 → ∀ q ∈ (D j).weights Try.prog 36, q ≤ 140737488351232 := fun j hj q hq => hw q (by
      rw [hd]
      simp only [DataW.weights, Try.underlying22, List.mem_cons, List.mem_append]
      exact Or.inr (Or.inl (wAll_mem (List.mem_map.2 ⟨j, List.mem_range.2 hj, rfl⟩) q hq)))
    obtain ⟨l, hll, hp⟩ := choose_list (p := fun j (d : Cl) => ∃ g off bv, some a = some (⟨g, off, none⟩ : Addr) ∧ (g < W.heap.size ∧ d.i ≤ 9223372036854775807 ∧ d.x.bytes.length ≤ 140737488351232) ∧ ClAt W g (off + j * 6) d bv) len0 (fun j hj => by
      obtain ⟨cs', h1, h2⟩ := hx j (by omega)
      obtain ⟨d, bv, rfl, q1, q2, q3⟩ := call_of2 h2
      have q4 := call_small h2 q1 (hwj j hj)
      obtain ⟨_, hlen, hcell⟩ := World.cells?_some h1
      have hc0 := hcell 0 (by decide)
      rw [show (a.add (j * 6)).add 0 = a.add (j * 6) by unfold Addr.add; simp] at hc0
      have hs := cell_spot hc0
      obtain ⟨g, off, sp⟩ := a
      have hsp : sp = none := by
        obtain ⟨cs0, g1, g2⟩ := hx 0 (by omega)
        obtain ⟨d0, bv0, rfl, _⟩ := call_of2 g2
        obtain ⟨_, _, hcell0⟩ := World.cells?_some g1
        have hz := hcell0 0 (by decide)
        rw [show ((⟨g, off, sp⟩ : Addr).add (0 * 6)).add 0 = ⟨g, off, sp⟩ by unfold Addr.add; simp] at hz
        exact cell_spot hz
      subst hsp
      rw [addr_plus] at hcell hc0
      exact ⟨d, g, off, bv, rfl, ⟨World.block_lt_of_cell? W _ hc0, q3, q4⟩, ⟨fun i u hu => by have := hcell i (by have := (List.getElem?_eq_some_iff.1 hu).1; simpa [clS] using this); rw [addr_plus, hu] at this; exact this, q1, q2⟩⟩)
    refine ⟨l, ⟨some a, _, by rw [hll], by rw [hll]; unfold maxLen at hm; omega, fun j d hj => ?_⟩, fun d hd => ?_⟩
    · obtain ⟨g, off, bv, e1, ⟨h1, _⟩, h2⟩ := hp j d hj
      exact ⟨g, off, bv, e1, h1, h2⟩
    · obtain ⟨j, hj⟩ := List.getElem?_of_mem hd
      obtain ⟨g, off, bv, e1, ⟨_, h1⟩, _⟩ := hp j d hj
      exact h1
/-- A message as an argument, opened. -/
theorem open_under {H : Type} {enc : TypeId × Value → H} {W : World} {base : Nat} {v : Value} {d : DataW H} {p : List MemPlace}
    (hval : Value.okWide Try.prog W .any base 34 v) (h0 : DataW.Trod enc Try.prog W 0 (fun _ => true) true 34 v d p) :
    ∃ (x : Und) (bv : Value), v = .agg #[.int .i64 x.src, .int .i64 x.dst, bv] ∧ ∃ a n c, bv = .slice a n c := by
  obtain ⟨cs, rfl, hsz⟩ := okWide_struct Try.underlying34 hval
  obtain ⟨fuel, hf⟩ := h0
  obtain ⟨u, bv, hq, hb, _⟩ := under_of hf
  obtain ⟨a, c, e⟩ := hb.1
  refine ⟨u, bv, ?_, a, _, c, e⟩
  have e2 : cs = (#[.int .i64 u.src, .int .i64 u.dst, bv] : Array Value) := by
    have := congrArg List.toArray hq
    simpa [Value.cells] using this
  rw [e2]
end Go.Proofs.Ytdcpdeiljabkaaa
