/- Coord: calls as an argument, opened. -/
import Derived.Test.YtleghofpabdkhaaY6
import Derived.Test.YtleghofpabdkhaaY24
import Derived.Test.YtleghofpabdkhaaRows
import Derived.ProofKit
import Derived.OpenShut
import Derived.SizedLaws
import Derived.Deep.DeepHandedRow
import Derived.Deep.Strs
import Derived.Deep.Slices
import Derived.Lib.SmallJoins
import Derived.ChangeArms
namespace Go.Proofs.Ytleghofpabdkhaa
open Go.ChangeShapes Go.WideShapes Go.ChangeAt Go.RowKit Go.Deep Go.Joins

theorem own : ownKnob Try.prog.godebug = none := by kernel_rfl
theorem laidOut : laidOutB Try.prog = true := by kernel_rfl
theorem cells5 : Try.prog.cellsOf 5 = 1 := by kernel_rfl
theorem byte_of {x : Int} (h : (Lit.int .u8 x).wf = true) : 0 ≤ x ∧ x < 256 := by
  have h1 : IntKind.u8.min = 0 := rfl
  have h2 : IntKind.u8.max = 255 := rfl
  simp only [Lit.wf, Bool.and_eq_true, decide_eq_true_eq] at h
  omega
theorem int_of {x : Int} (h : (Lit.int .i64 x).wf = true) : -9223372036854775808 ≤ x ∧ x ≤ 9223372036854775807 := by
  have h1 : IntKind.i64.min = -9223372036854775808 := rfl
  have h2 : IntKind.i64.max = 9223372036854775807 := rfl
  simp only [Lit.wf, Bool.and_eq_true, decide_eq_true_eq] at h
  omega
theorem cell_spot {W : World} {a : Addr} {v : Value} (h : W.cell? a = some v) : a.spot = none := by
  unfold World.cell? at h
  split at h
  · split at h
    · cases h
    · rename_i hs
      simpa using hs
  · cases h
/-- Bytes that were read: without a word on the bulk. -/
theorem byt_of {H : Type} {enc : TypeId × Value → H} {W : World} {v : Value} {n : Nat} {x : DataW H × List MemPlace} (h : DataW.trod enc Try.prog W 0 (fun _ => true) true n 34 [v] = some x) :
    ∃ l, Byz W v l ∧ l.length ≤ 9223372036854775807 := by
  rcases open_ints Try.underlying34 Try.underlying5 cells5 h with ⟨hcs, hx⟩ | ⟨a, len, cap, zs, hcs, _, hl, hm, hz, hx, hcell, hwz⟩
  · simp only [List.cons.injEq, and_true] at hcs
    subst hcs
    exact ⟨[], (Byt.nil W).z, by simp⟩
  · simp only [List.cons.injEq, and_true] at hcs
    subst hcs
    rcases Nat.eq_zero_or_pos len with h0 | h0
    · subst h0
      exact ⟨[], ⟨⟨some a, cap, rfl⟩, fun h => absurd rfl h⟩, by simp⟩
    · simp only [if_true] at hz
      have hc0 := hcell 0 (by omega)
      obtain ⟨g, off, sp⟩ := a
      rw [show (⟨g, off, sp⟩ : Addr).add 0 = ⟨g, off, sp⟩ by unfold Addr.add; simp] at hc0
      have hs : sp = none := cell_spot hc0
      subst hs
      have hlen : ((zs.take len).map fun x => UInt8.ofNat x.toNat).length = len := by rw [List.length_map, List.length_take]; omega
      refine ⟨(zs.take len).map fun x => UInt8.ofNat x.toNat, Byt.z ⟨some ⟨g, off, none⟩, cap, by rw [hlen], by rw [hlen]; exact hl, (fun h => by cases h), fun ad had => ?_⟩, by rw [hlen]; unfold maxLen at hm; omega⟩
      injection had with had
      subst had
      refine ⟨g, off, rfl, World.block_lt_of_cell? W _ hc0, fun j hj => ?_⟩
      rw [hlen] at hj
      have hc := hcell j (by omega)
      rw [addr_plus] at hc
      rw [hc]
      have hb := byte_of (hwz zs[j] (List.getElem_mem _))
      simp only [List.getElem_map, List.getElem_take]
      rw [show zs.getD j 0 = zs[j] by simp [List.getD, show j < zs.length by omega]]
      congr 2
      rw [UInt8.toNat_ofNat']
      omega

theorem choose_list {α : Type} {p : Nat → α → Prop} : ∀ n, (∀ i, i < n → ∃ x, p i x) → ∃ l : List α, l.length = n ∧ ∀ i x, l[i]? = some x → p i x
  | 0, _ => ⟨[], rfl, fun i x h => by simp at h⟩
  | n + 1, h => by
    obtain ⟨l, hl, hp⟩ := choose_list n (fun i hi => h i (by omega))
    obtain ⟨y, hy⟩ := h n (by omega)
    refine ⟨l ++ [y], by simp [hl], fun i x hx => ?_⟩
    rw [List.getElem?_append] at hx
    split at hx
    · exact hp i x hx
    · have : i = n := by
        rw [List.getElem?_singleton] at hx
        split at hx
        · omega
        · cases hx
      subst this
      rw [hl, Nat.sub_self] at hx
      simp at hx
      rw [← hx]; exact hy

/-- A call of a script. -/
structure Cl where
  act : Int
  shards : List Int
  shard : Int
  keep : Bool
  which : Int
  tx : Txn
  bytes : List UInt8
def clS (d : Cl) (sv bv : Value) : List Value := [.int .i64 d.act, sv, .int .i64 d.shard, .bool d.keep, .int .u8 d.which, .int .i64 d.tx.node, .int .i64 d.tx.boot, .int .i64 d.tx.n, bv]
structure ClAt (W : World) (g o : Nat) (d : Cl) (sv bv : Value) : Prop where
  r : W.rangeAt g o (clS d sv bv)
  s : Ints W sv d.shards
  sl : d.shards.length ≤ 9223372036854775807
  b : Byz W bv d.bytes
  bl : d.bytes.length ≤ 9223372036854775807
  w : 0 ≤ d.which ∧ d.which < 256
def Cls (W : World) (v : Value) (l : List Cl) : Prop :=
  ∃ a cap, v = .slice a l.length cap ∧ l.length ≤ 9223372036854775807 ∧ ∀ (j : Nat) (d : Cl), l[j]? = some d → ∃ g off sv bv, a = some ⟨g, off, none⟩ ∧ g < W.heap.size ∧ ClAt W g (off + j * 9) d sv bv
theorem cellsCall : Try.prog.cellsOf 36 = 9 := by kernel_rfl
theorem cellsTx : Try.prog.cellsOf 33 = 3 := by kernel_rfl
theorem cells3' : Try.prog.cellsOf 3 = 1 := by kernel_rfl
theorem cells4' : Try.prog.cellsOf 4 = 1 := by kernel_rfl
theorem cells29 : Try.prog.cellsOf 34 = 1 := by kernel_rfl
theorem cells31 : Try.prog.cellsOf 31 = 1 := by kernel_rfl
/-- Integers that were read. -/
theorem ints_of {H : Type} {enc : TypeId × Value → H} {W : World} {v : Value} {n : Nat} {x : DataW H × List MemPlace} (h : DataW.trod enc Try.prog W 0 (fun _ => true) true n 31 [v] = some x) :
    ∃ l, Ints W v l ∧ l.length ≤ 9223372036854775807 := by
  rcases open_ints Try.underlying31 Try.underlying3 cells3' h with ⟨hcs, hx⟩ | ⟨a, len, cap, zs, hcs, _, hl, hm, hz, hx, hcell, hwz⟩
  · simp only [List.cons.injEq, and_true] at hcs
    subst hcs
    exact ⟨[], ⟨none, 0, rfl, fun j x hx => by simp at hx⟩, by simp⟩
  · simp only [List.cons.injEq, and_true] at hcs
    subst hcs
    simp only [if_true] at hz
    have hlen : (zs.take len).length = len := by rw [List.length_take]; omega
    refine ⟨zs.take len, ⟨some a, cap, by rw [hlen], fun j x hj => ?_⟩, by rw [hlen]; unfold maxLen at hm; omega⟩
    have hjl : j < len := by have := (List.getElem?_eq_some_iff.1 hj).1; omega
    have hc0 := hcell 0 (by omega)
    obtain ⟨g, off, sp⟩ := a
    rw [show (⟨g, off, sp⟩ : Addr).add 0 = ⟨g, off, sp⟩ by unfold Addr.add; simp] at hc0
    have hs : sp = none := cell_spot hc0
    subst hs
    refine ⟨g, off, rfl, World.block_lt_of_cell? W _ hc0, ?_⟩
    have hc := hcell j (by omega)
    rw [addr_plus] at hc
    rw [hc]
    rw [List.getElem?_take, if_pos hjl] at hj
    simp [List.getD, hj]
set_option maxRecDepth 100000 in
theorem tx_of {H : Type} {enc : TypeId × Value → H} {W : World} {cs : List Value} {n : Nat} {x : DataW H × List MemPlace} (h : DataW.trod enc Try.prog W 0 (fun _ => true) true n 33 cs = some x) :
    ∃ u : Txn, cs = [.int .i64 u.node, .int .i64 u.boot, .int .i64 u.n] := by
  obtain ⟨y0, y1, y2, m, _, hl, t0, t1, t2⟩ := trod_struct3 Try.underlying33 h
  rw [cellsTx] at hl
  match cs, hl with
  | [c0, c1, c2], _ =>
    simp only [cells3', List.drop_zero, List.drop_succ_cons, List.take_succ_cons, List.take_zero] at t0 t1 t2
    obtain ⟨a0, e0, _, _⟩ := DataW.trod_int Try.underlying3 t0
    obtain ⟨a1, e1, _, _⟩ := DataW.trod_int Try.underlying3 t1
    obtain ⟨a2, e2, _, _⟩ := DataW.trod_int Try.underlying3 t2
    simp only [List.cons.injEq, and_true] at e0 e1 e2
    subst e0 e1 e2
    exact ⟨⟨a0, a1, a2⟩, rfl⟩
set_option maxRecDepth 100000 in
theorem call_of {H : Type} {enc : TypeId × Value → H} {W : World} {cs : List Value} {n : Nat} {x : DataW H × List MemPlace} (h : DataW.trod enc Try.prog W 0 (fun _ => true) true n 36 cs = some x) :
    ∃ (d : Cl) (sv bv : Value), cs = clS d sv bv ∧ Ints W sv d.shards ∧ d.shards.length ≤ 9223372036854775807 ∧ Byz W bv d.bytes ∧ d.bytes.length ≤ 9223372036854775807 ∧ 0 ≤ d.which ∧ d.which < 256 := by
  obtain ⟨xs, m, _, _, hl, hlen, hf⟩ := DataW.trod_struct Try.underlying36 h
  rw [cellsCall] at hl
  match xs, hlen with
  | [y0, y1, y2, y3, y4, y5, y6], _ =>
    have t0 := hf 0 _ rfl
    have t1 := hf 1 _ rfl
    have t2 := hf 2 _ rfl
    have t3 := hf 3 _ rfl
    have t4 := hf 4 _ rfl
    have t5 := hf 5 _ rfl
    have t6 := hf 6 _ rfl
    match cs, hl with
    | [c0, c1, c2, c3, c4, c5, c6, c7, c8], _ =>
      simp [cells3', cells4', cells5, cellsTx, cells29, cells31] at t0 t1 t2 t3 t4 t5 t6
      obtain ⟨a0, e0, _, _⟩ := DataW.trod_int Try.underlying3 t0
      obtain ⟨l1, h1, hl1⟩ := ints_of t1
      obtain ⟨a2, e2, _, _⟩ := DataW.trod_int Try.underlying3 t2
      obtain ⟨a3, e3, _⟩ := DataW.trod_bool Try.underlying4 t3
      obtain ⟨a4, e4, _, w4⟩ := DataW.trod_int Try.underlying5 t4
      obtain ⟨u, e5⟩ := tx_of t5
      obtain ⟨l6, h6, hl6⟩ := byt_of t6
      simp only [List.cons.injEq, and_true] at e0 e2 e3 e4 e5
      obtain ⟨e5, e7, e8⟩ := e5
      subst e0 e2 e3 e4 e5 e7 e8
      have := byte_of w4
      exact ⟨⟨a0, l1, a2, a3, a4, u, l6⟩, c1, c8, rfl, h1, hl1, h6, hl6, this.1, this.2⟩
set_option maxRecDepth 100000 in
/-- An argument of calls, opened. -/
theorem open_calls {H : Type} {enc : TypeId × Value → H} {W : World} {base : Nat} {v : Value} {d : DataW H} {p : List MemPlace}
    (hval : Value.okWide Try.prog W .any base 22 v) (h0 : DataW.Trod enc Try.prog W 0 (fun _ => true) true 22 v d p) {Q : Prop} (_ : Q) : ∃ l, Cls W v l := by
  obtain ⟨a0, len0, cap0, rfl⟩ := okWide_slice Try.underlying22 hval
  obtain ⟨fuel, hf⟩ := h0
  rcases open_slice Try.underlying22 hf with ⟨hcs, _⟩ | ⟨a, len, cap, m, n, D, Pl, hcs, _, hl, hm, hmm, _, hx⟩
  · simp [Value.cells] at hcs
    obtain ⟨rfl, rfl, rfl⟩ := hcs
    exact ⟨[], none, 0, rfl, by simp, fun j d h => by simp at h⟩
  · simp [Value.cells] at hcs
    obtain ⟨rfl, rfl, rfl⟩ := hcs
    simp only [if_true] at hmm
    subst hmm
    rw [cellsCall] at hx
    obtain ⟨l, hll, hp⟩ := choose_list (p := fun j (d : Cl) => ∃ g off sv bv, some a = some (⟨g, off, none⟩ : Addr) ∧ g < W.heap.size ∧ ClAt W g (off + j * 9) d sv bv) len0 (fun j hj => by
      obtain ⟨cs', h1, h2⟩ := hx j (by omega)
      obtain ⟨d, sv, bv, rfl, q1, q2, q3, q4, q5⟩ := call_of h2
      obtain ⟨_, hlen, hcell⟩ := World.cells?_some h1
      have hc0 := hcell 0 (by decide)
      rw [show (a.add (j * 9)).add 0 = a.add (j * 9) by unfold Addr.add; simp] at hc0
      have hs := cell_spot hc0
      obtain ⟨g, off, sp⟩ := a
      have hsp : sp = none := by
        obtain ⟨cs0, g1, g2⟩ := hx 0 (by omega)
        obtain ⟨d0, sv0, bv0, rfl, _⟩ := call_of g2
        obtain ⟨_, _, hcell0⟩ := World.cells?_some g1
        have hz := hcell0 0 (by decide)
        rw [show ((⟨g, off, sp⟩ : Addr).add (0 * 9)).add 0 = ⟨g, off, sp⟩ by unfold Addr.add; simp] at hz
        exact cell_spot hz
      subst hsp
      rw [addr_plus] at hcell hc0
      exact ⟨d, g, off, sv, bv, rfl, World.block_lt_of_cell? W _ hc0, ⟨fun i u hu => by have := hcell i (by have := (List.getElem?_eq_some_iff.1 hu).1; simpa [clS] using this); rw [addr_plus, hu] at this; exact this, q1, q2, q3, q4, q5⟩⟩)
    exact ⟨l, some a, _, by rw [hll], by rw [hll]; unfold maxLen at hm; omega, hp⟩
set_option maxRecDepth 100000 in
theorem Cls.below {W W' : World} {v : Value} {l : List Cl} (h : Cls W v l) (hb : Below W.heap.size W W') : Cls W' v l := by
  obtain ⟨a, cap, e, hl, hp⟩ := h
  refine ⟨a, cap, e, hl, fun j d hj => ?_⟩
  obtain ⟨g, off, sv, bv, e1, hg, hc⟩ := hp j d hj
  exact ⟨g, off, sv, bv, e1, Nat.lt_of_lt_of_le hg hb.size, ⟨fun i u hu => (hb.cell (p := ⟨g, off + j * 9 + i, none⟩) hg).trans (hc.r i u hu), hc.s.below hb, hc.sl, hc.b.below hb, hc.bl, hc.w⟩⟩
end Go.Proofs.Ytleghofpabdkhaa
