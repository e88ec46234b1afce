/- Deed: deeds, a user, as arguments, opened. -/
import Derived.Test.YtjljbnilckkjnaaDoorG28
import Derived.Test.YtjljbnilckkjnaaDoorBOpen
namespace Go.Proofs.YtjljbnilckkjnaaDoor
open Go.ChangeShapes Go.WideShapes Go.ChangeAt Go.RowKit Go.Deep Go.Joins

theorem cellsDeed : Tryd.prog.cellsOf 28 = 10 := by kernel_rfl
theorem cellsDo : Tryd.prog.cellsOf 25 = 1 := by kernel_rfl
theorem cellsSt : Tryd.prog.cellsOf 9 = 1 := by kernel_rfl
theorem cellsBx4 : Tryd.prog.cellsOf 52 = 4 := by kernel_rfl
theorem cellsLs : Tryd.prog.cellsOf 50 = 1 := by kernel_rfl
section
variable {H : Type} {enc : TypeId × Value → H} {P : Program} {w : World} {base : Nat} {spare : Nat → Bool} {held : Bool}
theorem trod_struct10 {t : TypeId} {f0 f1 f2 f3 f4 f5 f6 f7 f8 f9 : Field} {fuel : Nat} {cs : List Value} {x : DataW H × List MemPlace} (ht : P.underlying t = some (.struct #[f0, f1, f2, f3, f4, f5, f6, f7, f8, f9])) (h : DataW.trod enc P w base spare held fuel t cs = some x) :
    ∃ y0 y1 y2 y3 y4 y5 y6 y7 y8 y9 n, x.1 = .agg [y0.1, y1.1, y2.1, y3.1, y4.1, y5.1, y6.1, y7.1, y8.1, y9.1] ∧ cs.length = P.cellsOf t ∧ DataW.trod enc P w base spare held n f0.type ((cs.drop f0.offset).take (P.cellsOf f0.type)) = some y0 ∧ DataW.trod enc P w base spare held n f1.type ((cs.drop f1.offset).take (P.cellsOf f1.type)) = some y1 ∧ DataW.trod enc P w base spare held n f2.type ((cs.drop f2.offset).take (P.cellsOf f2.type)) = some y2 ∧ DataW.trod enc P w base spare held n f3.type ((cs.drop f3.offset).take (P.cellsOf f3.type)) = some y3 ∧ DataW.trod enc P w base spare held n f4.type ((cs.drop f4.offset).take (P.cellsOf f4.type)) = some y4 ∧ DataW.trod enc P w base spare held n f5.type ((cs.drop f5.offset).take (P.cellsOf f5.type)) = some y5 ∧ DataW.trod enc P w base spare held n f6.type ((cs.drop f6.offset).take (P.cellsOf f6.type)) = some y6 ∧ DataW.trod enc P w base spare held n f7.type ((cs.drop f7.offset).take (P.cellsOf f7.type)) = some y7 ∧ DataW.trod enc P w base spare held n f8.type ((cs.drop f8.offset).take (P.cellsOf f8.type)) = some y8 ∧ DataW.trod enc P w base spare held n f9.type ((cs.drop f9.offset).take (P.cellsOf f9.type)) = some y9 := by
  obtain ⟨xs, n, _, rfl, hl, hlen, hf⟩ := DataW.trod_struct ht h
  match xs, hlen with
  | [y0, y1, y2, y3, y4, y5, y6, y7, y8, y9], _ => exact ⟨y0, y1, y2, y3, y4, y5, y6, y7, y8, y9, n, by simp, hl, by simpa using hf 0 f0 rfl, by simpa using hf 1 f1 rfl, by simpa using hf 2 f2 rfl, by simpa using hf 3 f3 rfl, by simpa using hf 4 f4 rfl, by simpa using hf 5 f5 rfl, by simpa using hf 6 f6 rfl, by simpa using hf 7 f7 rfl, by simpa using hf 8 f8 rfl, by simpa using hf 9 f9 rfl⟩
end
theorem bulk_mem {H : Type} {d : DataW H} : ∀ {l : List (DataW H)}, d ∈ l → Rows.uptoBulk d ≤ Rows.uptoBulkAll l
  | x :: t, h => by
    simp only [Rows.uptoBulkAll]
    rcases List.mem_cons.1 h with rfl | h
    · omega
    · have := bulk_mem h; omega
theorem bulk_pos {H : Type} (d : DataW H) : 1 ≤ Rows.uptoBulk d := by
  cases d with
  | lit l => cases l <;> simp [Rows.uptoBulk]
  | _ => simp [Rows.uptoBulk]
theorem bulk_len {H : Type} : ∀ l : List (DataW H), l.length ≤ Rows.uptoBulkAll l
  | [] => by simp
  | x :: t => by
    have := bulk_len t
    have := bulk_pos x
    simp only [List.length_cons, Rows.uptoBulkAll]
    omega
set_option maxRecDepth 100000 in
/-- A deed that was read. -/
theorem deed_of {H : Type} {enc : TypeId × Value → H} {W : World} {cs : List Value} {n : Nat} {x : DataW H × List MemPlace} (h : DataW.trod enc Tryd.prog W 0 (fun _ => true) true n 28 cs = some x) :
    ∃ p : Di × Value, cs = diS p.1 p.2 ∧ Byz W p.2 p.1.bytes ∧ p.1.bytes.length ≤ maxLen ∧ p.1.user.size ≤ maxLen ∧ p.1.user.size + p.1.box.size + p.1.dest.size ≤ Rows.uptoBulk x.1 := by
  obtain ⟨y0, y1, y2, y3, y4, y5, y6, y7, y8, y9, m, hx, hl, t0, t1, t2, t3, t4, t5, t6, t7, t8, t9⟩ := trod_struct10 Tryd.underlying28 h
  rw [cellsDeed] at hl
  match cs, hl with
  | [c0, c1, c2, c3, c4, c5, c6, c7, c8, c9], _ =>
    simp only [cellsDo, cellsSt, cellsI, cells5, cellsBs, List.drop_zero, List.drop_succ_cons, List.take_succ_cons, List.take_zero] at t0 t1 t2 t3 t4 t5 t6 t7 t8 t9
    obtain ⟨a0, e0, _, w0⟩ := DataW.trod_int Tryd.underlying25 t0
    obtain ⟨a1, e1, z1, w1⟩ := DataW.trod_string Tryd.underlying9 t1
    obtain ⟨a2, e2, z2, w2⟩ := DataW.trod_string Tryd.underlying9 t2
    obtain ⟨a3, e3, z3, w3⟩ := DataW.trod_string Tryd.underlying9 t3
    obtain ⟨a4, e4, _, w4⟩ := DataW.trod_int Tryd.underlying3 t4
    obtain ⟨a5, e5, _, w5⟩ := DataW.trod_int Tryd.underlying3 t5
    obtain ⟨a6, e6, _, w6⟩ := DataW.trod_int Tryd.underlying5 t6
    obtain ⟨a7, e7, _, w7⟩ := DataW.trod_int Tryd.underlying3 t7
    obtain ⟨a8, e8, _, w8⟩ := DataW.trod_int Tryd.underlying3 t8
    simp only [List.cons.injEq, and_true] at e0 e1 e2 e3 e4 e5 e6 e7 e8
    subst e0 e1 e2 e3 e4 e5 e6 e7 e8
    obtain ⟨l, hb, hbl⟩ := byt_of t9
    have hb1 := byte_of w6
    have hf : ((UInt8.ofNat a6.toNat).toNat : Int) = a6 := by rw [UInt8.toNat_ofNat']; omega
    refine ⟨(⟨a0, a1, a2, a3, a4, a5, UInt8.ofNat a6.toNat, a7, a8, l⟩, c9), ?_, hb, hbl, w1, ?_⟩
    · simp only [diS, hf]
    · rw [hx, z1, z2, z3]
      have q1 := Lib.size_eq a1
      have q2 := Lib.size_eq a2
      have q3 := Lib.size_eq a3
      simp only [Rows.uptoBulk, Rows.uptoBulkAll]
      omega
theorem diS_len (d : Di) (pv : Value) : (diS d pv).length = 10 := rfl
set_option maxRecDepth 100000 in
/-- Deeds that were read. -/
theorem deeds_of {H : Type} {enc : TypeId × Value → H} {W : World} {v : Value} {n : Nat} {x : DataW H × List MemPlace} (h : DataW.trod enc Tryd.prog W 0 (fun _ => true) true n 32 [v] = some x) :
    ∃ ps, Deeds W v ps ∧ ps.length ≤ maxLen ∧ ∀ p ∈ ps, p.1.user.size + p.1.box.size + p.1.dest.size ≤ Rows.uptoBulk x.1 := by
  rcases open_slice Tryd.underlying32 h with ⟨hcs, _⟩ | ⟨a, len, cap, m, n', D, Pl, hcs, _, hl, hm, hmm, hxd, hx⟩
  · simp only [List.cons.injEq, and_true] at hcs
    subst hcs
    exact ⟨[], ⟨⟨none, 0, rfl⟩, fun h => absurd rfl h, fun p hp => by cases hp⟩, by simp, fun p hp => by cases hp⟩
  · simp only [List.cons.injEq, and_true] at hcs
    subst hcs
    simp only [if_true] at hmm
    subst hmm
    rw [cellsDeed] at hx
    have hbk : ∀ j, j < len → Rows.uptoBulk (D j) ≤ Rows.uptoBulk x.1 := fun j hj => by
      rw [hxd]
      simp only [Rows.uptoBulk]
      have := bulk_mem (show D j ∈ (List.range len).map D from List.mem_map.2 ⟨j, List.mem_range.2 hj, rfl⟩)
      omega
    have hsp : len ≠ 0 → ∃ g off, a = ⟨g, off, none⟩ ∧ g < W.heap.size := fun h0 => by
      obtain ⟨cs0, g1, g2⟩ := hx 0 (by omega)
      obtain ⟨p0, rfl, _⟩ := deed_of g2
      obtain ⟨_, _, hcell0⟩ := World.cells?_some g1
      have hz := hcell0 0 (by simp [diS])
      obtain ⟨g, off, sp⟩ := a
      rw [show ((⟨g, off, sp⟩ : Addr).add (0 * 10)).add 0 = ⟨g, off, sp⟩ by unfold Addr.add; simp] at hz
      have hs : sp = none := cell_spot hz
      subst hs
      exact ⟨g, off, rfl, World.block_lt_of_cell? W _ hz⟩
    obtain ⟨ps, hpl, hp⟩ := choose_list (p := fun j (p : Di × Value) => (∀ i u, (diS p.1 p.2)[i]? = some u → W.cell? ((a.add (j * 10)).add i) = some u) ∧ Byz W p.2 p.1.bytes ∧ p.1.bytes.length ≤ maxLen ∧ p.1.user.size ≤ maxLen ∧ p.1.user.size + p.1.box.size + p.1.dest.size ≤ Rows.uptoBulk x.1) len (fun j hj => by
      obtain ⟨cs', h1, h2⟩ := hx j (by omega)
      obtain ⟨p, rfl, q1, q2, q3, q4⟩ := deed_of h2
      obtain ⟨_, hlen, hcell⟩ := World.cells?_some h1
      exact ⟨p, fun i u hu => by have := hcell i (by have := (List.getElem?_eq_some_iff.1 hu).1; simpa [diS] using this); rw [hu] at this; exact this, q1, q2, q3, Nat.le_trans q4 (hbk j hj)⟩)
    subst hpl
    refine ⟨ps, ⟨⟨some a, _, rfl⟩, fun hne => ?_, fun p hpm => ?_⟩, by omega, fun p hpm => ?_⟩
    · obtain ⟨g, off, rfl, hg⟩ := hsp (fun e => hne (List.eq_nil_of_length_eq_zero e))
      refine ⟨g, off, _, rfl, hg, fun i p hi j u hu => ?_⟩
      have hat := (hp i p hi).1 j u hu
      rw [addr_plus, addr_plus] at hat
      exact hat
    · obtain ⟨j, hj⟩ := List.getElem?_of_mem hpm
      obtain ⟨_, q1, q2, q3, _⟩ := hp j p hj
      unfold maxLen at q2 q3
      exact ⟨q1, by omega, by omega⟩
    · obtain ⟨j, hj⟩ := List.getElem?_of_mem hpm
      exact (hp j p hj).2.2.2.2
set_option maxRecDepth 100000 in
theorem open_deeds {H : Type} {enc : TypeId × Value → H} {W : World} {base : Nat} {v : Value} {d : DataW H} {p : List MemPlace}
    (hval : Value.okWide Tryd.prog W .any base 32 v) (h0 : DataW.Trod enc Tryd.prog W 0 (fun _ => true) true 32 v d p) :
    ∃ ps, Deeds W v ps ∧ ps.length ≤ 9223372036854775807 ∧ ∀ p ∈ ps, p.1.user.size + p.1.box.size + p.1.dest.size ≤ Rows.uptoBulk d := by
  obtain ⟨a0, len, cap, rfl⟩ := okWide_slice Tryd.underlying32 hval
  obtain ⟨fuel, hf⟩ := h0
  obtain ⟨ps, h1, h2, h3⟩ := deeds_of (v := .slice a0 len cap) hf
  unfold maxLen at h2
  exact ⟨ps, h1, by omega, h3⟩
set_option maxRecDepth 100000 in
theorem open_byz {H : Type} {enc : TypeId × Value → H} {W : World} {base : Nat} {v : Value} {d : DataW H} {p : List MemPlace}
    (hval : Value.okWide Tryd.prog W .any base 26 v) (h0 : DataW.Trod enc Tryd.prog W 0 (fun _ => true) true 26 v d p) : ∃ l, Byz W v l ∧ l.length ≤ 9223372036854775807 := by
  obtain ⟨a0, len, cap, rfl⟩ := okWide_slice Tryd.underlying26 hval
  obtain ⟨fuel, hf⟩ := h0
  obtain ⟨l, h, hl⟩ := byt_of (v := .slice a0 len cap) hf
  unfold maxLen at hl
  exact ⟨l, h, by omega⟩
set_option maxRecDepth 100000 in
/-- A deed as an argument. -/
theorem open_deed {H : Type} {enc : TypeId × Value → H} {W : World} {base : Nat} {v : Value} {d : DataW H} {p : List MemPlace}
    (hval : Value.okWide Tryd.prog W .any base 28 v) (h0 : DataW.Trod enc Tryd.prog W 0 (fun _ => true) true 28 v d p) :
    ∃ x pv, v = diV x pv ∧ Byz W pv x.bytes ∧ x.bytes.length ≤ 9223372036854775807 ∧ x.user.size ≤ 9223372036854775807 ∧ x.user.size + x.box.size + x.dest.size ≤ Rows.uptoBulk d := by
  obtain ⟨cs, rfl, hsz⟩ := okWide_struct Tryd.underlying28 hval
  obtain ⟨fuel, hf⟩ := h0
  obtain ⟨q, hq, h1, h2, h3, h4⟩ := deed_of hf
  unfold maxLen at h2 h3
  refine ⟨q.1, q.2, ?_, h1, by omega, by omega, h4⟩
  have e : cs = (diS q.1 q.2).toArray := by rw [← hq]; simp [Value.cells]
  rw [e]
  rfl
theorem len_bulk {H : Type} {enc : TypeId × Value → H} {W : World} {t e : TypeId} {a : Option Addr} {len cap n : Nat} {x : DataW H × List MemPlace} (ht : Tryd.prog.underlying t = some (.slice e)) (h : DataW.trod enc Tryd.prog W 0 (fun _ => true) true n t [.slice a len cap] = some x) : len ≤ Rows.uptoBulk x.1 := by
  rcases open_slice ht h with ⟨hcs, _⟩ | ⟨a', len', cap', m, n', D, Pl, hcs, _, hl, hm, hmm, hxd, hx⟩
  · simp only [List.cons.injEq, and_true, Value.slice.injEq] at hcs
    omega
  · simp only [List.cons.injEq, and_true, Value.slice.injEq] at hcs
    obtain ⟨_, rfl, _⟩ := hcs
    rw [hxd]
    simp only [Rows.uptoBulk]
    have := bulk_len ((List.range len).map D)
    rw [List.length_map, List.length_range] at this
    omega
set_option maxRecDepth 100000 in
/-- A box that was read. -/
theorem box_of {H : Type} {enc : TypeId × Value → H} {W : World} {cs : List Value} {n : Nat} {x : DataW H × List MemPlace} (h : DataW.trod enc Tryd.prog W 0 (fun _ => true) true n 52 cs = some x) :
    ∃ b : Bx, cs = cellsBx b ∧ Lets W b.lv b.ls ∧ b.ls.length ≤ Rows.uptoBulk x.1 ∧ b.name.size ≤ Rows.uptoBulk x.1 ∧ (∀ p ∈ b.ls, p.1.bytes.length ≤ maxLen) := by
  obtain ⟨y0, y1, y2, y3, m, hx, hl, t0, t1, t2, t3⟩ := trod_struct4 Tryd.underlying52 h
  rw [cellsBx4] at hl
  match cs, hl with
  | [c0, c1, c2, c3], _ =>
    simp only [cellsSt, cellsI, cellsLs, List.drop_zero, List.drop_succ_cons, List.take_succ_cons, List.take_zero] at t0 t1 t2 t3
    obtain ⟨a0, e0, z0, w0⟩ := DataW.trod_string Tryd.underlying9 t0
    obtain ⟨a1, e1, _, w1⟩ := DataW.trod_int Tryd.underlying3 t1
    obtain ⟨a2, e2, _, w2⟩ := DataW.trod_int Tryd.underlying3 t2
    simp only [List.cons.injEq, and_true] at e0 e1 e2
    subst e0 e1 e2
    obtain ⟨ps, hl, _, hs⟩ := letters_of t3
    obtain ⟨la, lc, rfl, _⟩ := hl.shape
    have hb := len_bulk Tryd.underlying50 t3
    have hsz := Lib.size_eq a0
    refine ⟨⟨a0, a1, a2, ps, .slice la ps.length lc⟩, rfl, hl, ?_, ?_, fun p hp => (hs p hp).1⟩
    · rw [hx]
      simp only [Rows.uptoBulk, Rows.uptoBulkAll]
      omega
    · rw [hx]
      simp only [z0, Rows.uptoBulk, Rows.uptoBulkAll]
      omega
set_option maxRecDepth 100000 in
/-- Boxes that were read. -/
theorem boxes_of {H : Type} {enc : TypeId × Value → H} {W : World} {v : Value} {n : Nat} {x : DataW H × List MemPlace} (h : DataW.trod enc Tryd.prog W 0 (fun _ => true) true n 41 [v] = some x) (hb : Rows.uptoBulk x.1 ≤ 1048576) :
    ∃ bs, Boxes W v bs ∧ bs.length ≤ 1048576 ∧ ∀ b ∈ bs, b.name.size ≤ 1048576 ∧ (∀ p ∈ b.ls, p.1.bytes.length ≤ maxLen) := by
  rcases open_slice Tryd.underlying41 h with ⟨hcs, _⟩ | ⟨a, len, cap, m, n', D, Pl, hcs, _, hl, hm, hmm, hxd, hx⟩
  · simp only [List.cons.injEq, and_true] at hcs
    subst hcs
    exact ⟨[], ⟨⟨none, 0, rfl⟩, fun h => absurd rfl h, fun p hp => by cases hp⟩, by simp, fun p hp => by cases hp⟩
  · simp only [List.cons.injEq, and_true] at hcs
    subst hcs
    simp only [if_true] at hmm
    subst hmm
    rw [cellsBx4] at hx
    have hlb := len_bulk Tryd.underlying41 h
    have hbk : ∀ j, j < len → Rows.uptoBulk (D j) ≤ Rows.uptoBulk x.1 := fun j hj => by
      rw [hxd]
      simp only [Rows.uptoBulk]
      have := bulk_mem (show D j ∈ (List.range len).map D from List.mem_map.2 ⟨j, List.mem_range.2 hj, rfl⟩)
      omega
    have hsp : len ≠ 0 → ∃ g off, a = ⟨g, off, none⟩ ∧ g < W.heap.size := fun h0 => by
      obtain ⟨cs0, g1, g2⟩ := hx 0 (by omega)
      obtain ⟨p0, rfl, _⟩ := box_of g2
      obtain ⟨_, _, hcell0⟩ := World.cells?_some g1
      have hz := hcell0 0 (by simp [cellsBx])
      obtain ⟨g, off, sp⟩ := a
      rw [show ((⟨g, off, sp⟩ : Addr).add (0 * 4)).add 0 = ⟨g, off, sp⟩ by unfold Addr.add; simp] at hz
      have hs : sp = none := cell_spot hz
      subst hs
      exact ⟨g, off, rfl, World.block_lt_of_cell? W _ hz⟩
    obtain ⟨ps, hpl, hp⟩ := choose_list (p := fun j (p : Bx) => (∀ i u, (cellsBx p)[i]? = some u → W.cell? ((a.add (j * 4)).add i) = some u) ∧ Lets W p.lv p.ls ∧ p.ls.length ≤ 1048576 ∧ p.name.size ≤ 1048576 ∧ (∀ q ∈ p.ls, q.1.bytes.length ≤ maxLen)) len (fun j hj => by
      obtain ⟨cs', h1, h2⟩ := hx j (by omega)
      obtain ⟨p, rfl, q1, q2, q3, q4⟩ := box_of h2
      obtain ⟨_, hlen, hcell⟩ := World.cells?_some h1
      have := hbk j hj
      simp only at q2 q3
      exact ⟨p, fun i u hu => by have := hcell i (by have := (List.getElem?_eq_some_iff.1 hu).1; simpa [cellsBx] using this); rw [hu] at this; exact this, q1, by omega, by omega, q4⟩)
    subst hpl
    refine ⟨ps, ⟨⟨some a, _, rfl⟩, fun hne => ?_, fun p hpm => ?_⟩, by omega, fun p hpm => ?_⟩
    · obtain ⟨g, off, rfl, hg⟩ := hsp (fun e => hne (List.eq_nil_of_length_eq_zero e))
      have hat : ∀ i b, ps[i]? = some b → ∀ j u, (cellsBx b)[j]? = some u → W.cell? ⟨g, off + i * 4 + j, none⟩ = some u := fun i b hi j u hu => by
        have := (hp i b hi).1 j u hu
        rw [addr_plus, addr_plus] at this
        exact this
      exact ⟨g, off, _, rfl, hg, fun i b hi => ⟨hat i b hi 0 _ rfl, hat i b hi 1 _ rfl, hat i b hi 2 _ rfl, hat i b hi 3 _ rfl⟩⟩
    · obtain ⟨j, hj⟩ := List.getElem?_of_mem hpm
      obtain ⟨_, q1, q2, _⟩ := hp j p hj
      exact ⟨q1, by omega⟩
    · obtain ⟨j, hj⟩ := List.getElem?_of_mem hpm
      exact (hp j p hj).2.2.2
set_option maxRecDepth 100000 in
/-- A user as an argument. -/
theorem open_user {H : Type} {enc : TypeId × Value → H} {W : World} {base : Nat} {v : Value} {d : DataW H} {p : List MemPlace}
    (hval : Value.okWide Tryd.prog W .any base 43 v) (h0 : DataW.Trod enc Tryd.prog W 0 (fun _ => true) true 43 v d p) (hb : Rows.uptoBulk d ≤ 1048576) :
    ∃ name valid sv bs, v = .agg #[.string name, .int .i64 valid, sv] ∧ Boxes W sv bs ∧ bs.length ≤ 1048576 ∧ name.size ≤ 1048576 ∧ ∀ b ∈ bs, b.name.size ≤ 1048576 ∧ (∀ p ∈ b.ls, p.1.bytes.length ≤ maxLen) := by
  obtain ⟨v0, v1, v2, y0, y1, y2, n, rfl, hd, _, t0, t1, t2⟩ := open_agg3 Tryd.underlying43 (by kernel_rfl) (by kernel_rfl) hval h0
  obtain ⟨s, e0, z0, ws⟩ := DataW.trod_string Tryd.underlying9 t0
  obtain ⟨a1, e1, _, w1⟩ := DataW.trod_int Tryd.underlying3 t1
  simp only [List.cons.injEq, and_true] at e0 e1
  subst e0 e1
  rw [hd, z0] at hb
  have hsz := Lib.size_eq s
  simp only [Rows.uptoBulk, Rows.uptoBulkAll] at hb
  obtain ⟨bs, h1, h2, h3⟩ := boxes_of t2 (by omega)
  exact ⟨s, a1, v2, bs, rfl, h1, h2, by omega, h3⟩
end Go.Proofs.YtjljbnilckkjnaaDoor
