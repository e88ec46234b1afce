/- Disk: deeds as an argument, opened; what lasts. -/
import Derived.Test.YtohmofhpbmhhjaaD18
namespace Go.Proofs.Ytohmofhpbmhhjaa
open Go.ChangeShapes Go.WideShapes Go.ChangeAt Go.RowKit Go.Deep Go.Joins

structure Dd where
  do' : Int
  i : Int
  bytes : List UInt8
  keep : List Bool
  torn : Int
  at' : Int
/-- One deed, at a place. -/
structure DeedAt (W : World) (g o : Nat) (d : Dd) (bv kv : Value) : Prop where
  r : W.rangeAt g o [.int .i64 d.do', .int .i64 d.i, bv, kv, .int .i64 d.torn, .int .i64 d.at']
  b : Byz W bv d.bytes
  k : Bools W kv d.keep
  kl : ∀ x, kv.ownBlock = some x → d.keep ≠ [] → x < W.heap.size
  kn : d.keep.length ≤ 9223372036854775807
  wi : d.i ≤ 9223372036854775807
def Deeds (W : World) (v : Value) (l : List Dd) : Prop :=
  ∃ a cap, v = .slice a l.length cap ∧ l.length ≤ 9223372036854775807 ∧ ∀ j d, l[j]? = some d → ∃ g off bv kv, a = some ⟨g, off, none⟩ ∧ g < W.heap.size ∧ DeedAt W g (off + j * 6) d bv kv
theorem cells39 : Try.prog.cellsOf 39 = 6 := by kernel_rfl
theorem cells32 : Try.prog.cellsOf 32 = 3 := by kernel_rfl
theorem cells3' : Try.prog.cellsOf 3 = 1 := by kernel_rfl
theorem cells29 : Try.prog.cellsOf 29 = 1 := by kernel_rfl
theorem cells30 : Try.prog.cellsOf 30 = 1 := by kernel_rfl
/-- Bytes that were read: without a word on the bulk. -/
theorem byt_of {H : Type} {enc : TypeId × Value → H} {W : World} {v : Value} {n : Nat} {x : DataW H × List MemPlace} (h : DataW.trod enc Try.prog W 0 (fun _ => true) true n 29 [v] = some x) :
    ∃ l, Byz W v l := by
  rcases open_ints Try.underlying29 Try.underlying5 cells5 h with ⟨hcs, hx⟩ | ⟨a, len, cap, zs, hcs, _, hl, hm, hz, hx, hcell, hwz⟩
  · simp only [List.cons.injEq, and_true] at hcs
    subst hcs
    exact ⟨[], (Byt.nil W).z⟩
  · simp only [List.cons.injEq, and_true] at hcs
    subst hcs
    rcases Nat.eq_zero_or_pos len with h0 | h0
    · subst h0
      exact ⟨[], ⟨some a, cap, rfl⟩, fun h => absurd rfl h⟩
    · simp only [if_true] at hz
      have hc0 := hcell 0 (by omega)
      obtain ⟨g, off, sp⟩ := a
      rw [show (⟨g, off, sp⟩ : Addr).add 0 = ⟨g, off, sp⟩ by unfold Addr.add; simp] at hc0
      have hs : sp = none := cell_spot hc0
      subst hs
      have hlen : ((zs.take len).map fun x => UInt8.ofNat x.toNat).length = len := by rw [List.length_map, List.length_take]; omega
      refine ⟨(zs.take len).map fun x => UInt8.ofNat x.toNat, Byt.z ⟨some ⟨g, off, none⟩, cap, by rw [hlen], by rw [hlen]; exact hl, (fun h => by cases h), fun ad had => ?_⟩⟩
      injection had with had
      subst had
      refine ⟨g, off, rfl, World.block_lt_of_cell? W _ hc0, fun j hj => ?_⟩
      rw [hlen] at hj
      have hc := hcell j (by omega)
      rw [addr_plus] at hc
      rw [hc]
      have hb := byte_of (hwz zs[j] (List.getElem_mem _))
      simp only [List.getElem_map, List.getElem_take]
      rw [show zs.getD j 0 = zs[j] by simp [List.getD, show j < zs.length by omega]]
      congr 2
      rw [UInt8.toNat_ofNat']
      omega

/-- One deed that was read. -/
theorem deed_of {H : Type} {enc : TypeId × Value → H} {W : World} {cs : List Value} {n : Nat} {x : DataW H × List MemPlace} (h : DataW.trod enc Try.prog W 0 (fun _ => true) true n 39 cs = some x) :
    ∃ (d : Dd) (bv kv : Value), cs = [.int .i64 d.do', .int .i64 d.i, bv, kv, .int .i64 d.torn, .int .i64 d.at'] ∧ Byz W bv d.bytes ∧ Bools W kv d.keep ∧ (∀ x, kv.ownBlock = some x → d.keep ≠ [] → x < W.heap.size) ∧ d.keep.length ≤ 9223372036854775807 ∧ d.i ≤ 9223372036854775807 := by
  obtain ⟨y0, y1, y2, y3, m, _, hl, t0, t1, t2, t3⟩ := trod_struct4 Try.underlying39 h
  rw [cells39] at hl
  match cs, hl with
  | [c0, c1, c2, c3, c4, c5], _ =>
    simp only [cells3', cells29, cells32, List.drop_zero, List.drop_succ_cons, List.take_succ_cons, List.take_zero] at t0 t1 t2 t3
    obtain ⟨a0, e0, _, _⟩ := DataW.trod_int Try.underlying3 t0
    obtain ⟨a1, e1, _, w1⟩ := DataW.trod_int Try.underlying3 t1
    obtain ⟨z0, z1, z2, m', _, _, u0, u1, u2⟩ := trod_struct3 Try.underlying32 t3
    simp only [cells3', cells30, List.drop_zero, List.drop_succ_cons, List.take_succ_cons, List.take_zero] at u0 u1 u2
    obtain ⟨a4, e4, _, _⟩ := DataW.trod_int Try.underlying3 u1
    obtain ⟨a5, e5, _, _⟩ := DataW.trod_int Try.underlying3 u2
    simp only [List.cons.injEq, and_true] at e0 e1 e4 e5
    subst e0 e1 e4 e5
    obtain ⟨l, hb⟩ := byt_of t2
    obtain ⟨keep, k1, k2, k3⟩ := bools_of u0
    have hi : a1 ≤ 9223372036854775807 := by
      have hmx : IntKind.i64.max = 9223372036854775807 := rfl
      simp only [Lit.wf, Bool.and_eq_true, decide_eq_true_eq] at w1
      omega
    exact ⟨⟨a0, a1, l, keep, a4, a5⟩, c2, c3, rfl, hb, k1, k2, k3, hi⟩
theorem choose_list {α : Type} {p : Nat → α → Prop} : ∀ n, (∀ i, i < n → ∃ x, p i x) → ∃ l : List α, l.length = n ∧ ∀ i x, l[i]? = some x → p i x
  | 0, _ => ⟨[], rfl, fun i x h => by simp at h⟩
  | n + 1, h => by
    obtain ⟨l, hl, hp⟩ := choose_list n (fun i hi => h i (by omega))
    obtain ⟨y, hy⟩ := h n (by omega)
    refine ⟨l ++ [y], by simp [hl], fun i x hx => ?_⟩
    rw [List.getElem?_append] at hx
    split at hx
    · exact hp i x hx
    · have : i = n := by
        rw [List.getElem?_singleton] at hx
        split at hx
        · omega
        · cases hx
      subst this
      rw [hl, Nat.sub_self] at hx
      simp at hx
      rw [← hx]; exact hy
/-- An argument of deeds, opened. -/
theorem open_deeds {H : Type} {enc : TypeId × Value → H} {W : World} {base : Nat} {v : Value} {d : DataW H} {p : List MemPlace}
    (hval : Value.okWide Try.prog W .any base 22 v) (h0 : DataW.Trod enc Try.prog W 0 (fun _ => true) true 22 v d p) : ∃ l, Deeds W v l := by
  obtain ⟨a0, len0, cap0, rfl⟩ := okWide_slice Try.underlying22 hval
  obtain ⟨fuel, hf⟩ := h0
  rcases open_slice Try.underlying22 hf with ⟨hcs, _⟩ | ⟨a, len, cap, m, n, D, Pl, hcs, _, hl, hm, hmm, _, hx⟩
  · simp [Value.cells] at hcs
    obtain ⟨rfl, rfl, rfl⟩ := hcs
    exact ⟨[], none, 0, rfl, by simp, fun j d h => by simp at h⟩
  · simp [Value.cells] at hcs
    obtain ⟨rfl, rfl, rfl⟩ := hcs
    simp only [if_true] at hmm
    subst hmm
    rw [cells39] at hx
    obtain ⟨l, hll, hp⟩ := choose_list (p := fun j (d : Dd) => ∃ g off bv kv, some a = some (⟨g, off, none⟩ : Addr) ∧ g < W.heap.size ∧ DeedAt W g (off + j * 6) d bv kv) len0 (fun j hj => by
      obtain ⟨cs', h1, h2⟩ := hx j (by omega)
      obtain ⟨d, bv, kv, rfl, q1, q2, q3, q4, q5⟩ := deed_of h2
      obtain ⟨_, hlen, hcell⟩ := World.cells?_some h1
      have hc0 := hcell 0 (by decide)
      rw [show (a.add (j * 6)).add 0 = a.add (j * 6) by unfold Addr.add; simp] at hc0
      have hs := cell_spot hc0
      obtain ⟨g, off, sp⟩ := a
      have hsp : sp = none := by
        obtain ⟨cs0, g1, g2⟩ := hx 0 (by omega)
        obtain ⟨d0, bv0, kv0, rfl, _⟩ := deed_of g2
        obtain ⟨_, _, hcell0⟩ := World.cells?_some g1
        have hz := hcell0 0 (by decide)
        rw [show ((⟨g, off, sp⟩ : Addr).add (0 * 6)).add 0 = ⟨g, off, sp⟩ by unfold Addr.add; simp] at hz
        exact cell_spot hz
      subst hsp
      rw [addr_plus] at hcell hc0
      exact ⟨d, g, off, bv, kv, rfl, World.block_lt_of_cell? W _ hc0, ⟨fun i u hu => by have := hcell i (by have := (List.getElem?_eq_some_iff.1 hu).1; simpa using this); rw [addr_plus, hu] at this; exact this, q1, q2, q3, q4, q5⟩⟩)
    exact ⟨l, some a, _, by rw [hll], by rw [hll]; unfold maxLen at hm; omega, hp⟩
/-- What stays of a page. -/
structure Good (at0 : Nat) (P : List UInt8) (k : Nat) (s : St) : Prop where
  len : s.sure.length = 8
  page : s.sure[at0]? = some P
  off : ∀ x ∈ s.waits, x.1 ≠ at0
  wl : s.waits.length ≤ k
  age : s.age ≤ k
theorem Good.mono {at0 : Nat} {P : List UInt8} {k k' : Nat} {s : St} (h : Good at0 P k s) (hk : k ≤ k') : Good at0 P k' s := ⟨h.len, h.page, h.off, Nat.le_trans h.wl hk, Nat.le_trans h.age hk⟩
theorem Good.go {at0 : Nat} {P : List UInt8} {k : Nat} {s : St} (h : Good at0 P k s) : Good at0 P k s.go.1 := by
  unfold St.go
  split
  · exact h
  · exact ⟨h.len, h.page, h.off, h.wl, h.age⟩
theorem Good.wrote {at0 : Nat} {P : List UInt8} {k : Nat} {s : St} (h : Good at0 P k s) (i : Int) (l : List UInt8) (hi : i ≠ (at0 : Int)) : Good at0 P (k + 1) (s.wrote i l).1 := by
  unfold St.wrote
  split
  · exact h.mono (by omega)
  · split
    · exact h.mono (by omega)
    · rename_i _ hr
      split
      · exact h.mono (by omega)
      · split
        · exact h.go.mono (by omega)
        · refine ⟨h.go.len, h.go.page, fun x hx => ?_, by have := h.go.wl; simp; omega, by have := h.go.age; simp only; omega⟩
          rcases List.mem_append.1 hx with h0 | h0
          · exact h.go.off x h0
          · rw [List.mem_singleton] at h0
            subst h0
            simp only
            omega
theorem laid_at (ws : List (Nat × List UInt8)) (i : Nat) : ∀ (l : List (List UInt8)), (∀ x ∈ ws, x.1 ≠ i) → (laid l ws)[i]? = l[i]? := by
  induction ws with
  | nil => intro l _; rfl
  | cons x t ih =>
    intro l h
    show (laid (l.set x.1 x.2) t)[i]? = _
    rw [ih _ (fun y hy => h y (List.mem_cons_of_mem _ hy)), List.getElem?_set_ne (h x (List.mem_cons_self ..))]
theorem Good.flushed {at0 : Nat} {P : List UInt8} {k : Nat} {s : St} (h : Good at0 P k s) : Good at0 P (k + 1) s.flushed.1 := by
  unfold St.flushed
  split
  · exact h.mono (by omega)
  · split
    · exact h.go.mono (by omega)
    · exact ⟨by simp only [laid_len]; exact h.len, by simp only; rw [laid_at _ _ _ h.off]; exact h.page, fun x hx => by simp at hx, by simp, by have := h.go.age; simp only; omega⟩
theorem Good.cutS {at0 : Nat} {P : List UInt8} {k : Nat} {s : St} (h : Good at0 P k s) (n : Int) : Good at0 P (k + 1) (s.cutS n) := by
  unfold St.cutS
  split
  · exact h.mono (by omega)
  · split
    · exact h.mono (by omega)
    · exact ⟨h.len, h.page, h.off, by have := h.wl; simp only; omega, by have := h.age; simp only; omega⟩
theorem crashL_at (f : Nat → Nat) (l : List (List UInt8)) (ws : List (Nat × List UInt8)) (i : Nat) (h : ∀ x ∈ ws, x.1 ≠ i) : ∀ k, (crashL f l ws k)[i]? = l[i]?
  | 0 => rfl
  | k + 1 => by
    unfold crashL
    split
    · rename_i x hx
      rw [List.getElem?_set_ne (h x (List.mem_of_getElem? hx)), crashL_at f l ws i h k]
    · exact crashL_at f l ws i h k
theorem Good.crashed {at0 : Nat} {P : List UInt8} {k : Nat} {s : St} (h : Good at0 P k s) (keep : List Bool) (torn at' : Int) : Good at0 P (k + 1) (s.crashed keep torn at') := by
  unfold St.crashed
  exact ⟨by simp only [crashL_len]; exact h.len, by simp only; rw [crashL_at _ _ _ _ h.off]; exact h.page, fun x hx => by simp at hx, by simp, by have := h.age; simp only; omega⟩
theorem Good.reads {at0 : Nat} {P : List UInt8} {k : Nat} {s : St} (h : Good at0 P k s) : s.reads at0 = P := by
  have hn : s.waits.reverse.find? (fun x => x.1 == at0) = none := by
    rw [List.find?_eq_none]
    intro x hx
    have := h.off x (List.mem_reverse.1 hx)
    simpa using this
  unfold St.reads
  rw [hn]
  simp [List.getD, h.page]
theorem good_start (at0 : Nat) (b : List UInt8) (ha : at0 < 8) (hb : b.length ≤ 64) : ∃ s1 s2 : St, (St.new 8).wrote (at0 : Int) b = (s1, 0) ∧ s1.flushed = (s2, 0) ∧ Good at0 (pad b) 1 s2 := by
  have e1 : (St.new 8).wrote (at0 : Int) b = ({ St.new 8 with waits := [(at0, pad b)] }, 0) := by
    unfold St.wrote
    rw [if_neg (by simp [St.new]), if_neg (by simp [St.new]; omega), if_neg (by omega), if_neg (by rw [show (St.new 8).go = (St.new 8, false) from rfl]; simp), Int.toNat_natCast]
    rfl
  refine ⟨_, _, e1, rfl, ⟨by simp [laid, St.new], ?_, fun x hx => by simp at hx, by simp, by show (St.new 8).age ≤ 1; decide⟩⟩
  show ((List.replicate 8 zeroP).set at0 (pad b))[at0]? = some (pad b)
  rw [List.getElem?_set_self (by simpa using ha)]
end Go.Proofs.Ytohmofhpbmhhjaa
