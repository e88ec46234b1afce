/- Bag: the program's bag and the document's, side by side. -/
import Derived.Test.YtdcpdeiljabkaaaN13
import Derived.Test.YtdcpdeiljabkaaaN14
namespace Go.Proofs.Ytdcpdeiljabkaaa
open Go Go.RowKit

/-- The program's bag b in block p and the document's r in block q; E: blocks that stand whatever is done; D: the caller's own among them. -/
structure TwoM (E D : Nat → Prop) (N : Nat) (w0 w : World) (p q : Nat) (b r : Bg) (c : Nat) (sv : Value) (ps : List UV) (av : Value) (us : List UV) (tv : Value) (ts : List Bool) : Prop where
  bag : BagAt N w p b sv ps
  ref : RK N w q r c av us tv ts
  ap : ∀ g, (g = p ∨ HasU sv ps g) → g ≠ q ∧ av.ownBlock ≠ some g ∧ tv.ownBlock ≠ some g
  out : ∀ g, E g → g < w.heap.size ∧ g ≠ p ∧ ¬ HasU sv ps g ∧ g ≠ q
  own : ∀ g, D g → E g ∧ N ≤ g ∧ av.ownBlock ≠ some g ∧ tv.ownBlock ≠ some g
  bel : Below N w0 w
  fit : b.us.length ≤ b.most ∧ b.most ≤ 48 ∧ r.most ≤ 48 ∧ b.lost ≤ c ∧ r.lost ≤ c
  byt : ∀ x ∈ b.us, x.bytes.length ≤ 2006
def Two (E D : Nat → Prop) (N : Nat) (w0 w : World) (p q : Nat) (b r : Bg) (c : Nat) : Prop := ∃ sv ps av us tv ts, TwoM E D N w0 w p q b r c sv ps av us tv ts
section
variable {E D : Nat → Prop} {N : Nat} {w0 w : World} {p q : Nat} {b r : Bg} {c : Nat} {sv : Value} {ps : List UV} {av : Value} {us : List UV} {tv : Value} {ts : List Bool}
theorem TwoM.ns (H : TwoM E D N w0 w p q b r c sv ps av us tv ts) : N ≤ w.heap.size := Nat.le_trans H.bag.base (Nat.le_of_lt H.bag.lt)
theorem TwoM.blk (H : TwoM E D N w0 w p q b r c sv ps av us tv ts) : ∀ g, (g = p ∨ HasU sv ps g) → g < w.heap.size := fun g hg => by
  rcases hg with rfl | hg
  · exact H.bag.lt
  · exact (H.bag.us.has g hg).2
theorem TwoM.rblk (H : TwoM E D N w0 w p q b r c sv ps av us tv ts) : ∀ g, (g = q ∨ HasB av us g ∨ tv.ownBlock = some g) → g < w.heap.size := fun g hg => by
  rcases hg with rfl | hg | hg
  · exact H.ref.rb.lt
  · exact H.ref.rb.all.lt g hg
  · exact (World.ownsRow.lt H.ref.rb.tr g hg).2
theorem TwoM.below (H : TwoM E D N w0 w p q b r c sv ps av us tv ts) {w' : World} (hb : Below w.heap.size w w') : TwoM E D N w0 w' p q b r c sv ps av us tv ts :=
  ⟨H.bag.below hb, H.ref.below hb, H.ap, fun g hg => ⟨Nat.lt_of_lt_of_le (H.out g hg).1 hb.size, (H.out g hg).2⟩, H.own, H.bel.trans (hb.mono H.ns), H.fit, H.byt⟩
theorem Two.below (H : Two E D N w0 w p q b r c) {w' : World} (hb : Below w.heap.size w w') : Two E D N w0 w' p q b r c := by
  obtain ⟨sv, ps, av, us, tv, ts, H⟩ := H
  exact ⟨sv, ps, av, us, tv, ts, H.below hb⟩
theorem Two.bel (H : Two E D N w0 w p q b r c) : Below N w0 w := by
  obtain ⟨sv, ps, av, us, tv, ts, H⟩ := H
  exact H.bel
theorem Two.elt (H : Two E D N w0 w p q b r c) : ∀ g, E g → g < w.heap.size := by
  obtain ⟨sv, ps, av, us, tv, ts, H⟩ := H
  exact fun g hg => (H.out g hg).1
theorem Two.ns (H : Two E D N w0 w p q b r c) : N ≤ w.heap.size := by
  obtain ⟨sv, ps, av, us, tv, ts, H⟩ := H
  exact H.ns
/-- The caller writes to its own. -/
theorem Two.fr (H : Two E D N w0 w p q b r c) {w' : World} {o : Nat → Prop} (hf : Fr o w w') (ho : ∀ k, o k → k < w.heap.size → D k) : Two E D N w0 w' p q b r c := by
  obtain ⟨sv, ps, av, us, tv, ts, H⟩ := H
  have hns := H.ns
  refine ⟨sv, ps, av, us, tv, ts, H.bag.kept hf.size (fun g hg => hf.block g (H.blk g hg) (fun e => ?_)), ⟨H.ref.rb.kept hf.size (fun g hg => hf.block g (H.rblk g hg) (fun e => ?_)), H.ref.cur, H.ref.low, H.ref.cnt⟩, H.ap, fun g hg => ⟨Nat.lt_of_lt_of_le (H.out g hg).1 hf.size, (H.out g hg).2⟩, H.own, H.bel.trans (hf.below hns (fun k e => ?_)), H.fit, H.byt⟩
  · have h1 := H.out g (H.own g (ho g e (H.blk g hg))).1
    rcases hg with hg | hg
    · exact h1.2.1 hg
    · exact h1.2.2.1 hg
  · have hd := H.own g (ho g e (H.rblk g hg))
    rcases hg with hg | (hg | ⟨x, hx, hne, hg⟩) | hg
    · exact (H.out g hd.1).2.2.2 hg
    · exact hd.2.2.1 hg
    · have := H.ref.low x hx hne g hg; omega
    · exact hd.2.2.2 hg
  · by_cases hk : k < w.heap.size
    · exact (H.own k (ho k e hk)).2.1
    · omega
/-- The program's bag became another one. -/
theorem TwoM.opX (H : TwoM E D N w0 w p q b r c sv ps av us tv ts) {w' : World} {b' : Bg} {sv' : Value} {ps' : List UV} {X : Nat → Prop} (h1 : BagAt N w' p b' sv' ps') (hf : Fr (fun k => k = p ∨ sv.ownBlock = some k) w w')
    (hn : ∀ g, HasU sv' ps' g → HasU sv ps g ∨ (w.heap.size ≤ g ∧ ¬ X g)) (hX : ∀ k, X k → w.heap.size ≤ k ∧ k < w'.heap.size) (hfit : b'.us.length ≤ b'.most ∧ b'.most ≤ 48 ∧ b'.lost ≤ c + 1) (hbyt : ∀ x ∈ b'.us, x.bytes.length ≤ 2006) :
    Two (fun k => E k ∨ X k) (fun k => D k ∨ X k) N w0 w' p q b' r (c + 1) ∧ ∀ g, E g → w'.heap[g]? = w.heap[g]? := by
  have hns := H.ns
  have hsv := svlow H.bag
  have hne : ∀ g, ¬ (g = p ∨ HasU sv ps g) → ¬ (g = p ∨ sv.ownBlock = some g) := fun g h e => h (e.imp id Or.inl)
  have hold : ∀ g, (g = q ∨ HasB av us g ∨ tv.ownBlock = some g) → w'.heap[g]? = w.heap[g]? := fun g hg => hf.block g (H.rblk g hg) (fun e => by
    have e' : g = p ∨ HasU sv ps g := e.imp id Or.inl
    have ha := H.ap g e'
    rcases hg with hg | (hg | ⟨x, hx, hne, hg⟩) | hg
    · exact ha.1 hg
    · exact ha.2.1 hg
    · have := H.ref.low x hx hne g hg
      have hp := H.bag.base
      rcases e with e | e
      · omega
      · have := hsv g e; omega
    · exact ha.2.2 hg)
  refine ⟨⟨sv', ps', av, us, tv, ts, h1, ⟨H.ref.rb.kept hf.size hold, H.ref.cur, H.ref.low, by have := H.ref.cnt; omega⟩, fun g hg => ?_, fun g hg => ?_, fun g hg => ?_, H.bel.trans (hf.below hns (fun k e => by rcases e with rfl | e; exact H.bag.base; exact hsv k e)), ⟨hfit.1, hfit.2.1, H.fit.2.2.1, hfit.2.2, by have := H.fit.2.2.2.2; omega⟩, hbyt⟩, fun g hg => hf.block g (H.out g hg).1 (hne g (fun e => by rcases e with e | e; exact (H.out g hg).2.1 e; exact (H.out g hg).2.2.1 e))⟩
  · rcases hg with hg | hg
    · exact H.ap g (Or.inl hg)
    · rcases hn g hg with h | ⟨h, _⟩
      · exact H.ap g (Or.inr h)
      · refine ⟨fun e => ?_, fun e => ?_, fun e => ?_⟩
        · have := H.ref.rb.lt; omega
        · have := (World.ownsRow.lt H.ref.rb.all.own g e).2; omega
        · have := (World.ownsRow.lt H.ref.rb.tr g e).2; omega
  · rcases hg with hg | hg
    · obtain ⟨g1, g2, g3, g4⟩ := H.out g hg
      refine ⟨Nat.lt_of_lt_of_le g1 hf.size, g2, fun e => ?_, g4⟩
      rcases hn g e with h | ⟨h, _⟩
      · exact g3 h
      · omega
    · obtain ⟨x1, x2⟩ := hX g hg
      refine ⟨x2, fun e => ?_, fun e => ?_, fun e => ?_⟩
      · have := H.bag.lt; omega
      · rcases hn g e with h | ⟨_, h⟩
        · have := (H.bag.us.has g h).2; omega
        · exact h hg
      · have := H.ref.rb.lt; omega
  · rcases hg with hg | hg
    · obtain ⟨g1, g2⟩ := H.own g hg
      exact ⟨Or.inl g1, g2⟩
    · obtain ⟨x1, x2⟩ := hX g hg
      refine ⟨Or.inr hg, by omega, fun e => ?_, fun e => ?_⟩
      · have := (World.ownsRow.lt H.ref.rb.all.own g e).2; omega
      · have := (World.ownsRow.lt H.ref.rb.tr g e).2; omega
theorem Two.weak (H : Two E D N w0 w p q b r c) (E' D' : Nat → Prop) (hE : ∀ k, E' k → E k) (hD : ∀ k, D' k → D k ∧ E' k) : Two E' D' N w0 w p q b r c := by
  obtain ⟨sv, ps, av, us, tv, ts, H⟩ := H
  exact ⟨sv, ps, av, us, tv, ts, H.bag, H.ref, H.ap, fun g hg => H.out g (hE g hg), fun g hg => ⟨(hD g hg).2, (H.own g (hD g hg).1).2⟩, H.bel, H.fit, H.byt⟩
theorem TwoM.op (H : TwoM E D N w0 w p q b r c sv ps av us tv ts) {w' : World} {b' : Bg} (h : OpR N w p sv ps b' w') (hfit : b'.us.length ≤ b'.most ∧ b'.most ≤ 48 ∧ b'.lost ≤ c + 1) (hbyt : ∀ x ∈ b'.us, x.bytes.length ≤ 2006) :
    Two E D N w0 w' p q b' r (c + 1) ∧ ∀ g, E g → w'.heap[g]? = w.heap[g]? := by
  obtain ⟨sv', ps', h1, hf, hn⟩ := h
  obtain ⟨h2, h3⟩ := H.opX (X := fun _ => False) h1 hf (fun g hg => (hn g hg).imp id (fun h => ⟨h, id⟩)) (fun k e => e.elim) hfit hbyt
  refine ⟨h2.weak E D (fun k h => Or.inl h) (fun k h => ⟨Or.inl h, ?_⟩), h3⟩
  exact (H.own k h).1
/-- The document's bag became another one. -/
theorem TwoM.rop (H : TwoM E D N w0 w p q b r c sv ps av us tv ts) {w' : World} {r' : Bg} {c' : Nat} (h : RefR N w q c' av tv r' w') (hc : c ≤ c') (hfit : r'.most ≤ 48 ∧ r'.lost ≤ c') :
    Two E D N w0 w' p q b r' c' ∧ ∀ g, E g → w'.heap[g]? = w.heap[g]? := by
  obtain ⟨av', us', tv', ts', h1, hf, h3, h4⟩ := h
  have hns := H.ns
  refine ⟨⟨sv, ps, av', us', tv', ts', H.bag.kept hf.size (fun g hg => hf.block g (H.blk g hg) (H.ap g hg).1), h1, fun g hg => ?_, fun g hg => ⟨Nat.lt_of_lt_of_le (H.out g hg).1 hf.size, (H.out g hg).2⟩, fun g hg => ?_, H.bel.trans (hf.below hns (fun k e => by rw [e]; exact H.ref.rb.base)), ⟨H.fit.1, H.fit.2.1, hfit.1, by have := H.fit.2.2.2.1; omega, hfit.2⟩, H.byt⟩, fun g hg => hf.block g (H.out g hg).1 (H.out g hg).2.2.2⟩
  · have ha := H.ap g hg
    have hb := H.blk g hg
    refine ⟨ha.1, fun e => ?_, fun e => ?_⟩
    · rcases h3 g e with h | h
      · exact ha.2.1 h
      · omega
    · rcases h4 g e with h | h
      · exact ha.2.2 h
      · omega
  · obtain ⟨g1, g2, g3, g4⟩ := H.own g hg
    have hb := (H.out g g1).1
    refine ⟨g1, g2, fun e => ?_, fun e => ?_⟩
    · rcases h3 g e with h | h
      · exact g3 h
      · omega
    · rcases h4 g e with h | h
      · exact g4 h
      · omega
/-- Blocks of the caller's own are new. -/
theorem Two.widen (H : Two E D N w0 w p q b r c) {w' : World} (hb : Below w.heap.size w w') (X : Nat → Prop) (hX : ∀ k, X k → w.heap.size ≤ k ∧ k < w'.heap.size) : Two (fun k => E k ∨ X k) (fun k => D k ∨ X k) N w0 w' p q b r c := by
  obtain ⟨sv, ps, av, us, tv, ts, H⟩ := H
  have H' := H.below hb
  refine ⟨sv, ps, av, us, tv, ts, H'.bag, H'.ref, H.ap, fun g hg => ?_, fun g hg => ?_, H'.bel, H.fit, H.byt⟩
  · rcases hg with hg | hg
    · exact H'.out g hg
    · obtain ⟨x1, x2⟩ := hX g hg
      exact ⟨x2, fun e => by have := H.bag.lt; omega, fun e => by have := (H.bag.us.has g e).2; omega, fun e => by have := H.ref.rb.lt; omega⟩
  · rcases hg with hg | hg
    · exact ⟨Or.inl (H.own g hg).1, (H.own g hg).2⟩
    · obtain ⟨x1, x2⟩ := hX g hg
      have := H.ns
      exact ⟨Or.inr hg, by omega, fun e => by have := (World.ownsRow.lt H.ref.rb.all.own g e).2; omega, fun e => by have := (World.ownsRow.lt H.ref.rb.tr g e).2; omega⟩
def Same2 (E : Nat → Prop) (w w' : World) : Prop := ∀ g, E g → w'.heap[g]? = w.heap[g]?
theorem add_fit {b : Bg} {x : Und} {c : Nat} (h1 : b.us.length ≤ b.most) (h2 : b.most ≤ 48) (h3 : b.lost ≤ c) (h4 : ∀ x ∈ b.us, x.bytes.length ≤ 2006) : ((b.add x).2.us.length ≤ (b.add x).2.most ∧ (b.add x).2.most ≤ 48 ∧ (b.add x).2.lost ≤ c + 1) ∧ ∀ y ∈ (b.add x).2.us, y.bytes.length ≤ 2006 := by
  rcases add_cases b x with ⟨_, e⟩ | ⟨_, e, _⟩ | ⟨_, e, e3, e4⟩
  · rw [e]; exact ⟨⟨h1, h2, by omega⟩, h4⟩
  · rw [e]; exact ⟨⟨h1, h2, by show b.lost + 1 ≤ c + 1; omega⟩, h4⟩
  · rw [e]
    refine ⟨⟨by show (b.us ++ [x]).length ≤ b.most; rw [List.length_append, List.length_singleton]; omega, h2, by show b.lost ≤ c + 1; omega⟩, fun y hy => ?_⟩
    rcases List.mem_append.1 hy with hy | hy
    · exact h4 y hy
    · rw [List.mem_singleton.1 hy]; exact e4
theorem cut_fit {b : Bg} {k : Nat} (h4 : ∀ x ∈ b.us, x.bytes.length ≤ 2006) : (b.cut k).us.length ≤ b.us.length ∧ ∀ y ∈ (b.cut k).us, y.bytes.length ≤ 2006 :=
  ⟨by unfold Bg.cut; simp only [List.length_eraseIdx]; split <;> omega, cut_mem h4⟩
theorem two_add (H : Two E D N w0 w p q b r c) (x : Und) (pv : Value) (hz : Byz w pv x.bytes) (hl : x.bytes.length ≤ 9223372036854775807) (hc : c ≤ 900) :
    Calls Try.prog 10 #[.pointer (some ⟨p, 0, none⟩), .agg #[.int .i64 x.src, .int .i64 x.dst, pv]] w fun e w' => e = .returned (.int .i64 (b.add x).1) ∧ Two E D N w0 w' p q (b.add x).2 r (c + 1) ∧ Same2 E w w' := by
  obtain ⟨sv, ps, av, us, tv, ts, H⟩ := H
  have hf := H.fit
  refine (add_any N p w b sv ps x pv H.bag hz hl (by omega) (by omega) (by omega)).mono ?_
  rintro e w' ⟨rfl, hop⟩
  obtain ⟨f1, f2⟩ := add_fit (x := x) hf.1 hf.2.1 hf.2.2.2.1 H.byt
  exact ⟨rfl, H.op hop f1 f2⟩
theorem two_radd (H : Two E D N w0 w p q b r c) (x : Und) (pv : Value) (hz : Byz w pv x.bytes) (hlow : x.bytes ≠ [] → ∀ g, pv.ownBlock = some g → g < N) (hl : x.bytes.length ≤ 9223372036854775807) (hc : c ≤ 899) :
    Calls Try.prog 27 #[.pointer (some ⟨q, 0, none⟩), .agg #[.int .i64 x.src, .int .i64 x.dst, pv]] w fun e w' => e = .returned (.int .i64 (r.add x).1) ∧ Two E D N w0 w' p q b (r.add x).2 (c + 1) ∧ Same2 E w w' := by
  obtain ⟨sv, ps, av, us, tv, ts, H⟩ := H
  have hf := H.fit
  refine (radd_any N q c w r av tv us ts x pv H.ref hz hlow hl (by omega) (by omega) (by omega)).mono ?_
  rintro e w' ⟨rfl, hop⟩
  refine ⟨rfl, H.rop hop (by omega) ?_⟩
  rcases add_cases r x with ⟨_, e⟩ | ⟨_, e, _⟩ | ⟨_, e, _⟩
  · rw [e]; exact ⟨hf.2.2.1, by omega⟩
  · rw [e]; exact ⟨hf.2.2.1, by show r.lost + 1 ≤ c + 1; omega⟩
  · rw [e]; exact ⟨hf.2.2.1, by show r.lost ≤ c + 1; omega⟩
theorem lose_fit {b : Bg} {i : Int} {c : Nat} (h1 : b.us.length ≤ b.most) (h2 : b.most ≤ 48) (h3 : b.lost ≤ c) (h4 : ∀ x ∈ b.us, x.bytes.length ≤ 2006) : ((b.lose i).2.us.length ≤ (b.lose i).2.most ∧ (b.lose i).2.most ≤ 48 ∧ (b.lose i).2.lost ≤ c + 1) ∧ ∀ y ∈ (b.lose i).2.us, y.bytes.length ≤ 2006 := by
  unfold Bg.lose
  by_cases hi : b.has i = true
  · obtain ⟨g1, g2⟩ := cut_fit (k := i.toNat) h4
    simp only [if_pos hi]
    exact ⟨⟨by show (b.cut i.toNat).us.length ≤ b.most; omega, h2, by show b.lost + 1 ≤ c + 1; omega⟩, g2⟩
  · simp only [if_neg hi]
    exact ⟨⟨h1, h2, by omega⟩, h4⟩
theorem two_lose (H : Two E D N w0 w p q b r c) (i : Int) (hc : c ≤ 900) :
    Calls Try.prog 12 #[.pointer (some ⟨p, 0, none⟩), .int .i64 i] w fun e w' => e = .returned (.int .i64 (b.lose i).1) ∧ Two E D N w0 w' p q (b.lose i).2 r (c + 1) ∧ Same2 E w w' := by
  obtain ⟨sv, ps, av, us, tv, ts, H⟩ := H
  have hf := H.fit
  refine (lose_any N p w b sv ps i H.bag (by omega) (by omega)).mono ?_
  rintro e w' ⟨rfl, hop⟩
  obtain ⟨f1, f2⟩ := lose_fit (i := i) hf.1 hf.2.1 hf.2.2.2.1 H.byt
  exact ⟨rfl, H.op hop.op f1 f2⟩
theorem two_rlose (H : Two E D N w0 w p q b r c) (i : Int) (hib : i ≤ 9223372036854775807) (hc : c ≤ 900) :
    Calls Try.prog 29 #[.pointer (some ⟨q, 0, none⟩), .int .i64 i] w fun e w' => e = .returned (.int .i64 (r.lose i).1) ∧ Two E D N w0 w' p q b (r.lose i).2 (c + 1) ∧ Same2 E w w' := by
  obtain ⟨sv, ps, av, us, tv, ts, H⟩ := H
  have hf := H.fit
  refine (rlose_any N q c w r av tv us ts i H.ref (by omega) hib (by omega)).mono ?_
  rintro e w' ⟨rfl, hop⟩
  obtain ⟨av', us', tv', ts', k1, k2, k3, k4⟩ := hop
  refine ⟨rfl, H.rop ⟨av', us', tv', ts', ⟨k1.rb, k1.cur, k1.low, by have := k1.cnt; omega⟩, k2, k3, k4⟩ (by omega) ?_⟩
  unfold Bg.lose
  by_cases hi : r.has i = true
  · simp only [if_pos hi]
    exact ⟨hf.2.2.1, by show r.lost + 1 ≤ c + 1; omega⟩
  · simp only [if_neg hi]
    exact ⟨hf.2.2.1, by omega⟩
theorem two_first (H : Two E D N w0 w p q b r c) (t : Int) :
    Calls Try.prog 21 #[.pointer (some ⟨p, 0, none⟩), .int .i64 t] w fun e w' => e = .returned (.tuple #[.int .i64 (firstF t 0 b.us).1, .bool (firstF t 0 b.us).2]) ∧ w = w' := by
  obtain ⟨sv, ps, av, us, tv, ts, H⟩ := H
  have hf := H.fit
  exact first_any N p w b sv ps t H.bag (by omega)
theorem two_rfirst (H : Two E D N w0 w p q b r c) (t : Int) (hc : c ≤ 900) :
    Calls Try.prog 30 #[.pointer (some ⟨q, 0, none⟩), .int .i64 t] w fun e w' => e = .returned (.tuple #[.int .i64 (firstF t 0 r.us).1, .bool (firstF t 0 r.us).2]) ∧ w = w' := by
  obtain ⟨sv, ps, av, us, tv, ts, H⟩ := H
  exact rfirst_any N q c w r av tv us ts t H.ref (by omega)
theorem two_len (H : Two E D N w0 w p q b r c) : Calls Try.prog 13 #[.pointer (some ⟨p, 0, none⟩)] w fun e w' => e = .returned (.int .i64 (b.us.length : Int)) ∧ w = w' := by
  obtain ⟨sv, ps, av, us, tv, ts, H⟩ := H
  exact len_any N p w b sv ps H.bag
theorem two_lost (H : Two E D N w0 w p q b r c) : Calls Try.prog 14 #[.pointer (some ⟨p, 0, none⟩)] w fun e w' => e = .returned (.int .i64 (b.lost : Int)) ∧ w = w' := by
  obtain ⟨sv, ps, av, us, tv, ts, H⟩ := H
  exact lost_any N p w b sv ps H.bag
theorem two_rlen (H : Two E D N w0 w p q b r c) (hc : c ≤ 900) : Calls Try.prog 20 #[.pointer (some ⟨q, 0, none⟩)] w fun e w' => e = .returned (.int .i64 (r.us.length : Int)) ∧ w = w' := by
  obtain ⟨sv, ps, av, us, tv, ts, H⟩ := H
  rw [← H.ref.len]
  exact rlen_any N q r.most r.lost w av tv us ts H.ref.rb (by have := H.ref.cnt; have := H.ref.rb.len; omega)
theorem two_gone (H : Two E D N w0 w p q b r c) : w.cell? ⟨q, 3, none⟩ = some (.int .i64 (r.lost : Int)) := by
  obtain ⟨sv, ps, av, us, tv, ts, H⟩ := H
  exact H.ref.rb.cells.2.2.2.1
/-- What Take tells, and what is left. -/
def Bg.take (b : Bg) (i : Int) : Und × Int := if b.has i = true then (b.us.getD i.toNat ⟨0, 0, []⟩, 0) else (⟨0, 0, []⟩, 2)
def Bg.took (b : Bg) (i : Int) (keep : Bool) : Bg := if b.has i = true then (if keep = true then b else b.cut i.toNat) else b
def OwnV (v : Value) (k : Nat) : Prop := v.ownBlock = some k
theorem two_take (H : Two E D N w0 w p q b r c) (i : Int) (keep : Bool) (hc : c ≤ 900) :
    Calls Try.prog 11 #[.pointer (some ⟨p, 0, none⟩), .int .i64 i, .bool keep] w fun e w' => ∃ (x : Und) (v : Value) (f : Int), e = .returned (.tuple #[.agg #[.int .i64 x.src, .int .i64 x.dst, v], .int .i64 f]) ∧ b.take i = (x, f) ∧ Row w.heap.size w' v x.bytes ∧ Two (fun k => E k ∨ OwnV v k) (fun k => D k ∨ OwnV v k) N w0 w' p q (b.took i keep) r (c + 1) ∧ Same2 E w w' := by
  obtain ⟨sv, ps, av, us, tv, ts, H⟩ := H
  have hf := H.fit
  have hbyt := H.byt
  refine (take_any N p w b sv ps i keep H.bag (by omega) hbyt).mono ?_
  rintro e w' (⟨h1, rfl, hop⟩ | ⟨x, a, k, h1, hx, rfl, hrow, hop⟩)
  · obtain ⟨sv', ps', k1, k2, k3⟩ := hop
    refine ⟨⟨0, 0, []⟩, .slice none 0 0, 2, rfl, by unfold Bg.take; rw [h1]; rfl, Row.nil _ _, ?_⟩
    unfold Bg.took
    rw [h1, if_neg (by simp)]
    exact H.opX k1 k2 (fun g hg => Or.inl (k3 g hg)) (fun k e => by simp [OwnV, Value.ownBlock] at e) ⟨hf.1, hf.2.1, by omega⟩ hbyt
  · obtain ⟨sv', ps', k1, k2, k3⟩ := hop
    refine ⟨x, _, 0, rfl, ?_, hrow, ?_⟩
    · unfold Bg.take
      rw [if_pos h1, List.getD_eq_getElem?_getD, hx]; rfl
    · unfold Bg.took
      rw [if_pos h1]
      refine H.opX k1 k2 (fun g hg => Or.inl (k3 g hg)) (fun k e => ⟨row_base hrow k e, hrow.1.lt k e⟩) ?_ ?_
      · split
        · exact ⟨hf.1, hf.2.1, by omega⟩
        · have := (cut_fit (k := i.toNat) hbyt).1
          exact ⟨by show (b.cut i.toNat).us.length ≤ b.most; omega, hf.2.1, by show b.lost ≤ c + 1; omega⟩
      · split
        · exact hbyt
        · exact (cut_fit hbyt).2
theorem two_rtake (H : Two E D N w0 w p q b r c) (i : Int) (keep : Bool) (hib : i ≤ 9223372036854775807) (hc : c ≤ 900) :
    Calls Try.prog 28 #[.pointer (some ⟨q, 0, none⟩), .int .i64 i, .bool keep] w fun e w' => ∃ (x : Und) (v : Value) (f : Int), e = .returned (.tuple #[.agg #[.int .i64 x.src, .int .i64 x.dst, v], .int .i64 f]) ∧ r.take i = (x, f) ∧ Byz w' v x.bytes ∧ Two E D N w0 w' p q b (r.took i keep) (c + 1) ∧ Same2 E w w' := by
  obtain ⟨sv, ps, av, us, tv, ts, H⟩ := H
  have hf := H.fit
  have hlow := H.ref.low
  refine (rtake_any N q c w r av tv us ts i keep H.ref (by omega) hib).mono ?_
  rintro e w' (⟨h1, rfl, hop⟩ | ⟨x, a, k, h1, hx, rfl, hrow, hop⟩)
  · obtain ⟨av', us', tv', ts', k1, k2, k3, k4⟩ := hop
    refine ⟨⟨0, 0, []⟩, .slice none 0 0, 2, rfl, by unfold Bg.take; rw [h1]; rfl, (Byt.nil _).z, ?_⟩
    unfold Bg.took
    rw [h1, if_neg (by simp)]
    exact H.rop ⟨av', us', tv', ts', ⟨k1.rb, k1.cur, k1.low, by have := k1.cnt; omega⟩, k2, k3, k4⟩ (by omega) ⟨hf.2.2.1, by omega⟩
  · obtain ⟨av', us', tv', ts', k1, k2, k3, k4⟩ := hop
    refine ⟨x, _, 0, rfl, ?_, hrow, ?_⟩
    · unfold Bg.take
      rw [if_pos h1, List.getD_eq_getElem?_getD, hx]; rfl
    · unfold Bg.took
      rw [if_pos h1]
      refine H.rop ⟨av', us', tv', ts', ⟨k1.rb, k1.cur, k1.low, by have := k1.cnt; omega⟩, k2, k3, k4⟩ (by omega) ?_
      split
      · exact ⟨hf.2.2.1, by omega⟩
      · exact ⟨hf.2.2.1, by show r.lost ≤ c + 1; omega⟩
end
theorem own_bytes (w : World) (v : Value) (l : List UInt8) (hz : Byz w v l) (hl : l.length ≤ 140737488351232) :
    ∃ v' w', (∀ ty, (Builtin.append_ #[32, 32] ty #[.slice (some ⟨w.heap.size, 0, none⟩) 0 0, v]).run Try.prog (w.alloc (.cells #[] 5)) = .ok v' w') ∧ Row w.heap.size w' v' l ∧ Below w.heap.size w w' ∧ ∀ g, v'.ownBlock = some g → w.heap.size ≤ g := by
  obtain ⟨i0, hi0, hz0, hz1, hz2⟩ := info_parts (show (Try.prog.info? 5).map (fun i => (i.zero, i.size, i.bytes)) = some (some (.int .u8 0), 1, 1) by kernel_rfl)
  have hb1 : Below w.heap.size w (w.alloc (.cells #[] 5)) := (Below.refl _ w).alloc (Nat.le_refl _) _
  have hr := Row.made w 5 [] #[] rfl (Nat.le_refl w.heap.size) (by decide)
  obtain ⟨v', w', hrun, h2, h3, h4⟩ := run_append_src (P := Try.prog) (w.alloc (.cells #[] 5)) 32 32 5 i0 Try.underlying32 hi0 hz0 hz1 hz2 hr ((hz.below hb1).src Try.underlying32) hb1.size (by simp only [List.length_nil]; omega)
  refine ⟨v', w', hrun, by simpa using h2, hb1.grown h3 hb1.size (fun k hk => by simp [Value.ownBlock] at hk; omega), fun g hg => ?_⟩
  rcases h4 with h | h
  · rw [h] at hg
    simp [Value.ownBlock] at hg
    omega
  · exact Nat.le_trans hb1.size (h g hg)
/-- n bytes that may be written. -/
def Flips (w : World) (v : Value) (n : Nat) : Prop := ∃ a c, v = .slice a n c ∧ (0 < n → ∃ g o, a = some ⟨g, o, none⟩ ∧ ∀ j, j < n → (∃ b : Nat, b < 256 ∧ w.cell? ⟨g, o + j, none⟩ = some (.int .u8 (b : Int))) ∧ w.frozen? ⟨g, o + j, none⟩ = false)
theorem Flips.kept {w w' : World} {v : Value} {n : Nat} (h : Flips w v n) (hk : ∀ g, v.ownBlock = some g → w'.heap[g]? = w.heap[g]?) : Flips w' v n := by
  obtain ⟨a, c, rfl, h⟩ := h
  refine ⟨a, c, rfl, fun hn => ?_⟩
  obtain ⟨g, o, rfl, hj⟩ := h hn
  refine ⟨g, o, rfl, fun j hjn => ?_⟩
  obtain ⟨⟨b, hb, h1⟩, h2⟩ := hj j hjn
  exact ⟨⟨b, hb, (World.cell?_of_block (a := ⟨g, o + j, none⟩) (hk g rfl)).trans h1⟩, (World.frozen?_of_block (a := ⟨g, o + j, none⟩) (hk g rfl)).trans h2⟩
theorem Flips.set {w : World} {g o n c k : Nat} (h : Flips w (.slice (some ⟨g, o, none⟩) n c) n) (b : Nat) (hb : b < 256) : Flips (w.setCell ⟨g, o + k, none⟩ (.int .u8 (b : Int))) (.slice (some ⟨g, o, none⟩) n c) n := by
  obtain ⟨a, c', he, h⟩ := h
  cases he
  refine ⟨_, _, rfl, fun hn => ?_⟩
  obtain ⟨g', o', he, hj⟩ := h hn
  cases he
  refine ⟨g, o, rfl, fun j hjn => ?_⟩
  obtain ⟨⟨b', hb', h1⟩, h2⟩ := hj j hjn
  refine ⟨?_, by rw [World.frozen?_setCell]; exact h2⟩
  by_cases hjk : j = k
  · subst hjk
    exact ⟨b, hb, World.cell?_setCell_same w _ _ h1⟩
  · refine ⟨b', hb', Eq.trans (World.cell?_setCell_other (h := ?_) ..) h1⟩
    intro e
    injection e with _ e
    omega
theorem flips_row {w : World} {v : Value} {l : List UInt8} {B : Nat} (h : Row B w v l) : Flips w v l.length := by
  obtain ⟨⟨a, cap, rfl, h2, h3, h4⟩, hr⟩ := h
  refine ⟨a, cap, rfl, fun hn => ?_⟩
  cases a with
  | none => have := h3 rfl; omega
  | some ad =>
    obtain ⟨g, o, rfl, hg, hc⟩ := h4 _ rfl
    exact ⟨g, o, rfl, fun j hj => ⟨⟨l[j].toNat, l[j].toNat_lt, hc j hj⟩, ((hr _ _ _ rfl).2.2 j (by omega)).2⟩⟩
theorem xor_one (b : Nat) (hb : b < 256) : ∃ b' : Nat, b' < 256 ∧ bits BinOp.xor IntKind.u8 (b : Int) 1 = (b' : Int) :=
  ⟨b ^^^ 1, Nat.xor_lt_two_pow (n := 8) hb (by decide), u8_xor_nat b 1 hb (by decide)⟩
section
variable {P : Program} {o : Oper} {a : Act} {w : World}
theorem ex_eqlI (t u : TypeId) (x y : Operand) (k : IntKind) (n : Int) (ho : o.op = .binOp .eql t x y u) (hx : a.eval x = .int k n) (hy : a.eval y = .int k n) : (execOp a.eval o).run P w = .ok (.value (.bool true)) w := by
  unfold execOp
  simp [ho, hx, hy, eqGuard, Sem.run_bind, binOp_eql]
theorem ex_eqlB (t u : TypeId) (x y : Operand) (b : Bool) (ht : P.underlying t = some .bool) (ho : o.op = .binOp .eql t x y u) (hx : a.eval x = .bool b) (hy : a.eval y = .bool b) : (execOp a.eval o).run P w = .ok (.value (.bool true)) w := by
  unfold execOp
  simp [ho, hx, hy, eqGuard, Sem.run_bind, binOp, run_equal_bool, ht]
theorem ex_call2 {o : Oper} {a : Act} {w : World} (f : FuncId) (x y : Operand) (ts : Array TypeId) (ho : o.op = .call { callee := .value (.func f), args := #[x, y], argTypes := ts }) (xv yv : Value) (hx : a.eval x = xv) (hy : a.eval y = yv)
    (hen : ∀ args w, (callFunc f args).run P w = .ok (.enter f args) w) : (execOp a.eval o).run P w = .ok (.enter f #[xv, yv]) w := by
  have hf : a.eval (.func f) = .func (.func f) #[] #[] := rfl
  unfold execOp
  simp [ho, resolve, Deferred.ofValue, invoke, hx, hy, hf, hen, Sem.run_bind, Sem.run_pure, Result.andThen]
end
section
variable {P : Program} {o : Oper} {a : Act} {w : World}
end
theorem Two.more {E D : Nat → Prop} {N : Nat} {w0 w : World} {p q : Nat} {b r : Bg} {c c' : Nat} (H : Two E D N w0 w p q b r c) (hc : c ≤ c') : Two E D N w0 w p q b r c' := by
  obtain ⟨sv, ps, av, us, tv, ts, H⟩ := H
  exact ⟨sv, ps, av, us, tv, ts, H.bag, ⟨H.ref.rb, H.ref.cur, H.ref.low, Nat.le_trans H.ref.cnt hc⟩, H.ap, H.out, H.own, H.bel, ⟨H.fit.1, H.fit.2.1, H.fit.2.2.1, Nat.le_trans H.fit.2.2.2.1 hc, Nat.le_trans H.fit.2.2.2.2 hc⟩, H.byt⟩
/-- Where a loop stands that turns the bytes of v, a slice that lies in a cell. -/
structure XorI (E E2 D2 : Nat → Prop) (N : Nat) (w0 w wr : World) (p q : Nat) (b r : Bg) (c : Nat) (T : Nat) (v : Value) (n : Nat) : Prop where
  two : Two E2 D2 N w0 wr p q b r c
  fl : Flips wr v n
  cell : wr.cell? ⟨T, 2, none⟩ = some v
  same : Same2 E w wr
theorem XorI.step {E E2 D2 : Nat → Prop} {N : Nat} {w0 w wr : World} {p q : Nat} {b r : Bg} {c T g o n cc : Nat} (h : XorI E E2 D2 N w0 w wr p q b r c T (.slice (some ⟨g, o, none⟩) n cc) n) (k y : Nat) (hy : y < 256) (hD : D2 g ∧ g ≠ T ∧ ∀ j, E j → j ≠ g) (hE : ∀ j, E j → E2 j) :
    XorI E E2 D2 N w0 w (wr.setCell ⟨g, o + k, none⟩ (.int .u8 (y : Int))) p q b r c T (.slice (some ⟨g, o, none⟩) n cc) n := by
  have hfr : Fr (· = g) wr (wr.setCell ⟨g, o + k, none⟩ (.int .u8 (y : Int))) := (Fr.refl (· = g) wr).setCell ⟨g, o + k, none⟩ (Or.inl rfl) _
  exact ⟨h.two.fr hfr (fun j e _ => by rw [e]; exact hD.1), h.fl.set y hy, (World.cell?_of_block (a := ⟨T, 2, none⟩) (hfr.block _ (World.block_lt_of_cell? _ _ h.cell) (fun e => hD.2.1 e.symm))).trans h.cell, fun j hj => (hfr.block j (h.two.elt j (hE j hj)) (hD.2.2 j hj)).trans (h.same j hj)⟩
theorem row_len {B : Nat} {w : World} {v : Value} {l : List UInt8} (h : Row B w v l) : l.length ≤ 9223372036854775807 := by
  obtain ⟨⟨a, cap, rfl, h2, h3, _⟩, hr⟩ := h
  cases a with
  | none => have := h3 rfl; omega
  | some ad => have := (hr ad _ _ rfl).2.1; unfold maxLen at this; omega
theorem drewN_below (w : World) (n : Nat) : Below w.heap.size w (w.drewN n) := ⟨rfl, rfl, rfl, Nat.le_refl _, fun _ _ => rfl⟩
end Go.Proofs.Ytdcpdeiljabkaaa
