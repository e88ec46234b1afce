/- Lines: the program's buffer and the document's, side by side. -/
import Derived.Test.YtbhkchdkknainaaU8
namespace Go.Proofs.Ytbhkchdkknainaa
open Go.RowKit

/-- Both buffers, from block B on; E: blocks that are neither's. -/
structure Pair (E : Nat → Prop) (w0 w : World) (x y : Nat) (lx ly : List UInt8) : Prop where
  ml : Ml w0
  bel : Below w0.heap.size w0 w
  ne : x ≠ y
  sx : lx.length ≤ 16384
  sy : ly.length ≤ 16384
  two : ∃ v u, LB w0.heap.size w x v lx ∧ RB w0.heap.size w y u ly ∧ v.ownBlock ≠ some y ∧ u.ownBlock ≠ some x ∧ (∀ g, v.ownBlock = some g → u.ownBlock ≠ some g) ∧
    ∀ k, E k → w0.heap.size ≤ k ∧ k < w.heap.size ∧ k ≠ x ∧ k ≠ y ∧ v.ownBlock ≠ some k ∧ u.ownBlock ≠ some k
theorem Pair.m {E : Nat → Prop} {w0 w : World} {x y : Nat} {lx ly : List UInt8} (h : Pair E w0 w x y lx ly) : Ml w := h.ml.below h.bel (Nat.le_refl _)
theorem Fr.below {S : Nat → Prop} {B : Nat} {a w w' : World} (h : Fr S w w') (hb : Below B a w) (hB : B ≤ w.heap.size) (hS : ∀ k, S k → B ≤ k) : Below B a w' := h.to_below hb hB hS
/-- Blocks of E are written. -/
theorem Pair.fr {E S : Nat → Prop} {w0 w w' : World} {x y : Nat} {lx ly : List UInt8} (h : Pair E w0 w x y lx ly) (hf : Fr S w w') (hS : ∀ k, S k → E k) : Pair E w0 w' x y lx ly := by
  obtain ⟨v, u, h1, h2, h3, h4, h5, h6⟩ := h.two
  exact ⟨h.ml, hf.below h.bel h.bel.size (fun k hk => (h6 k (hS k hk)).1), h.ne, h.sx, h.sy, v, u, h1.fr hf (fun e => (h6 x (hS x e)).2.2.1 rfl) (fun g hg e => (h6 g (hS g e)).2.2.2.2.1 hg), h2.fr hf (fun e => (h6 y (hS y e)).2.2.2.1 rfl) (fun g hg e => (h6 g (hS g e)).2.2.2.2.2 hg), h3, h4, h5,
    fun k hk => let ⟨a, b, c⟩ := h6 k hk; ⟨a, Nat.lt_of_lt_of_le b hf.size, c⟩⟩
theorem Pair.stay {E : Nat → Prop} {w0 w w' : World} {x y : Nat} {lx ly : List UInt8} (h : Pair E w0 w x y lx ly) (hb : Below w.heap.size w w') : Pair E w0 w' x y lx ly :=
  h.fr (S := fun _ => False) (Fr.of_below hb) (fun _ e => e.elim)
/-- New blocks are neither's. -/
theorem Pair.apart {E : Nat → Prop} {w0 w w' : World} {x y : Nat} {lx ly : List UInt8} (h : Pair E w0 w x y lx ly) (hb : Below w.heap.size w w') (F : Nat → Prop) (hF : ∀ k, F k → E k ∨ (w.heap.size ≤ k ∧ k < w'.heap.size)) : Pair F w0 w' x y lx ly := by
  have hs := h.stay hb
  obtain ⟨v, u, h1, h2, h3, h4, h5, h6⟩ := h.two
  have hf := Fr.of_below (S := fun _ => False) hb
  refine ⟨h.ml, hs.bel, h.ne, h.sx, h.sy, v, u, h1.stay hb, h2.stay hb, h3, h4, h5, fun k hk => ?_⟩
  rcases hF k hk with e | ⟨a, b⟩
  · obtain ⟨q1, q2, q3⟩ := h6 k e
    exact ⟨q1, Nat.lt_of_lt_of_le q2 hb.size, q3⟩
  · exact ⟨Nat.le_trans h.bel.size a, b, by have := h1.lt; omega, by have := h2.lt; omega, fun e => by have := h1.row.1.lt k e; omega, fun e => by have := h2.byt.lt k e; omega⟩
theorem Pair.drop {E F : Nat → Prop} {w0 w : World} {x y : Nat} {lx ly : List UInt8} (h : Pair E w0 w x y lx ly) (hF : ∀ k, F k → E k) : Pair F w0 w x y lx ly :=
  h.apart (Below.refl _ _) F (fun k hk => Or.inl (hF k hk))

/-- The program's buffer is as it is behind a call. -/
theorem Pair.left {E : Nat → Prop} {w0 w w' : World} {x y : Nat} {lx lx' ly : List UInt8} {v u : Value} (h : Pair E w0 w x y lx ly) (h2 : RB w0.heap.size w y u ly) (h3 : v.ownBlock ≠ some y) (h4 : u.ownBlock ≠ some x) (h5 : ∀ g, v.ownBlock = some g → u.ownBlock ≠ some g)
    (h6 : ∀ k, E k → w0.heap.size ≤ k ∧ k < w.heap.size ∧ k ≠ x ∧ k ≠ y ∧ v.ownBlock ≠ some k ∧ u.ownBlock ≠ some k) (hvo : ∀ g, v.ownBlock = some g → w0.heap.size ≤ g) (hs : lx'.length ≤ 16384) (hn : LBNow w0.heap.size w x v lx' w') :
    Pair E w0 w' x y lx' ly ∧ ∀ k, E k → w'.heap[k]? = w.heap[k]? := by
  obtain ⟨v', q1, q2, q3⟩ := hn
  have hylt := h2.lt
  have hxo := q1.own
  refine ⟨⟨h.ml, q3.below h.bel h.bel.size (fun k hk => hk.elim (fun e => by subst e; exact hxo) (fun e => hvo k e)), h.ne, hs, h.sy, v', u, q1,
    h2.fr q3 (fun e => e.elim (fun e => h.ne e.symm) h3) (fun g hg e => e.elim (fun e => h4 (by rw [hg, e])) (fun e => h5 g e hg)), ?_, h4, ?_, ?_⟩, ?_⟩
  · rcases q2 with e | e
    · rw [e]; exact h3
    · intro hh; have := e _ hh; omega
  · rcases q2 with e | e
    · rw [e]; exact h5
    · intro g hg hu; have := e g hg; have := h2.byt.lt g hu; omega
  · intro k hk
    obtain ⟨p1, p2, p3, p4, p5, p6⟩ := h6 k hk
    refine ⟨p1, Nat.lt_of_lt_of_le p2 q3.size, p3, p4, ?_, p6⟩
    rcases q2 with e | e
    · rw [e]; exact p5
    · intro hh; have := e _ hh; omega
  · intro k hk
    obtain ⟨p1, p2, p3, p4, p5, p6⟩ := h6 k hk
    exact q3.block k p2 (fun e => e.elim p3 p5)
/-- The document's buffer is as it is behind a call. -/
theorem Pair.right {E : Nat → Prop} {w0 w w' : World} {x y : Nat} {lx ly ly' : List UInt8} {v : Value} (h : Pair E w0 w x y lx ly) (h1 : LB w0.heap.size w x v lx) (h3 : v.ownBlock ≠ some y) (hyo : w0.heap.size ≤ y)
    (h6 : ∀ k, E k → w0.heap.size ≤ k ∧ k < w.heap.size ∧ k ≠ x ∧ k ≠ y ∧ v.ownBlock ≠ some k) (hs : ly'.length ≤ 16384) (hn : RBNow w0.heap.size w y ly' w') :
    Pair E w0 w' x y lx ly' ∧ ∀ k, E k → w'.heap[k]? = w.heap[k]? := by
  obtain ⟨u', q1, q2, q3⟩ := hn
  have hxlt := h1.lt
  refine ⟨⟨h.ml, q3.below h.bel h.bel.size (fun k hk => by subst hk; exact hyo), h.ne, h.sx, hs, v, u', h1.fr q3 h.ne (fun g hg e => h3 (by rw [hg, e])), q1, h3, fun e => by have := q2 _ e; omega, fun g hg hu => by have := q2 g hu; have := h1.row.1.lt g hg; omega, ?_⟩, ?_⟩
  · intro k hk
    obtain ⟨p1, p2, p3, p4, p5⟩ := h6 k hk
    exact ⟨p1, Nat.lt_of_lt_of_le p2 q3.size, p3, p4, p5, fun e => by have := q2 _ e; omega⟩
  · intro k hk
    obtain ⟨p1, p2, p3, p4, p5⟩ := h6 k hk
    exact q3.block k p2 p4

/-- .. and what it told lies apart. -/
theorem Pair.leftT {E : Nat → Prop} {w0 w w' : World} {x y : Nat} {lx lx' ly p : List UInt8} {v u t : Value} (h : Pair E w0 w x y lx ly) (h1 : LB w0.heap.size w x v lx) (h2 : RB w0.heap.size w y u ly) (h3 : v.ownBlock ≠ some y) (h4 : u.ownBlock ≠ some x) (h5 : ∀ g, v.ownBlock = some g → u.ownBlock ≠ some g)
    (h6 : ∀ k, E k → w0.heap.size ≤ k ∧ k < w.heap.size ∧ k ≠ x ∧ k ≠ y ∧ v.ownBlock ≠ some k ∧ u.ownBlock ≠ some k) (hs : lx'.length ≤ 16384) (hn : LBOne w0.heap.size w x v lx' w') (ht : Took w w' t p) :
    Pair (fun k => E k ∨ t.ownBlock = some k) w0 w' x y lx' ly ∧ ∀ k, E k → w'.heap[k]? = w.heap[k]? := by
  obtain ⟨v', q1, q2, q3⟩ := hn
  have hylt := h2.lt
  have hxlt := h1.lt
  have hxo := q1.own
  refine ⟨⟨h.ml, q3.below h.bel h.bel.size (fun k hk => by subst hk; exact hxo), h.ne, hs, h.sy, v', u, q1, h2.fr q3 (fun e => h.ne e.symm) (fun g hg e => h4 (by rw [hg, e])), by rw [q2]; exact h3, h4, by rw [q2]; exact h5, fun k hk => ?_⟩, fun k hk => ?_⟩
  · rw [q2]
    rcases hk with hk | hk
    · obtain ⟨p1, p2, p3, p4, p5, p6⟩ := h6 k hk
      exact ⟨p1, Nat.lt_of_lt_of_le p2 q3.size, p3, p4, p5, p6⟩
    · have hk1 := Row.own ht k hk
      exact ⟨Nat.le_trans h.bel.size hk1, ht.1.lt k hk, by omega, by omega, fun e => by have := h1.row.1.lt k e; omega, fun e => by have := h2.byt.lt k e; omega⟩
  · obtain ⟨p1, p2, p3, p4, p5, p6⟩ := h6 k hk
    exact q3.block k p2 p3

section
variable {E : Nat → Prop} {w0 w : World} {x y : Nat} {lx ly : List UInt8}
/-- What a call on the pair leaves. -/
def PR (E : Nat → Prop) (w0 w : World) (x y : Nat) (lx ly : List UInt8) (w' : World) : Prop := Pair E w0 w' x y lx ly ∧ ∀ k, E k → w'.heap[k]? = w.heap[k]?
theorem PR.now (h : Pair E w0 w x y lx ly) (lx' : List UInt8) (hs : lx'.length ≤ 16384) : ∃ v u, LB w0.heap.size w x v lx ∧ RB w0.heap.size w y u ly ∧ (∀ w', LBNow w0.heap.size w x v lx' w' → PR E w0 w x y lx' ly w') ∧ (∀ ly' w', ly'.length ≤ 16384 → RBNow w0.heap.size w y ly' w' → PR E w0 w x y lx ly' w') := by
  obtain ⟨v, u, h1, h2, h3, h4, h5, h6⟩ := h.two
  exact ⟨v, u, h1, h2, fun w' hn => h.left h2 h3 h4 h5 h6 h1.row.own hs hn, fun ly' w' hs' hn => h.right h1 h3 h2.own (fun k hk => let ⟨a, b, c, d, e, _⟩ := h6 k hk; ⟨a, b, c, d, e⟩) hs' hn⟩
theorem PR.ror {u : Value} {ly' : List UInt8} {w' : World} (h : Pair E w0 w x y lx ly) (hr : ∀ w', RBNow w0.heap.size w y ly' w' → PR E w0 w x y lx ly' w') (hn : ROr w0.heap.size w y u ly ly' w') : PR E w0 w x y lx ly' w' := by
  rcases hn with hn | ⟨rfl, _, hb⟩
  · exact hr _ hn
  · refine ⟨h.stay hb, fun k hk => ?_⟩
    obtain ⟨v, u, _, _, _, _, _, h6⟩ := h.two
    exact hb.block k (h6 k hk).2.1
theorem feedL_le {l q : List UInt8} (h : l.length ≤ 16384) : (feedL l q).length ≤ 16384 := by
  unfold feedL
  split
  · rename_i hf; unfold fits at hf; rw [List.length_append]; exact hf
  · exact h
theorem lineD_le {l : List UInt8} (h : l.length ≤ 16384) : (lineD l).length ≤ 16384 := by
  unfold lineD; split
  · exact h
  · rw [List.length_drop]; omega
theorem rawD_le {l : List UInt8} {k : Int} (h : l.length ≤ 16384) : (rawD l k).length ≤ 16384 := by
  unfold rawD; split
  · exact h
  · split
    · exact h
    · rw [List.length_drop]; omega
theorem bodD_le {l : List UInt8} (h : l.length ≤ 16384) : (bodD l).length ≤ 16384 := by
  unfold bodD; split
  · exact h
  · rw [List.length_drop]; omega

theorem p_feed (h : Pair E w0 w x y lx ly) {p : Value} {q : List UInt8} (hp : Rd w p q) : Calls Try.prog 12 #[.pointer (some ⟨x, 0, none⟩), p] w fun e w' => e = .returned (.int .i64 (feedE lx q)) ∧ PR E w0 w x y (feedL lx q) ly w' := by
  obtain ⟨v, u, h1, h2, hl, hr⟩ := PR.now h (feedL lx q) (feedL_le h.sx)
  exact (lfeed w h1 hp h.bel.size h.sx).mono fun e w' ⟨he, hn⟩ => ⟨he, hl _ hn⟩
theorem p_rfeed (h : Pair E w0 w x y lx ly) {p : Value} {q : List UInt8} (hp : Rd w p q) (hq : q.length ≤ 140737488351232) : Calls Try.prog 30 #[.pointer (some ⟨y, 0, none⟩), p] w fun e w' => e = .returned (.int .i64 (feedE ly q)) ∧ PR E w0 w x y lx (feedL ly q) w' := by
  obtain ⟨v, u, h1, h2, hl, hr⟩ := PR.now h lx h.sx
  refine (rfeed_any w h2 hp h.sy hq).mono fun e w' ⟨he, hn⟩ => ⟨he, ?_⟩
  rcases hn with hn | ⟨e1, rfl, _⟩
  · exact hr _ _ (feedL_le h.sy) hn
  · rw [e1]; exact ⟨h, fun _ _ => rfl⟩
theorem p_line (h : Pair E w0 w x y lx ly) : Calls Try.prog 13 #[.pointer (some ⟨x, 0, none⟩)] w fun e w' => e = .returned (lineR lx) ∧ PR E w0 w x y (lineD lx) ly w' := by
  obtain ⟨v, u, h1, h2, hl, hr⟩ := PR.now h (lineD lx) (lineD_le h.sx)
  exact (lline w h1 h.sx h.m).mono fun e w' ⟨he, hn⟩ => ⟨he, hl _ hn⟩
theorem p_rline (h : Pair E w0 w x y lx ly) : Calls Try.prog 31 #[.pointer (some ⟨y, 0, none⟩)] w fun e w' => e = .returned (lineR ly) ∧ PR E w0 w x y lx (lineD ly) w' := by
  obtain ⟨v, u, h1, h2, hl, hr⟩ := PR.now h lx h.sx
  exact (rline w h2 h.sy).mono fun e w' ⟨he, hn⟩ => ⟨he, PR.ror h (fun w' => hr _ w' (lineD_le h.sy)) hn⟩
theorem p_raw (h : Pair E w0 w x y lx ly) (k : Int) : Calls Try.prog 15 #[.pointer (some ⟨x, 0, none⟩), .int .i64 k] w fun e w' => ∃ t, e = .returned (.tuple #[t, .int .i64 (rawE lx k)]) ∧ Took w w' t (rawT lx k) ∧ Pair (fun k => E k ∨ t.ownBlock = some k) w0 w' x y (rawD lx k) ly ∧ ∀ k, E k → w'.heap[k]? = w.heap[k]? := by
  obtain ⟨v, u, h1, h2, h3, h4, h5, h6⟩ := h.two
  exact (lraw w k h1 h.sx).mono fun e w' ⟨t, he, ht, hn⟩ => ⟨t, he, ht, h.leftT h1 h2 h3 h4 h5 h6 (rawD_le h.sx) hn ht⟩
theorem p_rraw (h : Pair E w0 w x y lx ly) (k : Int) : Calls Try.prog 32 #[.pointer (some ⟨y, 0, none⟩), .int .i64 k] w fun e w' => ∃ t, e = .returned (.tuple #[t, .int .i64 (rawE ly k)]) ∧ Took w w' t (rawT ly k) ∧ PR E w0 w x y lx (rawD ly k) w' := by
  obtain ⟨v, u, h1, h2, hl, hr⟩ := PR.now h lx h.sx
  exact (rraw w k h2 h.sy).mono fun e w' ⟨t, he, ht, hn⟩ => ⟨t, he, ht, PR.ror h (fun w' => hr _ w' (rawD_le h.sy)) hn⟩
theorem p_body (h : Pair E w0 w x y lx ly) : Calls Try.prog 23 #[.pointer (some ⟨x, 0, none⟩)] w fun e w' => ∃ t, e = .returned (.tuple #[t, .int .i64 (bodE lx)]) ∧ Took w w' t (bodT lx) ∧ Pair (fun k => E k ∨ t.ownBlock = some k) w0 w' x y (bodD lx) ly ∧ ∀ k, E k → w'.heap[k]? = w.heap[k]? := by
  obtain ⟨v, u, h1, h2, h3, h4, h5, h6⟩ := h.two
  exact (lbody w h1 h.sx h.m).mono fun e w' ⟨t, he, ht, hn⟩ => ⟨t, he, ht, h.leftT h1 h2 h3 h4 h5 h6 (bodD_le h.sx) hn ht⟩
theorem p_rbody (h : Pair E w0 w x y lx ly) : Calls Try.prog 33 #[.pointer (some ⟨y, 0, none⟩)] w fun e w' => ∃ t, e = .returned (.tuple #[t, .int .i64 (bodE ly)]) ∧ Took w w' t (bodT ly) ∧ PR E w0 w x y lx (bodD ly) w' := by
  obtain ⟨v, u, h1, h2, hl, hr⟩ := PR.now h lx h.sx
  exact (rbody w h2 h.sy).mono fun e w' ⟨t, he, ht, hn⟩ => ⟨t, he, ht, PR.ror h (fun w' => hr _ w' (bodD_le h.sy)) hn⟩
theorem p_wait (h : Pair E w0 w x y lx ly) : Calls Try.prog 14 #[.pointer (some ⟨x, 0, none⟩)] w fun e w' => e = .returned (.int .i64 (lx.length : Int)) ∧ w' = w := by
  obtain ⟨v, u, h1, _⟩ := h.two
  exact wait_any w h1
end
end Go.Proofs.Ytbhkchdkknainaa
