/- Place: the program's map and the document's, side by side. -/
import Derived.Test.YtbmdhhafmieapaaHOpen
namespace Go.Proofs.Ytbmdhhafmieapaa
open Go Go.RowKit Go.Maps

structure Both (w0 w : World) (p b q : Nat) (n : Int) (k : Nat) (lm lr : List Known) : Prop where
  bel : Below w0.heap.size w0 w
  lb : w0.heap.size ≤ b
  lq : w0.heap.size ≤ q
  pq : p ≠ q
  bq : b ≠ q
  map : IsMap w p b n k (mapD lm)
  ref : ∃ v, RefOwn w q n v lr
  rm : Rising lm
  rr : Rising lr
  sm : ∀ x ∈ lm, Sm x
  sr : ∀ x ∈ lr, Sm x
  len : lm.length ≤ k
  len2 : lr.length ≤ k
theorem IsMap.grown {w w' : World} {p b : Nat} {n : Int} {k : Nat} {D : DataW Unit} (h : IsMap w p b n k D) {r : Option Nat} (hg : w.grownBy w' r) (hp : r ≠ some p) (hb : r ≠ some b) : IsMap w' p b n k D := by
  refine ⟨(World.cell?_of_block (a := ⟨p, 0, none⟩) (hg.block p h.lt hp.symm)).trans h.c0, (World.cell?_of_block (a := ⟨p, 1, none⟩) (hg.block p h.lt hp.symm)).trans h.c1, ?_, h.ne⟩
  obtain ⟨es, clock, h1, h2⟩ := h.own
  exact ⟨es, clock, (hg.block b (by have := h.ne; have := h.lt; omega) hb.symm).trans h1, h2⟩
theorem not_map {w : World} {p b : Nat} {n : Int} {k : Nat} {D : DataW Unit} (h : IsMap w p b n k D) {B : Nat} {v : Value} {l : List Known} (hv : Mine B w v l) : v.ownBlock ≠ some b := by
  intro e
  obtain ⟨es, clock, h1, _⟩ := h.own
  rcases hv.2 with ⟨rfl, _⟩ | ⟨g, cap, cur, rfl, _, hgb, _⟩
  · simp [Value.ownBlock] at e
  · have : g = b := by simpa [Value.ownBlock] using e
    subst this
    rw [hgb] at h1; cases h1
/-- What Learn makes of what is known. -/
def learnL (l : List Known) (n : Int) (x : Known) : List Known := if learnE l n x ⟨x.1.toArray⟩ = 0 then ins x l else l
theorem learnL_len (l : List Known) (n : Int) (x : Known) : (learnL l n x).length ≤ l.length + 1 := by
  unfold learnL
  split
  · rw [length_ins]; split <;> omega
  · omega
theorem learnL_rising {l : List Known} (h : Rising l) (n : Int) (x : Known) : Rising (learnL l n x) := by
  unfold learnL
  split
  · exact rising_ins x l h
  · exact h
theorem learnL_sm {l : List Known} {x : Known} (h : ∀ y ∈ l, Sm y) (hx : Sm x) (n : Int) : ∀ y ∈ learnL l n x, Sm y := by
  intro y hy
  unfold learnL at hy
  split at hy
  · rcases mem_ins hy with rfl | hy
    · exact hx
    · exact h y hy
  · exact h y hy
section
variable {w0 w : World} {p b q : Nat} {n : Int} {k : Nat} {lm lr : List Known}
theorem Both.below {w' : World} (h : Both w0 w p b q n k lm lr) (hb : Below w.heap.size w w') : Both w0 w' p b q n k lm lr := by
  obtain ⟨v, hv⟩ := h.ref
  exact ⟨h.bel.trans (hb.mono h.bel.size), h.lb, h.lq, h.pq, h.bq, h.map.below hb h.map.lt, ⟨v, hv.below hb⟩, h.rm, h.rr, h.sm, h.sr, h.len, h.len2⟩
theorem b_learn (h : Both w0 w p b q n k lm lr) (hn : 1 ≤ n ∧ n ≤ 4) (x : Known) (hx : Sm x) (hk : k ≤ 100000) :
    Calls Try.prog 17 #[.pointer (some ⟨p, 0, none⟩), .agg #[.string ⟨x.1.toArray⟩, .int .i64 x.2.1, .int .i64 x.2.2]] w fun e w' => e = .returned (.int .i64 (learnE lm n x ⟨x.1.toArray⟩)) ∧ Both w0 w' p b q n (k + 1) (learnL lm n x) lr := by
  obtain ⟨v, hv⟩ := h.ref
  have hsz : (⟨x.1.toArray⟩ : ByteArray).size ≤ 140737488355000 := by have := hx.u; rw [Lib.size_eq]; simp; omega
  have hlt := h.map.lt
  refine (learn_any p b w0.heap.size n k lm ⟨x.1.toArray⟩ x.2.1 x.2.2 w hsz hn hx.s hx.e h.map (fun y hy => by have := (h.sm y hy).u; omega) h.lb (by omega)).mono ?_
  rintro e w' ⟨rfl, ⟨hb, hg⟩, hbad, hgood⟩
  have hxx : (((⟨x.1.toArray⟩ : ByteArray).data.toList, x.2.1, x.2.2) : Known) = x := by obtain ⟨a, c, d⟩ := x; simp
  rw [hxx] at hbad hgood ⊢
  have hmap : IsMap w' p b n (k + 1) (mapD (learnL lm n x)) := by
    unfold learnL
    split
    · rename_i h0
      have := hgood h0
      rwa [putK_ins h.rm x] at this
    · rename_i h0
      exact (hbad h0).mono (Nat.le_succ _)
  exact ⟨rfl, h.bel.trans hb, h.lb, h.lq, h.pq, h.bq, hmap, ⟨v, hv.kept hg (fun e => by cases e; exact h.bq rfl) (Or.inr (not_map h.map hv.own))⟩, learnL_rising h.rm n x, h.rr, learnL_sm h.sm hx n, h.sr, by have := learnL_len lm n x; have := h.len; omega, by have := h.len2; omega⟩
theorem b_rlearn (h : Both w0 w p b q n k lm lr) (hn : 1 ≤ n ∧ n ≤ 4) (x : Known) (hx : Sm x) (hk : k ≤ 1000) :
    Calls Try.prog 22 #[.pointer (some ⟨q, 0, none⟩), .agg #[.string ⟨x.1.toArray⟩, .int .i64 x.2.1, .int .i64 x.2.2]] w fun e w' => e = .returned (.int .i64 (learnE lr n x ⟨x.1.toArray⟩)) ∧ Both w0 w' p b q n (k + 1) lm (learnL lr n x) := by
  obtain ⟨v, hv⟩ := h.ref
  have hsz : (⟨x.1.toArray⟩ : ByteArray).size ≤ 140737488355000 := by have := hx.u; rw [Lib.size_eq]; simp; omega
  refine (refLearn q n v lr ⟨x.1.toArray⟩ x.2.1 x.2.2 w hsz hn hv h.rr (by have := h.len2; omega)).mono ?_
  rintro e w' ⟨rfl, hg, hbad, hgood⟩
  have hxx : (((⟨x.1.toArray⟩ : ByteArray).data.toList, x.2.1, x.2.2) : Known) = x := by obtain ⟨a, c, d⟩ := x; simp
  rw [hxx] at hbad hgood ⊢
  have href : ∃ v', RefOwn w' q n v' (learnL lr n x) := by
    unfold learnL
    split
    · rename_i h0; exact hgood h0
    · rename_i h0; exact ⟨v, hbad h0⟩
  have hb : Below w0.heap.size w0 w' := h.bel.grown hg h.bel.size (fun j e => by cases e; exact h.lq)
  exact ⟨rfl, hb, h.lb, h.lq, h.pq, h.bq, (h.map.grown hg (fun e => by cases e; exact h.pq rfl) (fun e => by cases e; exact h.bq rfl)).mono (Nat.le_succ _), href, h.rm, learnL_rising h.rr n x, h.sm, learnL_sm h.sr hx n, by have := h.len; omega, by have := learnL_len lr n x; have := h.len2; omega⟩
theorem b_seats (h : Both w0 w p b q n k lm lr) (hk : k ≤ 1000) : Calls Try.prog 19 #[.pointer (some ⟨p, 0, none⟩)] w (Gave (· = lm) w) := seats_any p b n k lm w h.map h.rm (by have := h.len; omega)
theorem b_seat (h : Both w0 w p b q n k lm lr) (hn : 1 ≤ n ∧ n ≤ 4) (u : ByteArray) (hu : u.size ≤ 140737488351232) :
    Calls Try.prog 14 #[.pointer (some ⟨p, 0, none⟩), .string u] w fun e w' => e = .returned (.tuple #[seatV (seatOf lm u n), .int .i64 0]) ∧ Below w.heap.size w w' :=
  seat_any p b n k lm u w (by omega) hn h.map (fun x hx => by have := (h.sm x hx).u; omega)
theorem b_rseat (h : Both w0 w p b q n k lm lr) (hn : 1 ≤ n ∧ n ≤ 4) (u : ByteArray) (hu : u.size ≤ 140737488351232) (hk : k ≤ 1000) :
    Calls Try.prog 15 #[.pointer (some ⟨q, 0, none⟩), .string u] w fun e w' => e = .returned (.tuple #[seatV (seatOf lr u n), .int .i64 0]) ∧ Below w.heap.size w w' := by
  obtain ⟨v, hv⟩ := h.ref
  obtain ⟨a, cap, g, _, hm⟩ := hv.map
  rw [← refSeatOf_eq h.rr]
  exact refSeat q g cap n a lr u w (by omega) hn hm (by have := h.len2; omega)
end
end Go.Proofs.Ytbmdhhafmieapaa
