/- Place: PlaceAnyOrder: two maps of the program's. -/
import Derived.Test.YtbmdhhafmieapaaH27
namespace Go.Proofs.Ytbmdhhafmieapaa
open Go Go.RowKit Go.Maps

theorem One.grown {w0 w w' : World} {p b b' : Nat} {n : Int} {k : Nat} {l : List Known} (h : One w0 w p b n k l) (hg : w.grownBy w' (some b')) (h1 : b' ≠ p) (h2 : b' ≠ b) (h3 : w0.heap.size ≤ b') : One w0 w' p b n k l :=
  ⟨h.bel.grown hg h.bel.size (fun j e => by cases e; exact h3), h.lb, h.map.grown hg (fun e => by cases e; exact h1 rfl) (fun e => by cases e; exact h2 rfl), h.rm, h.sm, h.len⟩
/-- Both maps, and what each was told. -/
structure Twin (w0 w : World) (p b p' b' : Nat) (n : Int) (k k' : Nat) (L : List Known) (m m' : Nat) (l l' S S' : List Known) : Prop where
  a : One w0 w p b n k l
  c : One w0 w p' b' n k' l'
  d1 : b ≠ p'
  d2 : b ≠ b'
  d3 : b' ≠ p
  e : Best n S l
  f : Best n S' l'
  g : ∀ x ∈ S, x ∈ L
  h : ∀ x ∈ S', x ∈ L
  i : ∀ j x, j < m → L[j]? = some x → x ∈ S
  j : ∀ j x, j < m' → L[j]? = some x → x ∈ S'
def Inv (w0 w : World) (p b p' b' : Nat) (n : Int) (k k' : Nat) (L : List Known) (m m' : Nat) : Prop := ∃ l l' S S', Twin w0 w p b p' b' n k k' L m m' l l' S S'
section
variable {w0 w : World} {p b p' b' : Nat} {n : Int} {k k' : Nat} {L : List Known} {m m' : Nat}
theorem Inv.below {w' : World} (h : Inv w0 w p b p' b' n k k' L m m') (hb : Below w.heap.size w w') : Inv w0 w' p b p' b' n k k' L m m' := by
  obtain ⟨l, l', S, S', t⟩ := h
  exact ⟨l, l', S, S', { t with a := t.a.below hb, c := t.c.below hb }⟩
theorem Inv.bel (h : Inv w0 w p b p' b' n k k' L m m') : Below w0.heap.size w0 w := by
  obtain ⟨l, l', S, S', t⟩ := h
  exact t.a.bel
theorem i_learn1 (h : Inv w0 w p b p' b' n k k' L m m') (hn : 1 ≤ n ∧ n ≤ 4) (x : Known) (hx : Sm x) (hL : L.length ≤ 40) (hk : k ≤ 1000) (hm : L[m]? = some x) :
    Calls Try.prog 17 #[.pointer (some ⟨p, 0, none⟩), .agg #[.string ⟨x.1.toArray⟩, .int .i64 x.2.1, .int .i64 x.2.2]] w fun e w' => ∃ E, e = .returned (.int .i64 E) ∧ Inv w0 w' p b p' b' n (k + 1) k' L (m + 1) m' := by
  obtain ⟨l, l', S, S', t⟩ := h
  refine (o_learn t.a hn x hx (by omega)).mono ?_
  rintro e w' ⟨rfl, ha, hg⟩
  exact ⟨_, rfl, learnL l n x, l', x :: S, S', { t with
    a := ha, c := t.c.grown hg t.d1 t.d2 t.a.lb, e := best_learn t.e t.a.rm t.g hL x
    g := fun y hy => by
      rcases List.mem_cons.1 hy with rfl | hy
      · exact List.mem_of_getElem? hm
      · exact t.g y hy
    i := fun j y hj he => by
      by_cases hjm : j = m
      · subst hjm; rw [hm] at he; cases he; exact List.mem_cons_self
      · exact List.mem_cons_of_mem _ (t.i j y (by omega) he) }⟩
theorem i_learn2 (h : Inv w0 w p b p' b' n k k' L m m') (hn : 1 ≤ n ∧ n ≤ 4) (x : Known) (hx : Sm x) (hL : L.length ≤ 40) (hk : k' ≤ 1000) (hm : x ∈ L) (m2 : Nat) (h2 : m2 = m' ∨ (m2 = m' + 1 ∧ L[m']? = some x)) :
    Calls Try.prog 17 #[.pointer (some ⟨p', 0, none⟩), .agg #[.string ⟨x.1.toArray⟩, .int .i64 x.2.1, .int .i64 x.2.2]] w fun e w' => ∃ E, e = .returned (.int .i64 E) ∧ Inv w0 w' p b p' b' n k (k' + 1) L m m2 := by
  obtain ⟨l, l', S, S', t⟩ := h
  refine (o_learn t.c hn x hx (by omega)).mono ?_
  rintro e w' ⟨rfl, ha, hg⟩
  exact ⟨_, rfl, l, learnL l' n x, S, x :: S', { t with
    a := t.a.grown hg t.d3 t.d2.symm t.c.lb, c := ha, f := best_learn t.f t.c.rm t.h hL x
    h := fun y hy => by
      rcases List.mem_cons.1 hy with rfl | hy
      · exact hm
      · exact t.h y hy
    j := fun j y hj he => by
      rcases h2 with rfl | ⟨rfl, h3⟩
      · exact List.mem_cons_of_mem _ (t.j j y hj he)
      · by_cases hjm : j = m'
        · subst hjm; rw [h3] at he; cases he; exact List.mem_cons_self
        · exact List.mem_cons_of_mem _ (t.j j y (by omega) he) }⟩
/-- In the end both know the same. -/
theorem Inv.same (h : Inv w0 w p b p' b' n k k' L m m') (hm : L.length ≤ m) (hm' : L.length ≤ m') (hu : ∀ x ∈ L, ∀ y ∈ L, x.1 = y.1 → x.2.2 = y.2.2 → x = y) : ∃ l, One w0 w p b n k l ∧ One w0 w p' b' n k' l := by
  obtain ⟨l, l', S, S', t⟩ := h
  have hin : ∀ x ∈ L, x ∈ S := fun x hx => by
    obtain ⟨j, hj, he⟩ := List.getElem_of_mem hx
    exact t.i j x (by omega) (by rw [List.getElem?_eq_getElem hj, he])
  have hin' : ∀ x ∈ L, x ∈ S' := fun x hx => by
    obtain ⟨j, hj, he⟩ := List.getElem_of_mem hx
    exact t.j j x (by omega) (by rw [List.getElem?_eq_getElem hj, he])
  have := best_eq t.e t.f t.a.rm t.c.rm (fun x hx => hin' x (t.g x hx)) (fun x hx => hin x (t.h x hx)) (fun x hx y hy => hu x (t.g x hx) y (t.g y hy))
  subst this
  exact ⟨l, t.a, t.c⟩
end
theorem inv_new {w0 w1 w2 : World} {n : Int} (h1 : One w0 w1 (w0.heap.size + 1) w0.heap.size n 0 []) (b2 : Below w1.heap.size w1 w2) (hm : IsMap w2 (w1.heap.size + 1) w1.heap.size n 0 (.map [])) (L : List Known) : Inv w0 w2 (w0.heap.size + 1) w0.heap.size (w1.heap.size + 1) w1.heap.size n 0 0 L 0 0 := by
  have := h1.map.lt
  exact ⟨[], [], [], [], h1.below b2, ⟨(h1.below b2).bel, h1.bel.size, hm, List.Pairwise.nil, fun x hx => (by cases hx), Nat.le_refl _⟩, by omega, by omega, by omega, best_nil n, best_nil n, fun x hx => (by cases hx), fun x hx => (by cases hx), fun j x hj _ => absurd hj (Nat.not_lt_zero _), fun j x hj _ => absurd hj (Nat.not_lt_zero _)⟩
theorem inv_mono {w0 w : World} {p b p' b' : Nat} {n : Int} {k k' k2 : Nat} {L : List Known} {m m' : Nat} (h : Inv w0 w p b p' b' n k k' L m m') (hk : k' ≤ k2) : Inv w0 w p b p' b' n k k2 L m m' := by
  obtain ⟨l, l', S, S', t⟩ := h
  exact ⟨l, l', S, S', { t with c := { t.c with map := t.c.map.mono hk, len := Nat.le_trans t.c.len hk } }⟩
end Go.Proofs.Ytbmdhhafmieapaa
