/- Disk: lists of pages and writes as cells; stores of many cells into what is owned; frames. No program. -/
import Derived.Test.YtleghofpabdkhaaMem
import Derived.Deep.MidRow
import Derived.Laws.AppendOwn
import Derived.Laws.OwnMore
namespace Go.Proofs.Ytleghofpabdkhaa
open Go Go.RowKit

/-- What is not o's stands. -/
structure Fr (o : Nat → Prop) (w w' : World) : Prop where
  os : w'.os = w.os
  tape : w'.tape = w.tape
  output : w'.output = w.output
  size : w.heap.size ≤ w'.heap.size
  block : ∀ k, k < w.heap.size → ¬ o k → w'.heap[k]? = w.heap[k]?
theorem Fr.refl (o : Nat → Prop) (w : World) : Fr o w w := ⟨rfl, rfl, rfl, Nat.le_refl _, fun _ _ _ => rfl⟩
theorem Fr.trans {o o' o'' : Nat → Prop} {a b c : World} (h : Fr o a b) (k : Fr o' b c) (h1 : ∀ k, k < a.heap.size → o k → o'' k) (h2 : ∀ k, k < a.heap.size → o' k → o'' k) : Fr o'' a c :=
  ⟨k.os.trans h.os, k.tape.trans h.tape, k.output.trans h.output, Nat.le_trans h.size k.size, fun i hi hn =>
    (k.block i (Nat.lt_of_lt_of_le hi h.size) (fun e => hn (h2 i hi e))).trans (h.block i hi (fun e => hn (h1 i hi e)))⟩
theorem Fr.mono {o o' : Nat → Prop} {a b : World} (h : Fr o a b) (h1 : ∀ k, k < a.heap.size → o k → o' k) : Fr o' a b :=
  ⟨h.os, h.tape, h.output, h.size, fun i hi hn => h.block i hi (fun e => hn (h1 i hi e))⟩
theorem Fr.of_below {w w' : World} (o : Nat → Prop) (h : Below w.heap.size w w') : Fr o w w' := ⟨h.os, h.tape, h.output, h.size, fun k hk _ => h.block k hk⟩
theorem Fr.below {o : Nat → Prop} {w w' : World} (h : Fr o w w') {B : Nat} (hB : B ≤ w.heap.size) (ho : ∀ k, o k → B ≤ k) : Below B w w' :=
  ⟨h.os, h.tape, h.output, h.size, fun k hk => h.block k (by omega) (fun e => by have := ho k e; omega)⟩
theorem Fr.alloc {o : Nat → Prop} {a w : World} (h : Fr o a w) (ob : Obj) : Fr o a (w.alloc ob) :=
  h.trans (Fr.of_below o ((Below.refl _ w).alloc (Nat.le_refl _) ob)) (fun _ _ h => h) (fun _ _ h => h)
theorem Fr.drew {o : Nat → Prop} {a w : World} (h : Fr o a w) : Fr o a w.drew := ⟨h.os, h.tape, h.output, h.size, h.block⟩
theorem Fr.setCell {o : Nat → Prop} {a w : World} (h : Fr o a w) (p : Addr) (hp : o p.block ∨ a.heap.size ≤ p.block) (u : Value) : Fr o a (w.setCell p u) :=
  ⟨h.os, h.tape, h.output, by simpa [World.setCell] using h.size, fun k hk hn => (Below.heap_setCell _ _ _ _ (fun e => by subst e; rcases hp with hp | hp; exact hn hp; omega)).trans (h.block k hk hn)⟩
theorem setCells_world (g : Nat) : ∀ (vs : List Value) (o : Nat) (w : World), (w.setCells g o vs).os = w.os ∧ (w.setCells g o vs).tape = w.tape ∧ (w.setCells g o vs).output = w.output ∧ (w.setCells g o vs).heap.size = w.heap.size ∧ ∀ k, k ≠ g → (w.setCells g o vs).heap[k]? = w.heap[k]? := setCells_all g
theorem setCells_drawn (g : Nat) : ∀ (vs : List Value) (o : Nat) (w : World), (w.setCells g o vs).drawn = w.drawn
  | [], _, _ => rfl
  | v :: r, o, w => setCells_drawn g r (o + 1) (w.setCell ⟨g, o, none⟩ v)
theorem Fr.setCells {o : Nat → Prop} {a w : World} (h : Fr o a w) (g off : Nat) (hp : o g ∨ a.heap.size ≤ g) (vs : List Value) : Fr o a (w.setCells g off vs) := by
  obtain ⟨h1, h2, h3, h4, h5⟩ := setCells_all g vs off w
  exact ⟨h1.trans h.os, h2.trans h.tape, h3.trans h.output, by rw [h4]; exact h.size, fun k hk hn => (h5 k (fun e => by subst e; rcases hp with hp | hp; exact hn hp; omega)).trans (h.block k hk hn)⟩
theorem Fr.grown {o : Nat → Prop} {a w w' : World} {row : Option Nat} (h : Fr o a w) (hg : w.grownBy w' row) (hr : ∀ k, row = some k → o k ∨ a.heap.size ≤ k) : Fr o a w' :=
  ⟨hg.os.trans h.os, hg.tape.trans h.tape, hg.output.trans h.output, Nat.le_trans h.size hg.size, fun k hk hn =>
    (hg.block k (Nat.lt_of_lt_of_le hk h.size) (fun e => by rcases hr k e.symm with hp | hp; exact hn hp; omega)).trans (h.block k hk hn)⟩

/-- A stretch of a list is put in the place of another one. -/
def over {α : Type} (L : List α) (o : Nat) (vs : List α) : List α := L.take o ++ vs ++ L.drop (o + vs.length)
theorem over_len {α : Type} (L : List α) (o : Nat) (vs : List α) (h : o + vs.length ≤ L.length) : (over L o vs).length = L.length := by
  simp only [over, List.length_append, List.length_take, List.length_drop]; omega
theorem over_nil {α : Type} (L : List α) (o : Nat) : over L o [] = L := by simp [over]
theorem over_cons {α : Type} (L : List α) (o : Nat) (v : α) (vs : List α) (h : o < L.length) : over (L.set o v) (o + 1) vs = over L o (v :: vs) := by
  apply List.ext_getElem?
  intro k
  simp only [over, List.getElem?_append, List.length_append, List.length_take, List.length_set, List.getElem?_take, List.getElem?_set, List.getElem?_drop, List.length_cons]
  by_cases h1 : k < o
  · simp [h1, show k < o + 1 by omega, show o ≠ k by omega, show k < min (o + 1) L.length + vs.length by omega, show k < min o L.length + (vs.length + 1) by omega, show k < min (o + 1) L.length by omega, show k < min o L.length by omega]
  · by_cases h2 : k = o
    · subst h2
      simp [show k < min (k + 1) L.length + vs.length by omega, show k < min (k + 1) L.length by omega, show ¬ k < min k L.length by omega, show k < min k L.length + (vs.length + 1) by omega, h, show k - min k L.length = 0 by omega]
    · by_cases h3 : k < o + 1 + vs.length
      · simp [show k < min (o + 1) L.length + vs.length by omega, show ¬ k < min (o + 1) L.length by omega, show ¬ k < min o L.length by omega, show k < min o L.length + (vs.length + 1) by omega, show k - min o L.length = (k - (o + 1)) + 1 by omega, show k - min (o + 1) L.length = k - (o + 1) by omega]
      · simp [show ¬ k < min (o + 1) L.length + vs.length by omega, show ¬ k < min o L.length + (vs.length + 1) by omega, show o + 1 + vs.length + (k - (min (o + 1) L.length + vs.length)) = k by omega, show o + (vs.length + 1) + (k - (min o L.length + (vs.length + 1))) = k by omega, show o ≠ k by omega]
theorem over_take {α : Type} (L : List α) (o : Nat) (vs : List α) (N : Nat) (h : o + vs.length ≤ N) (hN : N ≤ L.length) : (over L o vs).take N = over (L.take N) o vs := by
  apply List.ext_getElem?
  intro k
  simp only [over, List.getElem?_append, List.length_append, List.length_take, List.getElem?_take, List.getElem?_drop]
  by_cases hk : k < N
  · by_cases h1 : k < o
    · simp [hk, h1, show k < min o L.length + vs.length by omega, show k < min o L.length by omega, show k < min o (min N L.length) + vs.length by omega, show k < min o (min N L.length) by omega]
    · by_cases h2 : k < o + vs.length
      · simp [hk, show k < min o L.length + vs.length by omega, show ¬ k < min o L.length by omega, show k < min o (min N L.length) + vs.length by omega, show ¬ k < min o (min N L.length) by omega, show k - min o L.length = k - min o (min N L.length) by omega]
      · simp [hk, show ¬ k < min o L.length + vs.length by omega, show ¬ k < min o (min N L.length) + vs.length by omega, show o + vs.length + (k - (min o L.length + vs.length)) = k by omega, show o + vs.length + (k - (min o (min N L.length) + vs.length)) = k by omega]
  · simp [hk, show ¬ k < min o (min N L.length) + vs.length by omega, show ¬ o + vs.length + (k - (min o (min N L.length) + vs.length)) < N by omega]
theorem setCells_row (g : Nat) (e : TypeId) : ∀ (vs : List Value) (o : Nat) (cur : List Value) (w : World), w.heap[g]? = some (.cells cur.toArray e (0, 0)) → o + vs.length ≤ cur.length → (w.setCells g o vs).heap[g]? = some (.cells (over cur o vs).toArray e (0, 0))
  | [], o, cur, w, h, _ => by rw [over_nil]; exact h
  | v :: r, o, cur, w, h, hl => by
    rw [List.length_cons] at hl
    have h1 : (w.setCell ⟨g, o, none⟩ v).heap[g]? = some (.cells (cur.set o v).toArray e (0, 0)) := by
      rw [heap_setCell_same w g o _ e v h]; simp
    have := setCells_row g e r (o + 1) (cur.set o v) _ h1 (by rw [List.length_set]; omega)
    rw [over_cons _ _ _ _ (by omega)] at this
    exact this

section
variable {base e size : Nat} {w : World}
/-- Cells are laid into what is owned. -/
theorem owns_set {g n cap : Nat} {xs : List Value} (h : w.ownsRow base e size (.slice (some ⟨g, 0, none⟩) n cap) n xs) (o : Nat) (vs : List Value) (ho : o + vs.length ≤ n * size) :
    (w.setCells g o vs).ownsRow base e size (.slice (some ⟨g, 0, none⟩) n cap) n (over xs o vs) := by
  have hx := h.1
  refine ⟨by rw [over_len _ _ _ (by omega)]; exact hx, Or.inr ?_⟩
  rcases h.2 with ⟨h0, _⟩ | ⟨g', cap', cur, hv, hb, hg, hn, hm, hs, ht⟩
  · cases h0
  · cases hv
    have hle : n * size ≤ cap * size := Nat.mul_le_mul_right _ hn
    have hg' : w.heap[g]? = some (.cells cur.toList.toArray e (0, 0)) := by simpa using hg
    refine ⟨g, cap, _, rfl, hb, setCells_row g e vs o cur.toList w hg' (by simp; omega), hn, hm, by simp only [List.size_toArray]; rw [over_len _ _ _ (by simp; omega)]; simpa using hs, ?_⟩
    have hcl : cur.toList.length = cap * size := by simpa using hs
    rw [over_take _ _ _ _ ho (by omega), ht]
/-- What is owned reads. -/
theorem owns_range {g n cap : Nat} {xs : List Value} (h : w.ownsRow base e size (.slice (some ⟨g, 0, none⟩) n cap) n xs) (o : Nat) (cs : List Value) (hc : ∀ j v, cs[j]? = some v → xs[o + j]? = some v) : w.rangeAt g o cs := fun j v hj => by
  have := World.ownsRow.cells h (g := g) rfl (o + j) v (hc j v hj)
  rwa [Addr.add_mid, Nat.zero_add] at this
theorem owns_there {g n cap : Nat} {xs : List Value} (h : w.ownsRow base e size (.slice (some ⟨g, 0, none⟩) n cap) n xs) (o m : Nat) (ho : o + m ≤ n * size) : w.there g o m := by
  intro j hj
  have hx := h.1
  have hc := World.ownsRow.cells h (g := g) rfl (o + j) _ (List.getElem?_eq_getElem (show o + j < xs.length by omega))
  rw [Addr.add_mid, Nat.zero_add] at hc
  refine ⟨by rw [hc]; rfl, ?_⟩
  rcases h.2 with ⟨h0, _⟩ | ⟨g', cap', cur, hv, hb, hg, _⟩
  · cases h0
  · cases hv
    exact frozen_of_row _ _ _ _ _ hg
end
theorem owns_frame {base e size n : Nat} {w w' : World} {v : Value} {xs : List Value} (h : w.ownsRow base e size v n xs) (hb : ∀ k, v.ownBlock = some k → w'.heap[k]? = w.heap[k]?) : w'.ownsRow base e size v n xs := by
  refine ⟨h.1, ?_⟩
  rcases h.2 with h0 | ⟨g, cap, cur, rfl, hbg, hg, hr⟩
  · exact Or.inl h0
  · exact Or.inr ⟨g, cap, cur, rfl, hbg, (hb g rfl).trans hg, hr⟩
theorem owns_shape {base e size n : Nat} {w : World} {v : Value} {xs : List Value} (h : w.ownsRow base e size v n xs) : ∃ a c, v = .slice a n c ∧ n ≤ c := by
  rcases h.2 with ⟨rfl, rfl⟩ | ⟨g, cap, cur, rfl, _, _, hc, _⟩
  · exact ⟨none, 0, rfl, Nat.le_refl _⟩
  · exact ⟨_, _, rfl, hc⟩

section
variable {α : Type} (f : α → List Value) (s : Nat)
theorem flat_len : ∀ l : List α, (∀ x ∈ l, (f x).length = s) → (l.flatMap f).length = l.length * s
  | [], _ => by simp
  | x :: t, h => by
    rw [List.flatMap_cons, List.length_append, flat_len t (fun y hy => h y (List.mem_cons_of_mem _ hy)), h x (List.mem_cons_self ..), List.length_cons, Nat.succ_mul]; omega
theorem flat_take : ∀ (l : List α) (i : Nat), (∀ x ∈ l, (f x).length = s) → (l.flatMap f).take (i * s) = (l.take i).flatMap f
  | [], i, _ => by simp
  | x :: t, 0, _ => by simp
  | x :: t, i + 1, h => by
    have hx := h x (List.mem_cons_self ..)
    rw [List.take_succ_cons, List.flatMap_cons, List.flatMap_cons, Nat.succ_mul, List.take_append, List.take_of_length_le (by omega), show i * s + s - (f x).length = i * s by omega, flat_take t i (fun y hy => h y (List.mem_cons_of_mem _ hy))]
theorem flat_drop : ∀ (l : List α) (i : Nat), (∀ x ∈ l, (f x).length = s) → (l.flatMap f).drop (i * s) = (l.drop i).flatMap f
  | [], i, _ => by simp
  | x :: t, 0, _ => by simp
  | x :: t, i + 1, h => by
    have hx := h x (List.mem_cons_self ..)
    rw [List.drop_succ_cons, List.flatMap_cons, Nat.succ_mul, List.drop_append, List.drop_eq_nil_of_le (by omega), show i * s + s - (f x).length = i * s by omega, List.nil_append, flat_drop t i (fun y hy => h y (List.mem_cons_of_mem _ hy))]
theorem flat_at (l : List α) (i : Nat) (h : ∀ x ∈ l, (f x).length = s) (x : α) (hi : l[i]? = some x) (j : Nat) (v : Value) (hj : (f x)[j]? = some v) : (l.flatMap f)[i * s + j]? = some v := by
  rw [← List.getElem?_drop, flat_drop f s l i h]
  obtain ⟨hlt, rfl⟩ := List.getElem?_eq_some_iff.1 hi
  rw [List.drop_eq_getElem_cons hlt, List.flatMap_cons, List.getElem?_append_left (List.getElem?_eq_some_iff.1 hj).1]
  exact hj
theorem flat_set (l : List α) (i : Nat) (h : ∀ x ∈ l, (f x).length = s) (y : α) (hy : (f y).length = s) (hi : i < l.length) : over (l.flatMap f) (i * s) (f y) = (l.set i y).flatMap f := by
  unfold over
  rw [flat_take f s l i h, hy, show i * s + s = (i + 1) * s by rw [Nat.succ_mul], flat_drop f s l (i + 1) h, List.set_eq_take_append_cons_drop, if_pos hi, List.flatMap_append, List.flatMap_cons, List.append_assoc]
end

/-- A page's cells; a write's. -/
def pgC (l : List UInt8) : List Value := l.map fun b => .int .u8 (b.toNat : Int)
def wrC (x : Nat × List UInt8) : List Value := .int .i64 (x.1 : Int) :: pgC x.2
theorem pgC_len (l : List UInt8) : (pgC l).length = l.length := by simp [pgC]
theorem wrC_len (x : Nat × List UInt8) : (wrC x).length = x.2.length + 1 := by simp [wrC, pgC]
theorem pgC_cell {l : List UInt8} : ∀ u ∈ pgC l, u.oneCell' = true := by
  intro u hu
  obtain ⟨x, _, rfl⟩ := List.mem_map.1 hu
  rfl
theorem wrC_cell {x : Nat × List UInt8} : ∀ u ∈ wrC x, u.oneCell' = true := by
  intro u hu
  rcases List.mem_cons.1 hu with rfl | h
  · rfl
  · exact pgC_cell u h
theorem pgC_over (p q : List UInt8) (o : Nat) : over (pgC p) o (pgC q) = pgC (over p o q) := by
  simp [over, pgC]
theorem pgC_take (p : List UInt8) (k : Nat) : (pgC p).take k = pgC (p.take k) := by simp [pgC]
end Go.Proofs.Ytleghofpabdkhaa
