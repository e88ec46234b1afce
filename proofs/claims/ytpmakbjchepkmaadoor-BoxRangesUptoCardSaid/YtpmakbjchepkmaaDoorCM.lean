/- Box: ranges that are apart and rise are told by the numbers in them: joined by the code, merged by the document. Plain facts. -/
import Derived.Test.YtpmakbjchepkmaaDoorBG6
namespace Go.Proofs.YtpmakbjchepkmaaDoor
open Go Go.RowKit

abbrev Rg := Int × Int
def GapsP (l : List Rg) : Prop := (∀ p ∈ l, p.1 ≤ p.2) ∧ l.Pairwise (fun p q => p.2 + 1 < q.1)
theorem inR_cons (p : Rg) (l : List Rg) (n : Int) : inR (p :: l) n ↔ (p.1 ≤ n ∧ n ≤ p.2) ∨ inR l n := by
  unfold inR
  simp
theorem inR_append (l m : List Rg) (n : Int) : inR (l ++ m) n ↔ inR l n ∨ inR m n := by
  unfold inR
  constructor
  · rintro ⟨p, hp, h⟩
    rcases List.mem_append.1 hp with h1 | h1
    · exact Or.inl ⟨p, h1, h⟩
    · exact Or.inr ⟨p, h1, h⟩
  · rintro (⟨p, hp, h⟩ | ⟨p, hp, h⟩)
    · exact ⟨p, List.mem_append_left _ hp, h⟩
    · exact ⟨p, List.mem_append_right _ hp, h⟩
theorem inR_nil (n : Int) : ¬ inR [] n := by
  rintro ⟨p, hp, _⟩
  cases hp
theorem GapsP.tail {p : Rg} {l : List Rg} (h : GapsP (p :: l)) : GapsP l := ⟨fun q hq => h.1 q (List.mem_cons_of_mem _ hq), (List.pairwise_cons.1 h.2).2⟩
theorem GapsP.head {p : Rg} {l : List Rg} (h : GapsP (p :: l)) : p.1 ≤ p.2 ∧ ∀ q ∈ l, p.2 + 1 < q.1 := ⟨h.1 p List.mem_cons_self, (List.pairwise_cons.1 h.2).1⟩
theorem gaps_low {p : Rg} {l : List Rg} (h : GapsP (p :: l)) {n : Int} (hn : inR (p :: l) n) : p.1 ≤ n := by
  obtain ⟨h1, h2⟩ := h.head
  obtain ⟨q, hq, h3, _⟩ := hn
  rcases List.mem_cons.1 hq with rfl | hq
  · exact h3
  · have := h2 q hq
    omega
theorem gaps_next {p : Rg} {l : List Rg} (h : GapsP (p :: l)) {n : Int} (hn : inR l n) : p.2 + 1 < n := by
  obtain ⟨_, h2⟩ := h.head
  obtain ⟨q, hq, h3, _⟩ := hn
  have := h2 q hq
  omega
theorem gaps_uniq : ∀ l m : List Rg, GapsP l → GapsP m → (∀ n, inR l n ↔ inR m n) → l = m
  | [], [], _, _, _ => rfl
  | [], y :: m, _, hm, h => absurd ((h y.1).2 ((inR_cons _ _ _).2 (Or.inl ⟨Int.le_refl _, hm.head.1⟩))) (inR_nil _)
  | x :: l, [], hl, _, h => absurd ((h x.1).1 ((inR_cons _ _ _).2 (Or.inl ⟨Int.le_refl _, hl.head.1⟩))) (inR_nil _)
  | x :: l, y :: m, hl, hm, h => by
    have hx := hl.head.1
    have hy := hm.head.1
    have h1 : y.1 ≤ x.1 := gaps_low hm ((h x.1).1 ((inR_cons _ _ _).2 (Or.inl ⟨Int.le_refl _, hx⟩)))
    have h2 : x.1 ≤ y.1 := gaps_low hl ((h y.1).2 ((inR_cons _ _ _).2 (Or.inl ⟨Int.le_refl _, hy⟩)))
    have h3 : ¬ x.2 < y.2 := by
      intro hlt
      rcases (inR_cons _ _ _).1 ((h (x.2 + 1)).2 ((inR_cons _ _ _).2 (Or.inl ⟨by omega, by omega⟩))) with h4 | h4
      · omega
      · have := gaps_next hl h4
        omega
    have h3' : ¬ y.2 < x.2 := by
      intro hlt
      rcases (inR_cons _ _ _).1 ((h (y.2 + 1)).1 ((inR_cons _ _ _).2 (Or.inl ⟨by omega, by omega⟩))) with h4 | h4
      · omega
      · have := gaps_next hm h4
        omega
    have e : x = y := Prod.ext (by omega) (by omega)
    subst e
    have : l = m := gaps_uniq l m hl.tail hm.tail (fun n => by
      constructor
      · intro hn
        have hg := gaps_next hl hn
        rcases (inR_cons _ _ _).1 ((h n).1 ((inR_cons _ _ _).2 (Or.inr hn))) with h4 | h4
        · omega
        · exact h4
      · intro hn
        have hg := gaps_next hm hn
        rcases (inR_cons _ _ _).1 ((h n).2 ((inR_cons _ _ _).2 (Or.inr hn))) with h4 | h4
        · omega
        · exact h4)
    rw [this]
theorem gaps_snoc {l : List Rg} {p : Rg} : GapsP (l ++ [p]) ↔ GapsP l ∧ p.1 ≤ p.2 ∧ ∀ q ∈ l, q.2 + 1 < p.1 := by
  unfold GapsP
  rw [List.pairwise_append]
  constructor
  · rintro ⟨h1, h2, _, h4⟩
    exact ⟨⟨fun q hq => h1 q (List.mem_append_left _ hq), h2⟩, h1 p (by simp), fun q hq => h4 q hq p (by simp)⟩
  · rintro ⟨⟨h1, h2⟩, h3, h4⟩
    refine ⟨fun q hq => ?_, h2, List.pairwise_singleton _ _, fun q hq r hr => by rw [List.mem_singleton.1 hr]; exact h4 q hq⟩
    rcases List.mem_append.1 hq with h5 | h5
    · exact h1 q h5
    · rw [List.mem_singleton.1 h5]; exact h3
/-- What the code joins. -/
theorem join_gaps : ∀ (t ini : List Rg) (lo hi : Int), GapsP (ini ++ [(lo, hi)]) → (∀ p ∈ t, lo ≤ p.1 ∧ p.1 ≤ p.2) → t.Pairwise (fun x y => x.1 ≤ y.1) →
    GapsP (joinGo ini lo hi t) ∧ ∀ n, inR (joinGo ini lo hi t) n ↔ inR ini n ∨ (lo ≤ n ∧ n ≤ hi) ∨ inR t n
  | [], ini, lo, hi, h, _, _ => by
    refine ⟨h, fun n => ?_⟩
    show inR (ini ++ [(lo, hi)]) n ↔ _
    rw [inR_append, inR_cons]
  | p :: t, ini, lo, hi, h, hp, hs => by
    obtain ⟨h1, h2, h3⟩ := gaps_snoc.1 h
    simp only at h2 h3
    obtain ⟨s1, s2⟩ := List.pairwise_cons.1 hs
    have hpp := hp p List.mem_cons_self
    unfold joinGo
    split
    · rename_i hc
      obtain ⟨g1, g2⟩ := join_gaps t (ini ++ [(lo, hi)]) p.1 p.2 (gaps_snoc.2 ⟨h, hpp.2, fun q hq => by
        rcases List.mem_append.1 hq with h5 | h5
        · have := h3 q h5; show q.2 + 1 < p.1; omega
        · rw [List.mem_singleton.1 h5]; exact hc⟩) (fun q hq => ⟨s1 q hq, (hp q (List.mem_cons_of_mem _ hq)).2⟩) s2
      refine ⟨g1, fun n => ?_⟩
      rw [g2 n, inR_append, inR_cons, inR_cons]
      have := inR_nil n
      simp only
      simp only [this, or_false, or_assoc]
    · rename_i hc
      obtain ⟨g1, g2⟩ := join_gaps t ini lo (max hi p.2) (gaps_snoc.2 ⟨h1, by simp only; omega, h3⟩) (fun q hq => hp q (List.mem_cons_of_mem _ hq)) s2
      refine ⟨g1, fun n => ?_⟩
      rw [g2 n, inR_cons]
      have e : (lo ≤ n ∧ n ≤ max hi p.2) ↔ (lo ≤ n ∧ n ≤ hi) ∨ (p.1 ≤ n ∧ n ≤ p.2) := by omega
      rw [e]
      constructor
      · rintro (h | (h | h) | h)
        · exact Or.inl h
        · exact Or.inr (Or.inl h)
        · exact Or.inr (Or.inr (Or.inl h))
        · exact Or.inr (Or.inr (Or.inr h))
      · rintro (h | h | h | h)
        · exact Or.inl h
        · exact Or.inr (Or.inl (Or.inl h))
        · exact Or.inr (Or.inl (Or.inr h))
        · exact Or.inr (Or.inr h)
/-- A range takes up those that it touches. -/
def absorb : List Rg → Rg → List Rg × Rg
  | [], p => ([], p)
  | q :: t, p => if q.2 + 1 < p.1 ∨ p.2 + 1 < q.1 then (q :: (absorb t p).1, (absorb t p).2) else absorb t (min p.1 q.1, max p.2 q.2)
def insR (p : Rg) : List Rg → List Rg
  | [] => [p]
  | r :: t => if p.1 < r.1 then p :: r :: t else r :: insR p t
def mergeR (out : List Rg) (p : Rg) : List Rg := insR (absorb out p).2 (absorb out p).1
theorem absorb_far : ∀ (l : List Rg) (p : Rg), (∀ q ∈ l, p.2 + 1 < q.1) → absorb l p = (l, p)
  | [], _, _ => rfl
  | q :: t, p, h => by
    unfold absorb
    rw [if_pos (Or.inr (h q List.mem_cons_self)), absorb_far t p (fun r hr => h r (List.mem_cons_of_mem _ hr))]
theorem absorb_all : ∀ (l : List Rg) (p : Rg), GapsP l → p.1 ≤ p.2 →
    GapsP (absorb l p).1 ∧ (absorb l p).2.1 ≤ (absorb l p).2.2 ∧ (∀ r ∈ (absorb l p).1, r.2 + 1 < (absorb l p).2.1 ∨ (absorb l p).2.2 + 1 < r.1) ∧
    (∀ n, inR (absorb l p).1 n ∨ ((absorb l p).2.1 ≤ n ∧ n ≤ (absorb l p).2.2) ↔ inR l n ∨ (p.1 ≤ n ∧ n ≤ p.2)) ∧
    (∀ B, B < p.1 → (∀ q ∈ l, B < q.1) → B < (absorb l p).2.1) ∧ (∀ r ∈ (absorb l p).1, r ∈ l)
  | [], p, _, hp => ⟨⟨fun q hq => (by cases hq), List.Pairwise.nil⟩, hp, fun q hq => (by cases hq), fun n => Iff.rfl, fun B h _ => h, fun q hq => hq⟩
  | q :: t, p, h, hp => by
    obtain ⟨hq1, hq2⟩ := h.head
    unfold absorb
    split
    · rename_i hc
      obtain ⟨a1, a2, a3, a4, a5, a6⟩ := absorb_all t p h.tail hp
      refine ⟨⟨fun r hr => ?_, List.pairwise_cons.2 ⟨fun r hr => hq2 r (a6 r hr), a1.2⟩⟩, a2, fun r hr => ?_, fun n => ?_, fun B hB hl => a5 B hB (fun r hr => hl r (List.mem_cons_of_mem _ hr)), fun r hr => ?_⟩
      · rcases List.mem_cons.1 hr with rfl | hr
        · exact hq1
        · exact a1.1 r hr
      · rcases List.mem_cons.1 hr with rfl | hr
        · rcases hc with hc | hc
          · exact Or.inl (a5 _ hc (fun s hs => hq2 s hs))
          · right
            rw [absorb_far t p (fun s hs => by have := hq2 s hs; omega)]
            exact hc
        · exact a3 r hr
      · have := a4 n
        rw [inR_cons, inR_cons, or_assoc, or_assoc, this]
      · rcases List.mem_cons.1 hr with rfl | hr
        · exact List.mem_cons_self
        · exact List.mem_cons_of_mem _ (a6 r hr)
    · rename_i hc
      obtain ⟨a1, a2, a3, a4, a5, a6⟩ := absorb_all t (min p.1 q.1, max p.2 q.2) h.tail (by simp only; omega)
      refine ⟨a1, a2, a3, fun n => ?_, fun B hB hl => a5 B (by have := hl q List.mem_cons_self; simp only; omega) (fun r hr => hl r (List.mem_cons_of_mem _ hr)), fun r hr => List.mem_cons_of_mem _ (a6 r hr)⟩
      rw [a4 n, inR_cons]
      have e : (min p.1 q.1 ≤ n ∧ n ≤ max p.2 q.2) ↔ (q.1 ≤ n ∧ n ≤ q.2) ∨ (p.1 ≤ n ∧ n ≤ p.2) := by omega
      simp only [e]
      constructor
      · rintro (h | h | h)
        · exact Or.inl (Or.inr h)
        · exact Or.inl (Or.inl h)
        · exact Or.inr h
      · rintro ((h | h) | h)
        · exact Or.inr (Or.inl h)
        · exact Or.inl h
        · exact Or.inr (Or.inr h)
theorem ins_gaps : ∀ (l : List Rg) (p : Rg), GapsP l → p.1 ≤ p.2 → (∀ r ∈ l, r.2 + 1 < p.1 ∨ p.2 + 1 < r.1) → GapsP (insR p l) ∧ ∀ x, x ∈ insR p l ↔ x = p ∨ x ∈ l
  | [], p, _, hp, _ => by
    refine ⟨⟨fun q hq => ?_, List.pairwise_singleton _ _⟩, fun x => by simp [insR]⟩
    rw [List.mem_singleton.1 hq]; exact hp
  | r :: t, p, h, hp, ha => by
    obtain ⟨h1, h2⟩ := h.head
    unfold insR
    split
    · rename_i hc
      have hr : p.2 + 1 < r.1 := by
        rcases ha r List.mem_cons_self with h3 | h3
        · omega
        · exact h3
      refine ⟨⟨fun q hq => ?_, List.pairwise_cons.2 ⟨fun q hq => ?_, h.2⟩⟩, fun x => by simp⟩
      · rcases List.mem_cons.1 hq with rfl | hq
        · exact hp
        · exact h.1 q hq
      · rcases List.mem_cons.1 hq with rfl | hq
        · exact hr
        · have := h2 q hq; omega
    · rename_i hc
      have hr : r.2 + 1 < p.1 := by
        rcases ha r List.mem_cons_self with h3 | h3
        · exact h3
        · omega
      obtain ⟨g1, g2⟩ := ins_gaps t p h.tail hp (fun q hq => ha q (List.mem_cons_of_mem _ hq))
      refine ⟨⟨fun q hq => ?_, List.pairwise_cons.2 ⟨fun q hq => ?_, g1.2⟩⟩, fun x => ?_⟩
      · rcases List.mem_cons.1 hq with rfl | hq
        · exact h1
        · exact g1.1 q hq
      · rcases (g2 q).1 hq with rfl | hq
        · exact hr
        · exact h2 q hq
      · rw [List.mem_cons, g2 x, List.mem_cons]
        constructor
        · rintro (h | h | h)
          · exact Or.inr (Or.inl h)
          · exact Or.inl h
          · exact Or.inr (Or.inr h)
        · rintro (h | h | h)
          · exact Or.inr (Or.inl h)
          · exact Or.inl h
          · exact Or.inr (Or.inr h)
/-- What the document merges. -/
theorem merge_gaps (out : List Rg) (p : Rg) (h : GapsP out) (hp : p.1 ≤ p.2) : GapsP (mergeR out p) ∧ ∀ n, inR (mergeR out p) n ↔ inR out n ∨ (p.1 ≤ n ∧ n ≤ p.2) := by
  obtain ⟨a1, a2, a3, a4, _, _⟩ := absorb_all out p h hp
  obtain ⟨g1, g2⟩ := ins_gaps _ _ a1 a2 a3
  refine ⟨g1, fun n => ?_⟩
  rw [← a4 n]
  unfold mergeR inR
  constructor
  · rintro ⟨x, hx, h1⟩
    rcases (g2 x).1 hx with rfl | hx
    · exact Or.inr h1
    · exact Or.inl ⟨x, hx, h1⟩
  · rintro (⟨x, hx, h1⟩ | h1)
    · exact ⟨x, (g2 x).2 (Or.inr hx), h1⟩
    · exact ⟨_, (g2 _).2 (Or.inl rfl), h1⟩
theorem merges_gaps : ∀ (l out : List Rg), GapsP out → (∀ p ∈ l, p.1 ≤ p.2) → GapsP (l.foldl mergeR out) ∧ ∀ n, inR (l.foldl mergeR out) n ↔ inR out n ∨ inR l n
  | [], out, h, _ => ⟨h, fun n => by have := inR_nil n; simp [this]⟩
  | p :: l, out, h, hl => by
    obtain ⟨g1, g2⟩ := merge_gaps out p h (hl p List.mem_cons_self)
    obtain ⟨k1, k2⟩ := merges_gaps l (mergeR out p) g1 (fun q hq => hl q (List.mem_cons_of_mem _ hq))
    refine ⟨k1, fun n => ?_⟩
    show inR (l.foldl mergeR (mergeR out p)) n ↔ _
    rw [k2 n, g2 n, inR_cons, or_assoc]
/-- What the code joins is what the document merges. -/
theorem join_merge (l : List Rg) (x : Rg) (t : List Rg) (hp : (x :: t).Perm l) (hs : (x :: t).Pairwise (fun x y => x.1 ≤ y.1)) (hl : ∀ p ∈ l, p.1 ≤ p.2) : joinGo [] x.1 x.2 t = l.foldl mergeR [] := by
  obtain ⟨s1, s2⟩ := List.pairwise_cons.1 hs
  have hm : ∀ q, q ∈ x :: t ↔ q ∈ l := fun q => hp.mem_iff
  have hx := hl x ((hm x).1 List.mem_cons_self)
  obtain ⟨g1, g2⟩ := join_gaps t [] x.1 x.2 (gaps_snoc.2 ⟨⟨fun q hq => (by cases hq), List.Pairwise.nil⟩, hx, fun q hq => (by cases hq)⟩) (fun q hq => ⟨s1 q hq, hl q ((hm q).1 (List.mem_cons_of_mem _ hq))⟩) s2
  obtain ⟨k1, k2⟩ := merges_gaps l [] ⟨fun q hq => (by cases hq), List.Pairwise.nil⟩ hl
  refine gaps_uniq _ _ g1 k1 (fun n => ?_)
  rw [g2 n, k2 n]
  have h0 := inR_nil n
  have e : inR (x :: t) n ↔ inR l n := by
    unfold inR
    constructor
    · rintro ⟨q, hq, h⟩; exact ⟨q, (hm q).1 hq, h⟩
    · rintro ⟨q, hq, h⟩; exact ⟨q, (hm q).2 hq, h⟩
  rw [← e, inR_cons]
end Go.Proofs.YtpmakbjchepkmaaDoor
