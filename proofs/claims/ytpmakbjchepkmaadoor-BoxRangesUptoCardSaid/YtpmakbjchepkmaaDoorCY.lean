/- Box: the document's Set: what its loops make of ranges (plain facts). -/
import Derived.Test.YtpmakbjchepkmaaDoorCX
namespace Go.Proofs.YtpmakbjchepkmaaDoor
open Go Go.RowKit

def Bd (p : Rg) : Prop := (0 ≤ p.1 ∧ p.1 ≤ 4294967295) ∧ (0 ≤ p.2 ∧ p.2 ≤ 4294967295)
theorem absorb_bd : ∀ (l : List Rg) (p : Rg), (∀ q ∈ l, Bd q) → Bd p → (∀ q ∈ (absorb l p).1, Bd q) ∧ Bd (absorb l p).2 ∧ (absorb l p).1.length ≤ l.length
  | [], p, _, hp => ⟨fun q hq => by simp [absorb] at hq, hp, Nat.le_refl _⟩
  | q :: t, p, h, hp => by
    have hq := h q List.mem_cons_self
    by_cases hc : q.2 + 1 < p.1 ∨ p.2 + 1 < q.1
    · obtain ⟨h1, h2, h3⟩ := absorb_bd t p (fun r hr => h r (List.mem_cons_of_mem _ hr)) hp
      rw [absorb_on hc]
      refine ⟨fun r hr => ?_, h2, by simp; omega⟩
      rcases List.mem_cons.1 hr with rfl | hr
      · exact hq
      · exact h1 r hr
    · obtain ⟨h1, h2, h3⟩ := absorb_bd t (min p.1 q.1, max p.2 q.2) (fun r hr => h r (List.mem_cons_of_mem _ hr)) (by unfold Bd at hp hq ⊢; simp only; omega)
      rw [absorb_in hc]
      exact ⟨h1, h2, by simp; omega⟩
theorem ins_bd : ∀ (l : List Rg) (p : Rg), (∀ q ∈ l, Bd q) → Bd p → (∀ q ∈ insR p l, Bd q) ∧ (insR p l).length = l.length + 1
  | [], p, _, hp => ⟨fun q hq => by simp [insR] at hq; subst hq; exact hp, rfl⟩
  | r :: t, p, h, hp => by
    obtain ⟨h1, h2⟩ := ins_bd t p (fun q hq => h q (List.mem_cons_of_mem _ hq)) hp
    unfold insR
    split
    · refine ⟨fun q hq => ?_, rfl⟩
      rcases List.mem_cons.1 hq with rfl | hq
      · exact hp
      · exact h q hq
    · refine ⟨fun q hq => ?_, by simp [h2]⟩
      rcases List.mem_cons.1 hq with rfl | hq
      · exact h _ List.mem_cons_self
      · exact h1 q hq
theorem merge_bd (l : List Rg) (p : Rg) (h : ∀ q ∈ l, Bd q) (hp : Bd p) : (∀ q ∈ mergeR l p, Bd q) ∧ (mergeR l p).length ≤ l.length + 1 := by
  obtain ⟨h1, h2, h3⟩ := absorb_bd l p h hp
  obtain ⟨h4, h5⟩ := ins_bd _ _ h1 h2
  exact ⟨h4, by unfold mergeR; omega⟩
/-- What is merged of so many parts. -/
def mergesTo (most : Int) (L : List (Int × Int)) (k : Nat) : List Rg := ((L.take k).map (mapP most)).foldl mergeR []
theorem merges_next {most : Int} {L : List (Int × Int)} {k : Nat} {p : Int × Int} (h : L[k]? = some p) : mergesTo most L (k + 1) = mergeR (mergesTo most L k) (mapP most p) := by
  unfold mergesTo
  rw [List.take_add_one, h, Option.toList_some, List.map_append, List.foldl_append]
  rfl
theorem map_bd {most : Int} (hm : 0 ≤ most ∧ most ≤ 4294967295) {p : Int × Int} (hp : Fine p) : Bd (mapP most p) := by
  unfold Fine at hp
  unfold Bd mapP starW
  simp only
  split <;> split <;> omega
theorem merges_bd {most : Int} (hm : 0 ≤ most ∧ most ≤ 4294967295) (L : List (Int × Int)) (hL : ∀ p ∈ L, Fine p) : ∀ k, (∀ q ∈ mergesTo most L k, Bd q) ∧ (mergesTo most L k).length ≤ k
  | 0 => ⟨fun q hq => by simp [mergesTo] at hq, Nat.le_refl _⟩
  | k + 1 => by
    obtain ⟨h1, h2⟩ := merges_bd hm L hL k
    by_cases hk : k < L.length
    · rw [merges_next (List.getElem?_eq_getElem hk)]
      obtain ⟨h3, h4⟩ := merge_bd _ (mapP most L[k]) h1 (map_bd hm (hL _ (List.getElem_mem hk)))
      exact ⟨h3, by omega⟩
    · have e : mergesTo most L (k + 1) = mergesTo most L k := by
        unfold mergesTo
        rw [List.take_of_length_le (by omega), List.take_of_length_le (by omega)]
      rw [e]
      exact ⟨h1, by omega⟩
theorem drop_cons {α : Type} {l : List α} {k : Nat} {x : α} (h : l[k]? = some x) : l.drop k = x :: l.drop (k + 1) := by
  obtain ⟨hk, rfl⟩ := List.getElem?_eq_some_iff.1 h
  exact List.drop_eq_getElem_cons hk
/-- The merging loop's relation: what was absorbed, and what is left. -/
def AbsR (M : List Rg) (p0 : Rg) (k : Nat) (R : List Rg) (p : Rg) : Prop := absorb M p0 = (R ++ (absorb (M.drop k) p).1, (absorb (M.drop k) p).2)
theorem AbsR.start (M : List Rg) (p : Rg) : AbsR M p 0 [] p := by unfold AbsR; simp
theorem AbsR.on {M : List Rg} {p0 p q : Rg} {k : Nat} {R : List Rg} (h : AbsR M p0 k R p) (hq : M[k]? = some q) (hc : q.2 + 1 < p.1 ∨ p.2 + 1 < q.1) : AbsR M p0 (k + 1) (R ++ [q]) p := by
  unfold AbsR at h ⊢
  rw [drop_cons hq, absorb_on hc] at h
  rw [h]
  simp
theorem AbsR.in {M : List Rg} {p0 p q : Rg} {k : Nat} {R : List Rg} (h : AbsR M p0 k R p) (hq : M[k]? = some q) (hc : ¬ (q.2 + 1 < p.1 ∨ p.2 + 1 < q.1)) {x y : Int} (hx : x = min p.1 q.1) (hy : y = max p.2 q.2) : AbsR M p0 (k + 1) R (x, y) := by
  unfold AbsR at h ⊢
  rw [drop_cons hq, absorb_in hc] at h
  rw [h, hx, hy]
theorem AbsR.fin {M : List Rg} {p0 p : Rg} {R : List Rg} (h : AbsR M p0 M.length R p) : absorb M p0 = (R, p) := by
  unfold AbsR at h
  rw [List.drop_length] at h
  simpa [absorb] using h
/-- The inserting loop's relation. -/
def InsR (G : List Rg) (p : Rg) (R : List Rg) (k : Nat) (done : Bool) (O : List Rg) : Prop := G = O ++ (if done = true then R.drop k else insR p (R.drop k))
theorem InsR.start {G : List Rg} {p : Rg} {R : List Rg} (h : G = insR p R) : InsR G p R 0 false [] := by unfold InsR; simpa using h
theorem InsR.before {G : List Rg} {p q : Rg} {R O : List Rg} {k : Nat} (h : InsR G p R k false O) (hq : R[k]? = some q) (hc : p.1 < q.1) : InsR G p R (k + 1) true (O ++ [p] ++ [q]) := by
  unfold InsR at h ⊢
  rw [drop_cons hq, if_neg (by simp), insR, if_pos hc] at h
  rw [h]
  simp
theorem InsR.behind {G : List Rg} {p q : Rg} {R O : List Rg} {k : Nat} (h : InsR G p R k false O) (hq : R[k]? = some q) (hc : ¬ p.1 < q.1) : InsR G p R (k + 1) false (O ++ [q]) := by
  unfold InsR at h ⊢
  rw [drop_cons hq, if_neg (by simp), insR, if_neg hc] at h
  rw [h]
  simp
theorem InsR.on {G : List Rg} {p q : Rg} {R O : List Rg} {k : Nat} (h : InsR G p R k true O) (hq : R[k]? = some q) : InsR G p R (k + 1) true (O ++ [q]) := by
  unfold InsR at h ⊢
  rw [drop_cons hq, if_pos rfl] at h
  rw [h]
  simp
theorem InsR.done {G : List Rg} {p : Rg} {R O : List Rg} (h : InsR G p R R.length true O) : G = O := by
  unfold InsR at h
  rw [List.drop_length] at h
  simpa using h
theorem InsR.last {G : List Rg} {p : Rg} {R O : List Rg} (h : InsR G p R R.length false O) : G = O ++ [p] := by
  unfold InsR at h
  rw [List.drop_length] at h
  simpa [insR] using h
theorem InsR.len {G : List Rg} {p : Rg} {R O : List Rg} {k : Nat} {d : Bool} (h : InsR G p R k d O) : O.length ≤ G.length := by
  unfold InsR at h
  rw [h, List.length_append]
  omega
/-- The part of the round, in a block of two cells. -/
def Pb (w : World) (g : Nat) (p : Rg) : Prop := w.heap[g]? = some (.cells #[.int .i64 p.1, .int .i64 p.2] 30 (0, 0))
theorem Pb.c0 {w : World} {g : Nat} {p : Rg} (h : Pb w g p) : w.cell? ⟨g, 0, none⟩ = some (.int .i64 p.1) := cell_of_row _ _ _ _ _ _ h
theorem Pb.c1 {w : World} {g : Nat} {p : Rg} (h : Pb w g p) : w.cell? ⟨g, 1, none⟩ = some (.int .i64 p.2) := cell_of_row _ _ _ _ _ _ h
theorem Pb.f {w : World} {g : Nat} {p : Rg} (h : Pb w g p) (j : Nat) : w.frozen? ⟨g, j, none⟩ = false := frozen_of_row _ _ _ _ _ h
theorem Pb.lt {w : World} {g : Nat} {p : Rg} (h : Pb w g p) : g < w.heap.size := (Array.getElem?_eq_some_iff.1 h).1
theorem Pb.below {w w' : World} {g B : Nat} {p : Rg} (h : Pb w g p) (hb : Below B w w') (hB : g < B) : Pb w' g p := (hb.block g hB).trans h
theorem Pb.new (w : World) (a b : Int) : Pb (w.alloc (.cells #[.int .i64 a, .int .i64 b] 30)) w.heap.size (a, b) := heap_alloc_new w _
theorem Pb.set0 {w : World} {g : Nat} {p : Rg} (h : Pb w g p) (x : Int) : Pb (w.setCell ⟨g, 0, none⟩ (.int .i64 x)) g (x, p.2) := by
  unfold Pb
  rw [heap_setCell_same w g 0 _ _ _ h]
  rfl
theorem Pb.set1 {w : World} {g : Nat} {p : Rg} (h : Pb w g p) (x : Int) : Pb (w.setCell ⟨g, 1, none⟩ (.int .i64 x)) g (p.1, x) := by
  unfold Pb
  rw [heap_setCell_same w g 1 _ _ _ h]
  rfl
theorem prsN_own {B : Nat} {w : World} {v : Value} {l : List Rg} (h : OwnsP B w v l) : PrsN w v l := by
  obtain ⟨a, c, rfl, _⟩ := owns_shape h
  refine ⟨a, c, rfl, fun i p hp => ?_⟩
  have hl := (List.getElem?_eq_some_iff.1 hp).1
  rcases h.2 with ⟨_, h0⟩ | ⟨g, cap, cur, e, hb, hg, _⟩
  · omega
  · cases e
    refine ⟨g, rfl, (Array.getElem?_eq_some_iff.1 hg).1, ?_, ?_⟩
    · have := World.ownsRow.cells h (g := g) rfl (i * 2 + 0) _ (flat_at cells2 2 l i (fun _ _ => rfl) p hp 0 _ rfl)
      rw [addr_plus, Nat.zero_add] at this
      exact this
    · have := World.ownsRow.cells h (g := g) rfl (i * 2 + 1) _ (flat_at cells2 2 l i (fun _ _ => rfl) p hp 1 _ rfl)
      rw [addr_plus, Nat.zero_add] at this
      exact this
theorem bdrew (B : Nat) (w : World) (n : Nat) : Below B w (w.drewN n) := ⟨rfl, rfl, rfl, Nat.le_refl _, fun _ _ => rfl⟩
theorem ownsP_lit (B : Nat) (w : World) (hB : B ≤ w.heap.size) : OwnsP B (w.alloc (.cells #[] 30)) (.slice (some ⟨w.heap.size, 0, none⟩) 0 0) [] :=
  World.ownsRow_lit (size := 2) w #[] 0 hB (by decide) rfl
end Go.Proofs.YtpmakbjchepkmaaDoor
