/- Place: what is known in the end does not depend on the order. -/
import Derived.Test.YtbmdhhafmieapaaH26
namespace Go.Proofs.Ytbmdhhafmieapaa
open Go Go.RowKit Go.Maps

theorem rising_set_eq : ∀ l m : List Known, Rising l → Rising m → (∀ x, x ∈ l ↔ x ∈ m) → l = m
  | [], [], _, _, _ => rfl
  | [], y :: m, _, _, h => absurd ((h y).2 (List.mem_cons_self)) (by simp)
  | x :: l, [], _, _, h => absurd ((h x).1 (List.mem_cons_self)) (by simp)
  | x :: l, y :: m, h1, h2, h => by
    obtain ⟨a1, a2⟩ := List.pairwise_cons.mp h1
    obtain ⟨c1, c2⟩ := List.pairwise_cons.mp h2
    have hxy : x = y := by
      rcases List.mem_cons.1 ((h x).1 List.mem_cons_self) with e | hx
      · exact e
      · rcases List.mem_cons.1 ((h y).2 List.mem_cons_self) with e | hy
        · exact e.symm
        · have := less_trans (a1 y hy) (c1 x hx)
          rw [less_irrefl] at this
          cases this
    subst hxy
    have : l = m := rising_set_eq l m a2 c2 (fun z => by
      constructor
      · intro hz
        rcases List.mem_cons.1 ((h z).1 (List.mem_cons_of_mem _ hz)) with rfl | hm
        · have := a1 _ hz
          rw [less_irrefl] at this
          cases this
        · exact hm
      · intro hz
        rcases List.mem_cons.1 ((h z).2 (List.mem_cons_of_mem _ hz)) with rfl | hm
        · have := c1 _ hz
          rw [less_irrefl] at this
          cases this
        · exact hm)
    rw [this]
theorem nodup_len : ∀ (l L : List Known), l.Nodup → (∀ x ∈ l, x ∈ L) → l.length ≤ L.length
  | [], _, _, _ => Nat.zero_le _
  | x :: l, L, h, hs => by
    obtain ⟨h1, h2⟩ := List.nodup_cons.1 h
    have hx := hs x List.mem_cons_self
    have := nodup_len l (L.erase x) h2 (fun y hy => (List.mem_erase_of_ne (by rintro rfl; exact h1 hy)).2 (hs y (List.mem_cons_of_mem _ hy)))
    rw [List.length_erase_of_mem hx] at this
    have hp : 0 < L.length := List.length_pos_of_mem hx
    simp
    omega
theorem rising_nodup {l : List Known} (h : Rising l) : l.Nodup :=
  List.Pairwise.imp (fun {a b} hab => by rintro rfl; rw [less_irrefl] at hab; cases hab) h
/-- A seat that may be learned. -/
def Fit (n : Int) (x : Known) : Prop := 0 ≤ x.2.1 ∧ x.2.1 < n ∧ 2 ≤ x.2.2
/-- The best of what was told. -/
structure Best (n : Int) (S l : List Known) : Prop where
  mem : ∀ y ∈ l, y ∈ S ∧ Fit n y
  top : ∀ x ∈ S, Fit n x → ∃ y ∈ l, y.1 = x.1 ∧ x.2.2 ≤ y.2.2
theorem find_some {l : List Known} {u : List UInt8} {y : Known} (h : findK l u = some y) : y ∈ l ∧ y.1 = u :=
  ⟨List.mem_of_find?_eq_some h, by have := List.find?_some h; simpa using this⟩
theorem find_none {l : List Known} {u : List UInt8} (h : findK l u = none) : ∀ y ∈ l, y.1 ≠ u := by
  intro y hy e
  have := List.find?_eq_none.1 h y hy
  simp [e] at this
theorem mem_ins_other (x : Known) : ∀ (l : List Known) (y : Known), y ∈ l → y.1 ≠ x.1 → y ∈ ins x l
  | z :: t, y, hy, hne => by
    unfold ins
    split
    · rcases List.mem_cons.1 hy with rfl | h
      · exact List.mem_cons_self
      · exact List.mem_cons_of_mem _ (mem_ins_other x t y h hne)
    · split
      · rename_i hz
        rcases List.mem_cons.1 hy with rfl | h
        · exact absurd (by simpa using hz) hne
        · exact List.mem_cons_of_mem _ h
      · exact List.mem_cons_of_mem _ hy
theorem best_learn {n : Int} {S l L : List Known} (h : Best n S l) (hr : Rising l) (hS : ∀ y ∈ S, y ∈ L) (hL : L.length ≤ 40) (x : Known) : Best n (x :: S) (learnL l n x) := by
  have hlen : l.length ≤ 40 := Nat.le_trans (nodup_len l L (rising_nodup hr) (fun y hy => hS y (h.mem y hy).1)) hL
  have hu : (⟨x.1.toArray⟩ : ByteArray).data.toList = x.1 := by simp
  have keep : (Fit n x → ∃ y ∈ l, y.1 = x.1 ∧ x.2.2 ≤ y.2.2) → Best n (x :: S) l := fun hx =>
    ⟨fun y hy => ⟨List.mem_cons_of_mem _ (h.mem y hy).1, (h.mem y hy).2⟩, fun y hy hf => by
      rcases List.mem_cons.1 hy with rfl | hy
      · exact hx hf
      · exact h.top y hy hf⟩
  unfold learnL learnE seatOf
  rw [hu]
  by_cases h1 : x.2.1 < 0 ∨ n ≤ x.2.1 ∨ x.2.2 < 1
  · rw [if_pos h1, if_neg (by decide)]
    exact keep (fun hf => by have := hf.1; have := hf.2.1; have := hf.2.2; omega)
  · rw [if_neg h1]
    cases hk : findK l x.1 with
    | some y =>
      obtain ⟨hy, hyu⟩ := find_some hk
      simp only [Option.getD_some, Option.isNone_some]
      by_cases h2 : x.2.2 ≤ y.2.2
      · rw [if_pos h2, if_neg (by decide)]
        exact keep (fun _ => ⟨y, hy, hyu, h2⟩)
      · have e8 : (if (false = true) ∧ 64 ≤ l.length then (8 : Int) else 0) = 0 := if_neg (by simp)
        rw [if_neg h2, e8, if_pos rfl]
        have hfy := (h.mem y hy).2.2.2
        refine ⟨fun z hz => ?_, fun z hz hf => ?_⟩
        · rcases mem_ins hz with rfl | hz
          · exact ⟨List.mem_cons_self, by omega, by omega, by omega⟩
          · exact ⟨List.mem_cons_of_mem _ (h.mem z hz).1, (h.mem z hz).2⟩
        · rcases List.mem_cons.1 hz with rfl | hz
          · exact ⟨z, mem_ins_self z l, rfl, by omega⟩
          · obtain ⟨t, ht, e1, e2⟩ := h.top z hz hf
            by_cases hc : t.1 = x.1
            · have : t = y := by
                have := find_self hr ht
                rw [hc, hk] at this
                exact (Option.some.inj this).symm
              subst this
              exact ⟨x, mem_ins_self x l, by rw [← e1, hc], by omega⟩
            · exact ⟨t, mem_ins_other x l t ht hc, e1, e2⟩
    | none =>
      simp only [Option.getD_none, Option.isNone_none]
      by_cases h2 : x.2.2 ≤ (atHome ⟨x.1.toArray⟩ n).2.2
      · rw [if_pos h2, if_neg (by decide)]
        exact keep (fun hf => by have := hf.2.2; simp [atHome] at h2; omega)
      · have e8 : (if True ∧ 64 ≤ l.length then (8 : Int) else 0) = 0 := if_neg (by omega)
        rw [if_neg h2, e8, if_pos rfl]
        simp only [atHome] at h2
        refine ⟨fun z hz => ?_, fun z hz hf => ?_⟩
        · rcases mem_ins hz with rfl | hz
          · exact ⟨List.mem_cons_self, by omega, by omega, by omega⟩
          · exact ⟨List.mem_cons_of_mem _ (h.mem z hz).1, (h.mem z hz).2⟩
        · rcases List.mem_cons.1 hz with rfl | hz
          · exact ⟨z, mem_ins_self z l, rfl, by omega⟩
          · obtain ⟨t, ht, e1, e2⟩ := h.top z hz hf
            exact ⟨t, mem_ins_other x l t ht (find_none hk t ht), e1, e2⟩
theorem best_nil (n : Int) : Best n [] [] := ⟨fun y hy => by simp at hy, fun y hy => by simp at hy⟩
theorem best_eq {n : Int} {S S' l l' : List Known} (h : Best n S l) (h' : Best n S' l') (hr : Rising l) (hr' : Rising l') (h1 : ∀ x ∈ S, x ∈ S') (h2 : ∀ x ∈ S', x ∈ S) (hu : ∀ x ∈ S, ∀ y ∈ S, x.1 = y.1 → x.2.2 = y.2.2 → x = y) : l = l' := by
  have sub : ∀ {S S' l l' : List Known}, Best n S l → Best n S' l' → Rising l → (∀ x ∈ S, x ∈ S') → (∀ x ∈ S', x ∈ S) → (∀ x ∈ S, ∀ y ∈ S, x.1 = y.1 → x.2.2 = y.2.2 → x = y) → ∀ y ∈ l, y ∈ l' := by
    intro S S' l l' h h' hr h1 h2 hu y hy
    obtain ⟨q1, q2⟩ := h.mem y hy
    obtain ⟨t, ht, e1, e2⟩ := h'.top y (h1 y q1) q2
    obtain ⟨r1, r2⟩ := h'.mem t ht
    obtain ⟨z, hz, e3, e4⟩ := h.top t (h2 t r1) r2
    have : z = y := by
      have a1 := find_self hr hz
      have a2 := find_self hr hy
      rw [e3, e1, a2] at a1
      exact (Option.some.inj a1).symm
    subst this
    have : z = t := hu z q1 t (h2 t r1) e1.symm (by omega)
    rw [this]
    exact ht
  exact rising_set_eq l l' hr hr' (fun x => ⟨sub h h' hr h1 h2 hu x, sub h' h hr' h2 h1 (fun a ha b hb => hu a (h2 a ha) b (h2 b hb)) x⟩)
end Go.Proofs.Ytbmdhhafmieapaa
