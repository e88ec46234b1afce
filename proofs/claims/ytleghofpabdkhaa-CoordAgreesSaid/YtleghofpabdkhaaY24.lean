/- Coord: records in a list of one's own. -/
import Derived.Test.YtleghofpabdkhaaY5
import Derived.Test.YtleghofpabdkhaaY11
namespace Go.Proofs.Ytleghofpabdkhaa
open Go Go.RowKit

theorem infoB : (Try.prog.info? 34).map (fun i => (i.zero, i.size, i.bytes)) = some (some (.slice none 0 0), 1, 24) := by kernel_rfl
/-- The list v, of one's own, holds the records; their bytes lie in other blocks, of which E holds. -/
def RecsAt (E : Nat → Prop) (B : Nat) (W : World) (v : Value) (ls : List (List UInt8)) : Prop :=
  ∃ vs : List Value, W.ownsRow B 34 1 v ls.length vs ∧ ∀ (i : Nat) (l : List UInt8), ls[i]? = some l → ∃ u, vs[i]? = some u ∧ Byz W u l ∧ ∀ k, u.ownBlock = some k → l ≠ [] → v.ownBlock ≠ some k ∧ E k
theorem RecsAt.nil (E : Nat → Prop) (B : Nat) (W : World) : RecsAt E B W (.slice none 0 0) [] := ⟨[], ⟨rfl, Or.inl ⟨rfl, rfl⟩⟩, fun i l h => by simp at h⟩
theorem RecsAt.shape {E : Nat → Prop} {B : Nat} {W : World} {v : Value} {ls : List (List UInt8)} (h : RecsAt E B W v ls) : ∃ a c, v = .slice a ls.length c ∧ ls.length ≤ c := by
  obtain ⟨vs, h1, _⟩ := h
  exact owns_shape h1
theorem RecsAt.lt {E : Nat → Prop} {B : Nat} {W : World} {v : Value} {ls : List (List UInt8)} (h : RecsAt E B W v ls) : ∀ g, v.ownBlock = some g → B ≤ g ∧ g < W.heap.size := by
  obtain ⟨vs, h1, _⟩ := h
  exact fun g hg => World.ownsRow.lt h1 g hg
theorem RecsAt.fr {E S : Nat → Prop} {B : Nat} {W W' : World} {v : Value} {ls : List (List UInt8)} (h : RecsAt E B W v ls) (hf : Fr S W W') (hv : ∀ g, v.ownBlock = some g → ¬ S g) (hE : ∀ k, E k → ¬ S k) : RecsAt E B W' v ls := by
  obtain ⟨vs, h1, h2⟩ := h
  refine ⟨vs, owns_frame h1 (fun g hg => hf.block g (World.ownsRow.lt h1 g hg).2 (hv g hg)), fun i l hi => ?_⟩
  obtain ⟨u, hu, hb, hk⟩ := h2 i l hi
  exact ⟨u, hu, hb.kept hf.size (fun g hg hn => hf.block g (hb.lt g hg hn) (hE g (hk g hg hn).2)), hk⟩
theorem RecsAt.below {E : Nat → Prop} {B : Nat} {W W' : World} {v : Value} {ls : List (List UInt8)} (h : RecsAt E B W v ls) (hb : Below W.heap.size W W') : RecsAt E B W' v ls :=
  h.fr (Fr.of_below (fun _ => False) hb) (fun _ _ h => h) (fun _ _ h => h)
theorem RecsAt.mono {E F : Nat → Prop} {B : Nat} {W : World} {v : Value} {ls : List (List UInt8)} (h : RecsAt E B W v ls) (he : ∀ k, E k → F k) : RecsAt F B W v ls := by
  obtain ⟨vs, h1, h2⟩ := h
  refine ⟨vs, h1, fun i l hi => ?_⟩
  obtain ⟨u, hu, hb, hk⟩ := h2 i l hi
  exact ⟨u, hu, hb, fun k e hn => ⟨(hk k e hn).1, he k (hk k e hn).2⟩⟩
/-- The record at a place: its cell, and its bytes. -/
theorem RecsAt.at {E : Nat → Prop} {B : Nat} {W : World} {v : Value} {ls : List (List UInt8)} (h : RecsAt E B W v ls) (i : Nat) (l : List UInt8) (hi : ls[i]? = some l) :
    ∃ g c u, v = .slice (some ⟨g, 0, none⟩) ls.length c ∧ g < W.heap.size ∧ W.cell? ⟨g, i, none⟩ = some u ∧ Byz W u l := by
  obtain ⟨vs, h1, h2⟩ := h
  obtain ⟨u, hu, hb, _⟩ := h2 i l hi
  rcases h1.2 with ⟨_, h0⟩ | ⟨g, cap, cur, e, _, hg, _⟩
  · rw [List.length_eq_zero_iff.1 h0] at hi; cases hi
  · have := World.ownsRow.cells h1 (g := g) (by rw [e]; rfl) i u hu
    rw [addr_plus, Nat.zero_add] at this
    exact ⟨g, cap, u, e, (Array.getElem?_eq_some_iff.1 hg).1, this, hb⟩
/-- append of one record. -/
theorem appR {E : Nat → Prop} {B : Nat} {w : World} {v : Value} {ls : List (List UInt8)} (h : RecsAt E B w v ls) (u : Value) (l : List UInt8) (hu : Byz w u l) (hue : ∀ k, u.ownBlock = some k → l ≠ [] → v.ownBlock ≠ some k ∧ E k) (hB : B ≤ w.heap.size) (hl : ls.length ≤ 100000) :
    ∃ a c w', (∀ ty, (Builtin.append_ #[50, 50] ty #[v, .slice (some ⟨w.heap.size, 0, none⟩) 1 1]).run Try.prog (w.alloc (.cells #[u] 34)) = .ok (.slice a (ls ++ [l]).length c) w') ∧ RecsAt E B w' (.slice a (ls ++ [l]).length c) (ls ++ [l]) ∧ Fr (fun k => v.ownBlock = some k) w w' ∧ ∀ g, (Value.slice a (ls ++ [l]).length c).ownBlock = some g → v.ownBlock = some g ∨ w.heap.size ≤ g := by
  obtain ⟨vs, hv, h2⟩ := h
  have hvl : vs.length = ls.length := by have := hv.1; omega
  have hb : Below w.heap.size w (w.alloc (.cells #[u] 34)) := (Below.refl _ w).alloc (Nat.le_refl _) _
  have hv' := owns_frame hv (fun k hk => hb.block k (World.ownsRow.lt hv k hk).2)
  obtain ⟨ua, uc, hus⟩ := hu.1
  obtain ⟨i, hi, hz, hs, hbs⟩ := info_parts infoB
  obtain ⟨v', w', hr, ho, hg, hwh⟩ := app_own (P := Try.prog) _ 50 34 i _ 1 24 Try.underlying50 hi hz hs hbs rfl (by decide) v ls.length vs (World.ownsRow.mono hv' (Nat.zero_le _)) ⟨w.heap.size, 0, none⟩ 1 1 [u] rfl (by decide)
    (fun j x hx => by rw [addr_plus, Nat.zero_add, cell_of_row _ _ _ _ _ _ (heap_alloc_new w _)]; simpa using hx) (by intro x hx; simp only [List.mem_cons, List.not_mem_nil, or_false] at hx; subst hx; rw [hus]; rfl) (by unfold maxLen; omega) (by omega)
  have hsz : (w.alloc (.cells #[u] 34)).heap.size = w.heap.size + 1 := by simp
  rw [hsz] at hwh
  have hln : (ls ++ [l]).length = ls.length + 1 := by simp
  rw [← hln] at ho
  obtain ⟨a, c, rfl, _⟩ := owns_shape ho
  have hwh2 : ∀ g, (Value.slice a (ls ++ [l]).length c).ownBlock = some g → v.ownBlock = some g ∨ w.heap.size ≤ g := fun g hgg => (hwh g hgg).imp id (fun h => by omega)
  have hfr : Fr (fun k => v.ownBlock = some k) w w' := (Fr.of_below _ hb).grown hg (fun k hk => Or.inl hk)
  have hel : ∀ x m, Byz w x m → (∀ k, x.ownBlock = some k → m ≠ [] → v.ownBlock ≠ some k ∧ E k) → Byz w' x m ∧ ∀ k, x.ownBlock = some k → m ≠ [] → (Value.slice a (ls ++ [l]).length c).ownBlock ≠ some k ∧ E k := fun x m hx hk => by
    refine ⟨hx.kept hfr.size (fun g hgg hn => hfr.block g (hx.lt g hgg hn) (hk g hgg hn).1), fun k e hn => ⟨fun e2 => ?_, (hk k e hn).2⟩⟩
    rcases hwh2 k e2 with h3 | h3
    · exact (hk k e hn).1 h3
    · have := hx.lt k e hn; omega
  refine ⟨a, c, w', hr, ⟨vs ++ [u], ⟨ho.1, ?_⟩, fun j m hj => ?_⟩, hfr, hwh2⟩
  · rcases ho.2 with h0 | ⟨g, cap, cur, e, _, rest⟩
    · exact Or.inl h0
    · refine Or.inr ⟨g, cap, cur, e, ?_, rest⟩
      rcases hwh2 g (by rw [e]; rfl) with h1 | h1
      · exact (World.ownsRow.lt hv g h1).1
      · omega
  · by_cases hjl : j < ls.length
    · rw [List.getElem?_append_left hjl] at hj
      obtain ⟨x, hx, hbx, hk⟩ := h2 j m hj
      exact ⟨x, by rw [List.getElem?_append_left (by omega)]; exact hx, hel x m hbx hk⟩
    · rw [List.getElem?_append_right (by omega)] at hj
      have hj0 : j - ls.length = 0 := by
        rcases Nat.eq_zero_or_pos (j - ls.length) with h0 | h0
        · exact h0
        · rw [List.getElem?_eq_none (by simp; omega)] at hj; cases hj
      rw [hj0] at hj
      injection hj with hj
      subst hj
      exact ⟨u, by rw [List.getElem?_append_right (by omega), hvl, hj0]; rfl, hel u l hu hue⟩
end Go.Proofs.Ytleghofpabdkhaa
