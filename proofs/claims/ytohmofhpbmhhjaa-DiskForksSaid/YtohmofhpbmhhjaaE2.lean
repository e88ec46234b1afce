/- Disk, the document's own: appends onto a new list; set. -/
import Derived.Test.YtohmofhpbmhhjaaE1
namespace Go.Proofs.Ytohmofhpbmhhjaa
open Go Go.RowKit

section
variable {P : Program}
/-- A list is copied: append onto a new empty one. -/
theorem app_copy (w : World) (T e : TypeId) (i : TypeInfo) (z : Value) (size bytes : Nat) (ht : P.underlying T = some (.slice e)) (hi : P.info? e = some i) (hz : i.zero = some z) (hs : i.size = size) (hb : i.bytes = bytes) (hzs : z.cells.size = size) (h0 : 0 < size) (hb2 : bytes ≤ 100)
    (v : Value) (n : Nat) (xs : List Value) (hown : w.ownsRow 0 e size v n xs) (hnil : n = 0 → v = .slice none 0 0) (h1 : ∀ u ∈ xs, u.oneCell' = true) (hn : n ≤ 1000) :
    ∃ g c w', (∀ ty, (Builtin.append_ #[T, T] ty #[.slice (some ⟨w.heap.size, 0, none⟩) 0 0, v]).run P (w.alloc (.cells #[] e)) = .ok (.slice (some ⟨g, 0, none⟩) n c) w') ∧ w'.ownsRow 0 e size (.slice (some ⟨g, 0, none⟩) n c) n xs ∧ Below w.heap.size w w' ∧ w.heap.size ≤ g := by
  have hw1 : (w.alloc (.cells #[] e)).ownsRow 0 e size (.slice (some ⟨w.heap.size, 0, none⟩) 0 0) 0 [] :=
    ⟨by simp, Or.inr ⟨w.heap.size, 0, #[], rfl, Nat.zero_le _, heap_alloc_last w _, Nat.le_refl _, by unfold maxLen; omega, by simp, by simp⟩⟩
  have hb1 : Below w.heap.size w (w.alloc (.cells #[] e)) := (Below.refl _ w).alloc (Nat.le_refl _) _
  by_cases hn0 : n = 0
  · have hv := hnil hn0
    have hx : xs = [] := List.eq_nil_of_length_eq_zero (by rw [hown.1, hn0]; simp)
    subst hv hn0 hx
    exact ⟨w.heap.size, 0, _, fun ty => run_append_owned_none (P := P) (w := w.alloc (.cells #[] e)) 0 T ty e i size ht hi _ 0 [] hw1, hw1, hb1, Nat.le_refl _⟩
  · rcases hown.2 with ⟨_, h⟩ | ⟨g, cap, cur, rfl, _⟩
    · exact absurd h hn0
    · have hown1 : (w.alloc (.cells #[] e)).ownsRow 0 e size (.slice (some ⟨g, 0, none⟩) n cap) n xs := World.ownsRow.alloc hown _
      obtain ⟨v', w', hr, h2, h3, h4⟩ := app_own (P := P) (w.alloc (.cells #[] e)) T e i z size bytes ht hi hz hs hb hzs h0 _ 0 [] hw1 ⟨g, 0, none⟩ n cap xs hown.1 hn0
        (fun j u hu => World.ownsRow.cells hown1 (g := g) rfl j u hu) h1 (by unfold maxLen; omega) (by have := Nat.mul_le_mul (show 0 + n ≤ 1000 by omega) hb2; omega)
      rw [Nat.zero_add, List.nil_append] at h2
      rcases h2.2 with ⟨_, h⟩ | ⟨g', cap', cur', rfl, hr'⟩
      · exact absurd h hn0
      · refine ⟨g', cap', w', hr, h2, hb1.grown h3 hb1.size (fun k hk => ?_), ?_⟩
        · simp only [Value.ownBlock, Option.map_some, Option.some.injEq] at hk
          omega
        · rcases h4 g' rfl with h | h
          · simp only [Value.ownBlock, Option.map_some, Option.some.injEq] at h
            omega
          · exact Nat.le_trans hb1.size h
end
theorem infoS9 : (Try.prog.info? 9).map (fun i => (i.zero, i.size, i.bytes)) = some (some (.string ⟨#[]⟩), 1, 16) := by kernel_rfl
theorem infoRW : (Try.prog.info? 77).map (fun i => (i.zero, i.size, i.bytes)) = some (some (.agg #[.int .i64 0, .string ⟨#[]⟩]), 2, 24) := by kernel_rfl
theorem row_lt {base e size n : Nat} {w : World} {v : Value} {xs : List Value} (h : w.ownsRow base e size v n xs) : ∀ g, v.ownBlock = some g → g < w.heap.size := fun g hg => (World.ownsRow.lt h g hg).2
theorem set_one (w : World) (g o : Nat) (v : Value) : w.setCells g o [v] = w.setCell ⟨g, o, none⟩ v := rfl

/-- Another list of pages is put into the disk. -/
theorem RDsk.setted {O : Nat → Prop} {w W : World} {D : Nat} {pv lv : Value} {s : St} (h : RDsk O w D pv lv s) (hb : Below w.heap.size w W) (g c : Nat) (l : List (List UInt8)) (hl : l.length = s.sure.length) (hp : ∀ p ∈ l, p.length = 64)
    (hown : W.ownsRow 0 9 1 (.slice (some ⟨g, 0, none⟩) s.sure.length c) s.sure.length (l.flatMap strC)) (hg : w.heap.size ≤ g) : RNow O w D { s with sure := l } (W.setCell ⟨D, 0, none⟩ (.slice (some ⟨g, 0, none⟩) s.sure.length c)) := by
  have hD := h.lt D h.memD
  have hgl := row_lt hown g rfl
  have hf : Fr (· = D) W (W.setCell ⟨D, 0, none⟩ (.slice (some ⟨g, 0, none⟩) s.sure.length c)) := (Fr.refl (· = D) W).setCell ⟨D, 0, none⟩ (Or.inl rfl) _
  have hf' : Fr (· = D) w (W.setCell ⟨D, 0, none⟩ (.slice (some ⟨g, 0, none⟩) s.sure.length c)) := (Fr.of_below (· = D) hb).trans hf (fun _ _ h => h) (fun _ _ h => h)
  have ho : ∀ k, O k → k ≠ D → (W.setCell ⟨D, 0, none⟩ (.slice (some ⟨g, 0, none⟩) s.sure.length c)).heap[k]? = w.heap[k]? := fun k hk hn => hf'.block k (h.lt k hk) hn
  refine ⟨fun k => O k ∨ k = g, .slice (some ⟨g, 0, none⟩) s.sure.length c, lv, ⟨⟨hp, fun x hx => ?_, ?_, ?_, h.ok.cut, h.ok.wn, h.ok.an⟩, ?_, ?_, ?_, h.nil, Or.inl h.memD, ?_, fun k hk => ⟨Or.inl (h.memL k hk).1, (h.memL k hk).2⟩, ?_⟩, hf', fun k hk => ?_⟩
  · have := h.ok.writes x hx
    rw [← hl] at this
    exact this
  · have := h.ok.some
    rw [← hl] at this
    exact this
  · have := h.ok.few
    rw [← hl] at this
    exact this
  · rw [heap_setCell_same _ D 0 _ _ _ ((hb.block D hD).trans h.blk)]
    rfl
  · show World.ownsRow _ _ _ _ _ l.length _
    rw [hl]
    exact owns_frame hown (fun k hk => by cases hk; exact heap_setCell_other W _ _ _ (show g ≠ D by omega))
  · exact owns_frame h.waits (fun k hk => ho k (h.memL k hk).1 (h.memL k hk).2)
  · intro k hk
    cases hk
    exact ⟨Or.inr rfl, show g ≠ D by omega⟩
  · intro k hk
    rcases hk with hk | rfl
    · exact Nat.lt_of_lt_of_le (h.lt k hk) hf'.size
    · exact Nat.lt_of_lt_of_le hgl hf.size
  · rcases hk with hk | rfl
    · exact Or.inl hk
    · exact Or.inr hg
end Go.Proofs.Ytohmofhpbmhhjaa
