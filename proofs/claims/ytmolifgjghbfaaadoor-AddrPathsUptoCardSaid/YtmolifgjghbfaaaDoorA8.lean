import Derived.Test.YtmolifgjghbfaaaDoorA7
namespace Go.Proofs.YtmolifgjghbfaaaDoor
open Go.RowKit

theorem own_cells {w : World} {base : Nat} {e : TypeId} {v : Value} {n : Nat} {xs : List Value} (h : w.ownsRow base e 1 v n xs) (hn : 0 < n) : ∃ g cap, v = .slice (some ⟨g, 0, none⟩) n cap ∧ g < w.heap.size ∧ ∀ i, i < n → w.cell? ⟨g, i, none⟩ = xs[i]? := by
  rcases h.2 with ⟨_, h0⟩ | ⟨g, cap, cur, rfl, hb, hgg, rest⟩
  · omega
  · refine ⟨g, cap, rfl, (Array.getElem?_eq_some_iff.1 hgg).1, fun i hi => ?_⟩
    have hl := h.1
    have hx : i < xs.length := by omega
    have := h.cells (g := g) rfl i xs[i] (List.getElem?_eq_getElem hx)
    rw [addr_at] at this
    rw [this, List.getElem?_eq_getElem hx]

/-- Where the letters from a place on stand among all. -/
theorem drop_cons {α : Type} {l t : List α} {x : α} {i : Nat} (h : l.drop i = x :: t) : i < l.length ∧ l[i]? = some x ∧ l.drop (i + 1) = t := by
  have h1 : i < l.length := by
    rcases Nat.lt_or_ge i l.length with h' | h'
    · exact h'
    · rw [List.drop_eq_nil_of_le h'] at h; cases h
  rw [List.drop_eq_getElem_cons h1] at h
  injection h with h2 h3
  exact ⟨h1, by rw [List.getElem?_eq_getElem h1, h2], h3⟩
theorem drop_nil {α : Type} {l : List α} {i : Nat} (h : l.drop i = []) : l.length ≤ i := by
  rcases Nat.lt_or_ge i l.length with h' | h'
  · rw [List.drop_eq_getElem_cons h'] at h; cases h
  · exact h'
theorem letV_at (s : ByteArray) (i : Nat) (x : Nat × Nat × Nat) (h : (lets s 0)[i]? = some x) : (letV s)[i]? = some (lv s x) := by
  unfold letV
  rw [List.getElem?_map, h]; rfl
theorem letV_length (s : ByteArray) : (letV s).length = (lets s 0).length := by simp [letV]

theorem ext_size (s : ByteArray) (p k : Nat) (h : p + k ≤ s.size) : (s.extract p (p + k)).size = k := by rw [ByteArray.size_extract]; omega
theorem ext_get (s : ByteArray) (p k j : Nat) (h : p + k ≤ s.size) (hj : j < k) : (s.extract p (p + k)).get! j = s.get! (p + j) := by
  have hz := ext_size s p k h
  have h1 := get_list (s.extract p (p + k)) j (by omega)
  rw [← h1]
  apply Option.some.inj
  have he : (s.extract p (p + k)).data.toList = piece s p (p + k) := by rw [piece_eq]
  rw [← List.getElem?_eq_getElem, he, piece_range s p k h, List.getElem?_map, List.getElem?_range hj]
  simp

end Go.Proofs.YtmolifgjghbfaaaDoor
