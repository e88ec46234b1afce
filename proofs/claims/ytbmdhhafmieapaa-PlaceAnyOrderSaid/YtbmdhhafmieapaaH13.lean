/- A slice of seats at a place; what stands while the rest grows. -/
import Derived.Test.YtbmdhhafmieapaaH12
namespace Go.Proofs.Ytbmdhhafmieapaa
open Go Go.RowKit Go.Maps

theorem Full.at {w : World} {v : Value} {l : List Known} (h : Full w v l) (k : Nat) (hk : k < l.length) : ∃ g cap, v = .slice (some ⟨g, 0, none⟩) l.length cap ∧ w.cell? ⟨g, k * 3, none⟩ = some (.string ⟨(l[k]'hk).1.toArray⟩) ∧ w.cell? ⟨g, k * 3 + 1, none⟩ = some (.int .i64 (l[k]'hk).2.1) ∧ w.cell? ⟨g, k * 3 + 2, none⟩ = some (.int .i64 (l[k]'hk).2.2) := by
  rcases h with ⟨_, rfl⟩ | ⟨g, cap, rfl, _, _, hc⟩
  · simp at hk
  · obtain ⟨a0, a1, a2⟩ := cellsL_at l k _ (List.getElem?_eq_getElem hk)
    exact ⟨g, cap, rfl, hc _ _ a0, hc _ _ a1, hc _ _ a2⟩
theorem Full.len {w : World} {v : Value} {l : List Known} (h : Full w v l) : ∃ a cap, v = .slice a l.length cap := by
  rcases h with ⟨rfl, rfl⟩ | ⟨g, cap, rfl, _⟩
  · exact ⟨none, 0, rfl⟩
  · exact ⟨_, cap, rfl⟩
theorem Full.below {w w' : World} {v : Value} {l : List Known} (h : Full w v l) (hb : Below w.heap.size w w') : Full w' v l := by
  rcases h with h | ⟨g, cap, rfl, h2, h3, h4⟩
  · exact Or.inl h
  · exact Full.kept (Or.inr ⟨g, cap, rfl, h2, h3, h4⟩) hb.size (fun k e => by cases e; exact hb.block _ h3)
end Go.Proofs.Ytbmdhhafmieapaa
