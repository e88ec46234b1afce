/- Place: maps.Values of a map of seats. -/
import Derived.Test.YtbmdhhafmieapaaH14
import Derived.RangeFuncGives
import Derived.RangeFuncLeaves
import Derived.Sort.MapsRangeIn
import Derived.Sort.KeysCollected
import Derived.Maps.AppendAt
import Derived.OwnWalkIn
import Derived.TacticsInMore
import Derived.RegionIn
import Derived.LoopNIn
import Derived.LoopIn
import Derived.Shelf.Abstract
import Derived.Shelf.AbstractIn
namespace Go.Proofs.Ytbmdhhafmieapaa
open Go Go.RowKit Go.Maps Go.Sort Go.Shelf Go.Proofs

theorem seat_of {v : Value} {y : DataW Unit × List MemPlace} (h : seatElem v = some y) : ∃ x : Known, v = seatV x ∧ y.1 = entD x := by
  cases v with
  | agg cs =>
    have h : seatCells cs.toList = some y := h
    unfold seatCells at h
    split at h
    · rename_i u s e hcs
      injection h with h
      refine ⟨(u.data.toList, s, e), ?_, by rw [← h]; rfl⟩
      unfold seatV
      rw [← Array.toArray_toList (xs := cs), hcs, Lib.mk_data]
    · cases h
  | _ => cases h
theorem entD_inj {x y : Known} (h : entD x = entD y) : x = y := by
  obtain ⟨a, b, c⟩ := x
  obtain ⟨a', b', c'⟩ := y
  unfold entD at h
  simp at h
  obtain ⟨rfl, rfl, rfl⟩ := h
  rfl
theorem find_self {m : List Known} (h : Rising m) {x : Known} (hx : x ∈ m) : findK m x.1 = some x := by
  unfold findK
  induction m with
  | nil => cases hx
  | cons y t ih =>
    obtain ⟨h1, h2⟩ := List.pairwise_cons.mp h
    rw [List.find?_cons]
    rcases List.mem_cons.1 hx with rfl | hx
    · simp
    · have hne : (y.1 == x.1) = false := beq_false_of_ne (less_ne (h1 x hx))
      rw [hne]
      exact ih h2 hx
theorem val_find {m : List Known} {p : Known} (h : ∀ zd, (mapD m).atKey (.string p.1) zd = entD p) : findK m p.1 = some p := by
  cases hf : findK m p.1 with
  | none =>
    have := h .nil
    rw [at_mapD, hf] at this
    cases this
  | some x =>
    have := h .nil
    rw [at_mapD, hf] at this
    rw [entD_inj this]
/-- All the values: the list's elements, in some order. -/
theorem values_perm {m ps : List Known} (hm : Rising m) (hk : (ps.map (·.1)).Perm (strKeys (mapD m))) (hv : ∀ p ∈ ps, ∀ zd, (mapD m).atKey (.string p.1) zd = entD p) : ps.Perm m := by
  have hks : strKeys (mapD m) = m.map (·.1) := by
    unfold strKeys mapD
    simp [Function.comp_def, strOf]
  rw [hks] at hk
  have e1 : ps = (ps.map (·.1)).map (fun k => (findK m k).getD ([], 0, 0)) := by
    rw [List.map_map]
    conv => lhs; rw [← List.map_id ps]
    exact List.map_congr_left (fun p hp => by simp [val_find (hv p hp)])
  have e2 : m = (m.map (·.1)).map (fun k => (findK m k).getD ([], 0, 0)) := by
    rw [List.map_map]
    conv => lhs; rw [← List.map_id m]
    exact List.map_congr_left (fun p hp => by simp [find_self hm hp])
  rw [e1]
  conv => rhs; rw [e2]
  exact hk.map _
end Go.Proofs.Ytbmdhhafmieapaa
