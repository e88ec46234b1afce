/- Glob: a list of names as an argument. -/
import Derived.Test.YtnglmaebmabdcaaDoorQP2
import Derived.Test.YtnglmaebmabdcaaDoorQEnv
import Derived.Test.YtnglmaebmabdcaaDoorRows
import Derived.ProofKit
import Derived.OpenShut
import Derived.SizedLaws
import Derived.Deep.DeepHandedRow
import Derived.Deep.Strs
import Derived.Deep.Slices
import Derived.Lib.SmallJoins
import Derived.ChangeArms
namespace Go.Proofs.YtnglmaebmabdcaaDoor
section
open Go Go.ChangeShapes Go.WideShapes Go.ChangeAt Go.RowKit Go.Deep Go.Joins
theorem laidOut : laidOutB Tryd.prog = true := by kernel_rfl
theorem cell_spot {W : World} {a : Addr} {v : Value} (h : W.cell? a = some v) : a.spot = none := by
  unfold World.cell? at h
  split at h
  · split at h
    · cases h
    · rename_i hs
      simpa using hs
  · cases h
theorem cellsS : Tryd.prog.cellsOf 9 = 1 := by kernel_rfl
set_option maxRecDepth 100000 in
theorem open_names {H : Type} {enc : TypeId × Value → H} {W : World} {base : Nat} {v : Value} {d : DataW H} {p : List MemPlace}
    (hval : Value.okWide Tryd.prog W .any base 26 v) (h0 : DataW.Trod enc Tryd.prog W 0 (fun _ => true) true 26 v d p) :
    ∃ L : List ByteArray, Nms W v L ∧ L.length ≤ maxLen := by
  obtain ⟨a0, len, cap, rfl⟩ := okWide_slice Tryd.underlying26 hval
  obtain ⟨fuel, hf⟩ := h0
  rcases open_strs Tryd.underlying26 Tryd.underlying9 cellsS hf with ⟨hcs, hx⟩ | ⟨a, len', cap', m, Sx, hcs, _, hl, hm, hmm, hx, hcell⟩
  · simp [Value.cells] at hcs
    obtain ⟨rfl, rfl, rfl⟩ := hcs
    exact ⟨[], ⟨none, 0, rfl, fun i h => absurd h (Nat.not_lt_zero _)⟩, by simp⟩
  · simp [Value.cells] at hcs
    obtain ⟨rfl, rfl, rfl⟩ := hcs
    have hlm : len ≤ m := by rw [hmm]; split <;> omega
    have hlen : ((List.range len).map Sx).length = len := by simp
    refine ⟨(List.range len).map Sx, ⟨some a, cap, by rw [hlen], fun i hi => ?_⟩, by rw [hlen]; omega⟩
    rw [hlen] at hi
    have hc := (hcell i (by omega)).1
    have hc0 := (hcell 0 (by omega)).1
    obtain ⟨g, off, sp⟩ := a
    rw [show (⟨g, off, sp⟩ : Addr).add 0 = ⟨g, off, sp⟩ by unfold Addr.add; simp] at hc0
    have hs : sp = none := cell_spot hc0
    subst hs
    rw [addr_plus] at hc
    refine ⟨g, off, rfl, World.block_lt_of_cell? W _ hc0, ?_⟩
    rw [hc]
    simp
end
end Go.Proofs.YtnglmaebmabdcaaDoor
