import Derived.Test.YtohmofhpbmhhjaaD2
import Derived.Test.YtohmofhpbmhhjaaRows
import Derived.ProofKit
import Derived.OpenShut
import Derived.SizedLaws
import Derived.Deep.DeepHandedRow
namespace Go.Proofs.Ytohmofhpbmhhjaa
open Go.ChangeShapes Go.WideShapes Go.ChangeAt Go.RowKit

theorem own : ownKnob Try.prog.godebug = none := by kernel_rfl
theorem laidOut : laidOutB Try.prog = true := by kernel_rfl
theorem cells5 : Try.prog.cellsOf 5 = 1 := by kernel_rfl
theorem bytes5 : Try.prog.bytesOf 5 = 1 := by kernel_rfl

theorem bulk_lits {H : Type} (zs : List Int) : Rows.uptoBulkAll (lits (H := H) .u8 zs) = zs.length := by
  induction zs with
  | nil => rfl
  | cons z r ih =>
    show 1 + Rows.uptoBulkAll (lits (H := H) .u8 r) = r.length + 1
    rw [ih]; omega
theorem byte_of {x : Int} (h : (Lit.int .u8 x).wf = true) : 0 ≤ x ∧ x < 256 := by
  have h1 : IntKind.u8.min = 0 := rfl
  have h2 : IntKind.u8.max = 255 := rfl
  simp only [Lit.wf, Bool.and_eq_true, decide_eq_true_eq] at h
  omega

/-- An argument of bytes, opened: nil or not. -/
theorem open_byt {H : Type} {enc : TypeId × Value → H} {W : World} {base : Nat} {v : Value} {d : DataW H} {p : List MemPlace}
    (hval : Value.okWide Try.prog W .any base 29 v) (h0 : DataW.Trod enc Try.prog W 0 (fun _ => true) true 29 v d p) :
    ∃ l, Byt W v l ∧ l.length + 1 ≤ Rows.uptoBulk d ∧ (l = [] ∨ ∃ el sp, d = .slice el sp ∧ l.length ≤ el.length) := by
  obtain ⟨a0, len, cap, rfl⟩ := okWide_slice Try.underlying29 hval
  obtain ⟨fuel, hf⟩ := h0
  rcases open_ints Try.underlying29 Try.underlying5 cells5 hf with ⟨hcs, hx⟩ | ⟨a, len', cap', zs, hcs, _, hl, hm, hz, hx, hcell, hwz⟩
  · simp [Value.cells] at hcs
    obtain ⟨rfl, rfl, rfl⟩ := hcs
    simp only [Prod.mk.injEq] at hx
    obtain ⟨rfl, rfl⟩ := hx
    exact ⟨[], Byt.nil W, Nat.le_refl _, Or.inl rfl⟩
  · simp [Value.cells] at hcs
    obtain ⟨rfl, rfl, rfl⟩ := hcs
    simp only [Prod.mk.injEq] at hx
    obtain ⟨rfl, rfl⟩ := hx
    simp only [if_true] at hz
    have hhas : W.has Try.prog .any base a 5 cap := by
      simp only [Value.okWide, Try.underlying29, Cell.okWide, Cell.ok] at hval
      exact hval.2.2
    obtain ⟨_, hsp, row, cells, hsh, _⟩ := hhas
    obtain ⟨g, off, s⟩ := a
    simp only at hsp hsh
    subst hsp
    have hg : g < W.heap.size := by
      unfold World.shape? at hsh
      by_cases hlt : g < W.heap.size
      · exact hlt
      · rw [Array.getElem?_eq_none (by omega)] at hsh; cases hsh
    have hlen : ((zs.take len).map fun x => UInt8.ofNat x.toNat).length = len := by rw [List.length_map, List.length_take]; omega
    refine ⟨(zs.take len).map fun x => UInt8.ofNat x.toNat, ⟨some ⟨g, off, none⟩, cap, by rw [hlen], by rw [hlen]; exact hl, (fun h => by cases h), fun ad had => ?_⟩, ?_, Or.inr ⟨_, _, rfl, ?_⟩⟩
    · injection had with had
      subst had
      refine ⟨g, off, rfl, hg, fun j hj => ?_⟩
      rw [hlen] at hj
      have hc := hcell j (by omega)
      rw [addr_plus] at hc
      rw [hc]
      have hb := byte_of (hwz zs[j] (List.getElem_mem _))
      simp only [List.getElem_map, List.getElem_take]
      rw [show zs.getD j 0 = zs[j] by simp [List.getD, show j < zs.length by omega]]
      congr 2
      rw [UInt8.toNat_ofNat']
      omega
    · simp only [Rows.uptoBulk]
      rw [bulk_lits, hlen, List.length_take]
      omega
    · rw [hlen]
      simp only [lits, List.length_map, List.length_take]
      omega
end Go.Proofs.Ytohmofhpbmhhjaa
