import Derived.Test.YtbhkchdkknainaaG4
import Derived.Test.YtbhkchdkknainaaOpen
import Derived.Deep.Slices
namespace Go.Proofs.Ytbhkchdkknainaa
open Go.ChangeShapes Go.WideShapes Go.ChangeAt Go.RowKit Go.Deep

theorem cells31 : Try.prog.cellsOf 31 = 1 := by kernel_rfl

/-- An element of bytes, opened off its reading alone. -/
theorem rd_of {H : Type} {enc : TypeId × Value → H} {W : World} {n : Nat} {v : Value} {x : DataW H × List MemPlace}
    (hf : DataW.trod enc Try.prog W 0 (fun _ => true) true n 31 [v] = some x) : ∃ l, Rd W v l ∧ l.length + 1 ≤ Rows.uptoBulk x.1 := by
  rcases open_ints Try.underlying31 Try.underlying5 cells5 hf with ⟨hcs, rfl⟩ | ⟨a, len, cap, zs, hcs, _, hl, hm, hz, rfl, hcell, hwz⟩
  · injection hcs with hcs _
    subst hcs
    exact ⟨[], Or.inl (Byt.nil W), Nat.le_refl _⟩
  · injection hcs with hcs _
    subst hcs
    simp only [if_true] at hz
    have hlen : ((zs.take len).map fun x => UInt8.ofNat x.toNat).length = len := by rw [List.length_map, List.length_take]; omega
    have hbulk : ((zs.take len).map fun x => UInt8.ofNat x.toNat).length + 1 ≤ Rows.uptoBulk (DataW.slice (H := H) (lits .u8 (zs.take len)) (lits .u8 (zs.drop len))) := by
      simp only [Rows.uptoBulk]
      rw [bulk_lits, hlen, List.length_take]
      omega
    refine ⟨(zs.take len).map fun x => UInt8.ofNat x.toNat, ?_, hbulk⟩
    by_cases h0 : cap = 0
    · have : len = 0 := by omega
      subst this
      exact Or.inr ⟨by simp, some a, cap, rfl⟩
    · have hc0 := hcell 0 (by omega)
      obtain ⟨g, off, s⟩ := a
      obtain rfl : s = none := by simpa [Addr.add] using World.cell?_spot hc0
      have hg : g < W.heap.size := by have := World.block_lt_of_cell? W _ hc0; simpa [Addr.add] using this
      refine Or.inl ⟨some ⟨g, off, none⟩, cap, by rw [hlen], by rw [hlen]; exact hl, (fun h => by cases h), fun ad had => ?_⟩
      injection had with had
      subst had
      refine ⟨g, off, rfl, hg, fun j hj => ?_⟩
      rw [hlen] at hj
      have hc := hcell j (by omega)
      rw [addr_plus] at hc
      rw [hc]
      have hb := byte_of (hwz zs[j] (List.getElem_mem _))
      simp only [List.getElem_map, List.getElem_take]
      rw [show zs.getD j 0 = zs[j] by simp [List.getD, show j < zs.length by omega]]
      congr 2
      rw [UInt8.toNat_ofNat']
      omega

/-- An argument of slices of bytes, opened. -/
theorem open_byts {H : Type} {enc : TypeId × Value → H} {W : World} {base : Nat} {v : Value} {d : DataW H} {p : List MemPlace}
    (hval : Value.okWide Try.prog W .any base 29 v) (h0 : DataW.Trod enc Try.prog W 0 (fun _ => true) true 29 v d p) : ∃ L, Byts W v L := by
  obtain ⟨a0, len, cap, rfl⟩ := okWide_slice Try.underlying29 hval
  obtain ⟨fuel, hf⟩ := h0
  rcases open_slice1 Try.underlying29 cells31 hf with ⟨hcs, _⟩ | ⟨a, len', cap', m, n, V, D, Pl, hcs, _, hl, hm, hmm, _, hx⟩
  · simp [Value.cells] at hcs
    obtain ⟨rfl, rfl, rfl⟩ := hcs
    exact ⟨[], none, 0, rfl, Nat.le_refl _, fun _ => rfl, fun j h => by cases h⟩
  · simp [Value.cells] at hcs
    obtain ⟨rfl, rfl, rfl⟩ := hcs
    simp only [if_true] at hmm
    have hchoose : ∀ i, ∃ l, i < len → Rd W (V i) l := fun i => by
      by_cases hi : i < len
      · obtain ⟨l, hl, _⟩ := rd_of (hx i (by omega)).2
        exact ⟨l, fun _ => hl⟩
      · exact ⟨[], fun h => absurd h hi⟩
    let f : Nat → List UInt8 := fun i => Classical.choose (hchoose i)
    have hfs : ∀ i, i < len → Rd W (V i) (f i) := fun i => Classical.choose_spec (hchoose i)
    have hL : ((List.range len).map f).length = len := by rw [List.length_map, List.length_range]
    refine ⟨(List.range len).map f, some a, cap, by rw [hL], by rw [hL]; exact hl, (fun h => by cases h), fun j hj => ?_⟩
    rw [hL] at hj
    have hc := (hx j (by omega)).1
    have hc0 := (hx 0 (by omega)).1
    obtain ⟨g, off, s⟩ := a
    obtain rfl : s = none := by simpa [Addr.add] using World.cell?_spot hc0
    have hg : g < W.heap.size := by have := World.block_lt_of_cell? W _ hc0; simpa [Addr.add] using this
    rw [addr_plus] at hc
    refine ⟨g, off, rfl, hg, V j, hc, ?_⟩
    have := hfs j hj
    simpa using this
end Go.Proofs.Ytbhkchdkknainaa
