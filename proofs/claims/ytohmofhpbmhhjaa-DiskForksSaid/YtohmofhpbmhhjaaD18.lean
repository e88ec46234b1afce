/- Disk: a crash, and deeds, as arguments, opened; DiskTorn in all cases. -/
import Derived.Test.YtohmofhpbmhhjaaDOpen
import Derived.Test.YtohmofhpbmhhjaaD17
import Derived.Lib.SmallJoins
import Derived.Deep.Grids
namespace Go.Proofs.Ytohmofhpbmhhjaa
open Go.ChangeShapes Go.WideShapes Go.ChangeAt Go.RowKit Go.Deep Go.Joins

theorem cellsB : Try.prog.cellsOf 4 = 1 := by kernel_rfl
theorem cell_spot {W : World} {a : Addr} {v : Value} (h : W.cell? a = some v) : a.spot = none := by
  unfold World.cell? at h
  split at h
  · split at h
    · cases h
    · rename_i hs
      simpa using hs
  · cases h
/-- Bools that were read. -/
theorem bools_of {H : Type} {enc : TypeId × Value → H} {W : World} {kv : Value} {n : Nat} {x : DataW H × List MemPlace} (h : DataW.trod enc Try.prog W 0 (fun _ => true) true n 30 [kv] = some x) :
    ∃ keep, Bools W kv keep ∧ (∀ g, kv.ownBlock = some g → keep ≠ [] → g < W.heap.size) ∧ keep.length ≤ 9223372036854775807 := by
  rcases open_bools Try.underlying30 Try.underlying4 cellsB h with ⟨hcs, _⟩ | ⟨a, len, cap, B, hcs, _, hl, hm, _, hcell⟩
  · simp only [List.cons.injEq, and_true] at hcs
    subst hcs
    exact ⟨[], ⟨none, 0, rfl, fun j hj => by simp at hj⟩, fun g hg => by simp [Value.ownBlock] at hg, by simp⟩
  · simp only [List.cons.injEq, and_true] at hcs
    subst hcs
    have hlen : ((List.range len).map B).length = len := by simp
    have hat : ∀ j, j < len → ∃ g off, a = ⟨g, off, none⟩ ∧ g < W.heap.size ∧ W.cell? ⟨g, off + j, none⟩ = some (.bool (B j)) := fun j hj => by
      have hc := hcell j (by omega)
      obtain ⟨g, off, sp⟩ := a
      have hc0 := hcell 0 (by omega)
      rw [show (⟨g, off, sp⟩ : Addr).add 0 = ⟨g, off, sp⟩ by unfold Addr.add; simp] at hc0
      have hs : sp = none := cell_spot hc0
      subst hs
      rw [addr_plus] at hc
      exact ⟨g, off, rfl, World.block_lt_of_cell? W _ hc, hc⟩
    refine ⟨(List.range len).map B, ⟨some a, cap, by rw [hlen], fun j hj => ?_⟩, fun g hg hne => ?_, by rw [hlen]; unfold maxLen at hm; omega⟩
    · rw [hlen] at hj
      obtain ⟨g, off, ha, hg, hc⟩ := hat j hj
      refine ⟨g, off, by rw [ha], hg, ?_⟩
      rw [hc]; simp
    · have h0 : 0 < len := by
        rcases Nat.eq_zero_or_pos len with h0 | h0
        · subst h0; simp at hne
        · exact h0
      obtain ⟨g', off, ha, hg', _⟩ := hat 0 h0
      subst ha
      simp [Value.ownBlock] at hg
      omega
theorem open_crash {H : Type} {enc : TypeId × Value → H} {W : World} {base : Nat} {v : Value} {d : DataW H} {p : List MemPlace}
    (hval : Value.okWide Try.prog W .any base 32 v) (h0 : DataW.Trod enc Try.prog W 0 (fun _ => true) true 32 v d p) :
    ∃ kv keep torn at', v = .agg #[kv, .int .i64 torn, .int .i64 at'] ∧ Bools W kv keep ∧ (∀ g, kv.ownBlock = some g → keep ≠ [] → g < W.heap.size) ∧ keep.length ≤ 9223372036854775807 := by
  obtain ⟨v0, v1, v2, y0, y1, y2, n, rfl, _, _, t0, t1, t2⟩ := open_agg3 Try.underlying32 (by kernel_rfl) (by kernel_rfl) hval h0
  obtain ⟨a1, e1, _, _⟩ := DataW.trod_int Try.underlying3 t1
  obtain ⟨a2, e2, _, _⟩ := DataW.trod_int Try.underlying3 t2
  simp only [List.cons.injEq, and_true] at e1 e2
  subst e1 e2
  obtain ⟨keep, k1, k2, k3⟩ := bools_of t0
  exact ⟨v0, keep, a1, a2, rfl, k1, k2, k3⟩
theorem walk_torn (u v : Value) (p q : List UInt8) (kv : Value) (keep : List Bool) (torn at' : Int) (w : World) (hu : Byt w u p) (hv : Byt w v q) (hk : Bools w kv keep ∧ (∀ g, kv.ownBlock = some g → keep ≠ [] → g < w.heap.size) ∧ keep.length ≤ 9223372036854775807) :
    Calls Try.prog 5 #[u, v, .agg #[kv, .int .i64 torn, .int .i64 at']] w fun e w' => e = .returned (.bool true) ∧ Below w.heap.size w w' := by
  by_cases h : 64 < p.length ∨ 64 < q.length
  · exact torn_long u v p q kv _ _ w hu hv h
  · exact torn_good u v p q kv keep torn at' w hu hv hk.1 hk.2.1 hk.2.2 (by omega) (by omega)
end Go.Proofs.Ytohmofhpbmhhjaa
