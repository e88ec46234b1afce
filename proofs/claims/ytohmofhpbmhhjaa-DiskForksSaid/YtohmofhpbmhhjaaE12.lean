/- Disk: a copy of bytes as one's own, and each of its bytes turned. -/
import Derived.Test.YtohmofhpbmhhjaaE11
namespace Go.Proofs.Ytohmofhpbmhhjaa
open Go Go.RowKit

theorem Byz.src {P : Program} {w : World} {v : Value} {l : List UInt8} (h : Byz w v l) {t e' : TypeId} (hk : P.underlying t = some (.slice e')) : Go.Src P 1 t v l.length (l.map fun b => Value.int .u8 (b.toNat : Int)) w := by
  by_cases hn : l = []
  · subst hn
    obtain ⟨a, c, rfl⟩ := h.1
    cases a with
    | none => exact Go.Src.ofNil w hk c
    | some ad => exact Go.Src.ofSlice w hk ad 0 c [] rfl (fun j u hj => by simp at hj) (fun u hu => by simp at hu)
  · exact (h.2 hn).src hk
theorem own_bytes (w : World) (v : Value) (l : List UInt8) (hz : Byz w v l) (hl : l.length ≤ 140737488351232) :
    ∃ v' w', (∀ ty, (Builtin.append_ #[29, 29] ty #[.slice (some ⟨w.heap.size, 0, none⟩) 0 0, v]).run Try.prog (w.alloc (.cells #[] 5)) = .ok v' w') ∧ Row w.heap.size w' v' l ∧ Below w.heap.size w w' ∧ ∀ g, v'.ownBlock = some g → w.heap.size ≤ g := by
  obtain ⟨i0, hi0, hz0, hz1, hz2⟩ := info_parts (show (Try.prog.info? 5).map (fun i => (i.zero, i.size, i.bytes)) = some (some (.int .u8 0), 1, 1) by kernel_rfl)
  have hb1 : Below w.heap.size w (w.alloc (.cells #[] 5)) := (Below.refl _ w).alloc (Nat.le_refl _) _
  have hr := Row.made w 5 [] #[] rfl (Nat.le_refl w.heap.size) (by decide)
  obtain ⟨v', w', hrun, h2, h3, h4⟩ := run_append_src (P := Try.prog) (w.alloc (.cells #[] 5)) 29 29 5 i0 Try.underlying29 hi0 hz0 hz1 hz2 hr ((hz.below hb1).src Try.underlying29) hb1.size (by simp only [List.length_nil]; omega)
  refine ⟨v', w', hrun, by simpa using h2, hb1.grown h3 hb1.size (fun k hk => by simp [Value.ownBlock] at hk; omega), fun g hg => ?_⟩
  rcases h4 with h | h
  · rw [h] at hg
    simp [Value.ownBlock] at hg
    omega
  · exact Nat.le_trans hb1.size (h g hg)
/-- n bytes that may be written. -/
def Flips (w : World) (v : Value) (n : Nat) : Prop := ∃ a c, v = .slice a n c ∧ (0 < n → ∃ g o, a = some ⟨g, o, none⟩ ∧ ∀ j, j < n → (∃ b : Nat, b < 256 ∧ w.cell? ⟨g, o + j, none⟩ = some (.int .u8 (b : Int))) ∧ w.frozen? ⟨g, o + j, none⟩ = false)
theorem Flips.kept {w w' : World} {v : Value} {n : Nat} (h : Flips w v n) (hk : ∀ g, v.ownBlock = some g → w'.heap[g]? = w.heap[g]?) : Flips w' v n := by
  obtain ⟨a, c, rfl, h⟩ := h
  refine ⟨a, c, rfl, fun hn => ?_⟩
  obtain ⟨g, o, rfl, hj⟩ := h hn
  refine ⟨g, o, rfl, fun j hjn => ?_⟩
  obtain ⟨⟨b, hb, h1⟩, h2⟩ := hj j hjn
  exact ⟨⟨b, hb, (World.cell?_of_block (a := ⟨g, o + j, none⟩) (hk g rfl)).trans h1⟩, (World.frozen?_of_block (a := ⟨g, o + j, none⟩) (hk g rfl)).trans h2⟩
theorem Flips.set {w : World} {g o n c k : Nat} (h : Flips w (.slice (some ⟨g, o, none⟩) n c) n) (b : Nat) (hb : b < 256) : Flips (w.setCell ⟨g, o + k, none⟩ (.int .u8 (b : Int))) (.slice (some ⟨g, o, none⟩) n c) n := by
  obtain ⟨a, c', he, h⟩ := h
  cases he
  refine ⟨_, _, rfl, fun hn => ?_⟩
  obtain ⟨g', o', he, hj⟩ := h hn
  cases he
  refine ⟨g, o, rfl, fun j hjn => ?_⟩
  obtain ⟨⟨b', hb', h1⟩, h2⟩ := hj j hjn
  refine ⟨?_, by rw [World.frozen?_setCell]; exact h2⟩
  by_cases hjk : j = k
  · subst hjk
    exact ⟨b, hb, World.cell?_setCell_same w _ _ h1⟩
  · refine ⟨b', hb', Eq.trans (World.cell?_setCell_other (h := ?_) ..) h1⟩
    intro e
    injection e with _ e
    omega
theorem flips_page {p : List UInt8} {w' : World} {b : Nat} (hp : p.length = 64) (h : w'.heap[b]? = some (.cells (pgC p).toArray 61 (0, 0))) : Flips w' (.slice (some ⟨b, 0, none⟩) 64 64) 64 := by
  refine ⟨_, _, rfl, fun _ => ⟨b, 0, rfl, fun j hj => ⟨⟨(p[j]'(by omega)).toNat, (p[j]'(by omega)).toNat_lt, ?_⟩, frozen_of_row _ _ _ _ _ h⟩⟩⟩
  rw [Nat.zero_add, cell_of_row _ _ _ _ _ _ h]
  simp [pgC, show j < p.length by omega]
theorem flips_row {w : World} {v : Value} {l : List UInt8} {B : Nat} (h : Row B w v l) : Flips w v l.length := by
  obtain ⟨⟨a, cap, rfl, h2, h3, h4⟩, hr⟩ := h
  refine ⟨a, cap, rfl, fun hn => ?_⟩
  cases a with
  | none => have := h3 rfl; omega
  | some ad =>
    obtain ⟨g, o, rfl, hg, hc⟩ := h4 _ rfl
    exact ⟨g, o, rfl, fun j hj => ⟨⟨l[j].toNat, l[j].toNat_lt, hc j hj⟩, ((hr _ _ _ rfl).2.2 j (by omega)).2⟩⟩
end Go.Proofs.Ytohmofhpbmhhjaa
