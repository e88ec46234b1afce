/- Disk: Write. -/
import Derived.Test.YtohmofhpbmhhjaaD3
import Derived.Test.YtohmofhpbmhhjaaD1c
import Derived.Deep.RegionHeld3
import Derived.Laws.IdiomCopy
namespace Go.Proofs.Ytohmofhpbmhhjaa
open Go Go.RowKit

def pad (l : List UInt8) : List UInt8 := l ++ List.replicate (64 - l.length) 0
theorem pad_len {l : List UInt8} (h : l.length ≤ 64) : (pad l).length = 64 := by simp [pad]; omega
def zeroW (i : Nat) : List Value := .int .i64 (i : Int) :: pgC zeroP
theorem built_W (i : Nat) : Try.prog.built 63 [(0, .int .i64 (i : Int))] = some (zeroW i).toArray := by kernel_rfl
theorem zeroW_len (i : Nat) : (zeroW i).length = 65 := by simp [zeroW, pgC, zeroP]
theorem zeroW_cell (i : Nat) : ∀ u ∈ zeroW i, u.oneCell' = true := wrC_cell (x := (i, zeroP))
theorem over_zero (i : Nat) (l : List UInt8) (h : l.length ≤ 64) : over (zeroW i) 1 (pgC l) = wrC (i, pad l) := by
  unfold over zeroW wrC
  rw [pgC_zero]
  simp only [pgC_len, List.take_succ_cons, List.take_zero, List.drop_succ_cons, Nat.add_comm 1, List.drop_replicate, pad]
  simp [pgC]

/-- The slice v reads as l; of an empty one nothing is asked of where it lies. -/
def Byz (w : World) (v : Value) (l : List UInt8) : Prop := (∃ a cap, v = .slice a l.length cap) ∧ (l ≠ [] → Byt w v l)
theorem Byt.z {w : World} {v : Value} {l : List UInt8} (h : Byt w v l) : Byz w v l := ⟨by obtain ⟨a, c, e, _⟩ := h.shape; exact ⟨a, c, e⟩, fun _ => h⟩
theorem Byz.kept {w w' : World} {v : Value} {l : List UInt8} (h : Byz w v l) (hs : w.heap.size ≤ w'.heap.size) (hk : ∀ g, v.ownBlock = some g → l ≠ [] → w'.heap[g]? = w.heap[g]?) : Byz w' v l :=
  ⟨h.1, fun hn => (h.2 hn).kept hs (fun g hg => hk g hg hn)⟩
theorem Byz.below {w w' : World} {v : Value} {l : List UInt8} (h : Byz w v l) (hb : Below w.heap.size w w') : Byz w' v l := ⟨h.1, fun hn => (h.2 hn).below hb⟩
theorem Byz.lt {w : World} {v : Value} {l : List UInt8} (h : Byz w v l) : ∀ g, v.ownBlock = some g → l ≠ [] → g < w.heap.size := fun g hg hn => (h.2 hn).lt g hg
section
variable {P : Program}
/-- A copy of bytes into the block that was made last. -/
theorem run_copy_new (w : World) (T e ty : TypeId) (hu : P.underlying T = some (.slice e)) (hs : (P.info? e).map (·.size) = some 1) (Z : List Value) (t : TypeId) (o dl dc : Nat) (v : Value) (l : List UInt8) (hz : Byz w v l) (hl : l.length ≤ dl) (ho : o + l.length ≤ Z.length) :
    (Builtin.copy_ #[T, T] ty #[.slice (some ⟨w.heap.size, o, none⟩) dl dc, v]).run P (w.alloc (.cells Z.toArray t)) = .ok (goInt l.length) (w.alloc (.cells (over Z o (pgC l)).toArray t)) := by
  by_cases hne : l = []
  · obtain ⟨a, cap, rfl⟩ := hz.1
    subst hne
    rw [run_copy_none _ T T ty e _ _ _ _ _ _ hu hs (by simp)]
    show _ = Result.ok (goInt 0) (w.alloc (.cells (over Z o []).toArray t))
    rw [over_nil]
  have hv := hz.2 hne
  have hv' := hv.below (w' := w.alloc (.cells Z.toArray t)) ((Below.refl _ w).alloc (Nat.le_refl _) _)
  obtain ⟨a, cap, rfl, h2, h3, h4⟩ := hv'
  cases a with
  | none =>
    have h0 := h3 rfl
    obtain rfl : l = [] := List.eq_nil_of_length_eq_zero (by omega)
    rw [run_copy_none _ T T ty e _ _ _ _ _ _ hu hs (by simp)]
    show _ = Result.ok (goInt 0) (w.alloc (.cells (over Z o []).toArray t))
    rw [over_nil]
  | some ad =>
    obtain ⟨g, off, rfl, hg, hc⟩ := h4 _ rfl
    have hb := heap_alloc_last w (.cells Z.toArray t)
    have hr := run_copy_cells (P := P) (w.alloc (.cells Z.toArray t)) T T ty e w.heap.size o dl dc ⟨g, off, none⟩ l.length cap (pgC l) hu hs (by rw [pgC_len]; exact (Nat.min_eq_left hl).symm) (fun j u hj => by
        have hj' : j < l.length := by have := (List.getElem?_eq_some_iff.1 hj).1; rwa [pgC_len] at this
        rw [addr_plus, hc j hj']
        simpa [pgC, hj'] using hj)
      (fun j hj => by rw [pgC_len] at hj; rw [cell_of_row _ _ _ _ _ _ hb]; simp; omega)
      (fun j _ => frozen_of_row _ _ _ _ _ hb) pgC_cell
    rw [hr, pgC_len]
    congr 1
    have h1 := setCells_row w.heap.size t (pgC l) o Z _ hb (by rw [pgC_len]; exact ho)
    obtain ⟨s1, s2, s3, s4, s5⟩ := setCells_all w.heap.size (pgC l) o (w.alloc (.cells Z.toArray t))
    have hd : ((w.alloc (.cells Z.toArray t)).setCells w.heap.size o (pgC l)).drawn = w.drawn := setCells_drawn _ _ _ _
    generalize (w.alloc (.cells Z.toArray t)).setCells w.heap.size o (pgC l) = W at *
    cases W with
    | mk heap tape drawn os output =>
      simp only at s1 s2 s3 s4 s5 h1 hd
      subst s1 s2 s3 hd
      simp only [World.alloc] at s4 s5 ⊢
      congr 1
      apply Array.ext_getElem?
      intro k
      by_cases hk : k = w.heap.size
      · subst hk
        rw [h1]; simp
      · rw [s5 k hk, Array.getElem?_push, Array.getElem?_push, if_neg hk, if_neg hk]
end

/-- A write waits. -/
theorem Dsk.wrote {O : Nat → Prop} {w W1 W2 : World} {D S c : Nat} {wv wv' : Value} {s : St} {x : Nat × List UInt8} (h : Dsk O w D S c wv s) (hb : Below w.heap.size w W1)
    (hown : W2.ownsRow 0 63 65 wv' (s.waits.length + 1) (s.waits.flatMap wrC ++ wrC x)) (hg : W1.grownBy W2 wv.ownBlock) (hw : ∀ g, wv'.ownBlock = some g → wv.ownBlock = some g ∨ W1.heap.size ≤ g)
    (hx : x.1 < s.sure.length ∧ x.2.length = 64) (hn : s.waits.length + 1 ≤ 1000) :
    Dsk (fun k => (O k ∨ w.heap.size ≤ k) ∧ k < W2.heap.size) (W2.setCell ⟨D, 1, none⟩ wv') D S c wv' { s with waits := s.waits ++ [x] } ∧ Fr O w (W2.setCell ⟨D, 1, none⟩ wv') := by
  have hs1 := hb.size
  have hs2 := hg.size
  have hlD := h.lt D h.memD
  have hlS := h.lt S h.memS.1
  have hD : W2.heap[D]? = w.heap[D]? := (hg.block D (by omega) (fun e => (h.memW D e.symm).2.1 rfl)).trans (hb.block D hlD)
  have hS : W2.heap[S]? = w.heap[S]? := (hg.block S (by omega) (fun e => (h.memW S e.symm).2.2 rfl)).trans (hb.block S hlS)
  have hgD : ∀ g, wv'.ownBlock = some g → g ≠ D ∧ g ≠ S ∧ (O g ∨ w.heap.size ≤ g) := fun g hgg => by
    rcases hw g hgg with h0 | h0
    · exact ⟨(h.memW g h0).2.1, (h.memW g h0).2.2, Or.inl (h.memW g h0).1⟩
    · exact ⟨by omega, by omega, Or.inr (by omega)⟩
  have hsz : (W2.setCell ⟨D, 1, none⟩ wv').heap.size = W2.heap.size := by simp [World.setCell]
  refine ⟨⟨⟨h.ok.pages, ?_, h.ok.some, h.ok.few, h.ok.cut, by simpa using hn, h.ok.an⟩, ?_, ?_, ?_, ⟨Or.inl h.memD, by omega⟩, ⟨⟨Or.inl h.memS.1, by omega⟩, h.memS.2⟩, ?_, ?_⟩, ?_⟩
  · intro y hy
    rcases List.mem_append.1 hy with h0 | h0
    · exact h.ok.writes y h0
    · rw [List.mem_singleton] at h0; subst h0; exact hx
  · rw [heap_setCell_same W2 D 1 _ _ _ (hD.trans h.blk)]
    rfl
  · exact owns_frame h.sure (fun k hk => by cases hk; exact (Below.heap_setCell _ _ _ _ h.memS.2).trans hS)
  · have hown' : W2.ownsRow 0 63 65 wv' (s.waits ++ [x]).length ((s.waits ++ [x]).flatMap wrC) := by
      rw [List.length_append, List.flatMap_append]
      simpa using hown
    exact owns_frame hown' (fun k hk => Below.heap_setCell _ _ _ _ (hgD k hk).1)
  · intro g hgg
    refine ⟨⟨(hgD g hgg).2.2, ?_⟩, (hgD g hgg).1, (hgD g hgg).2.1⟩
    exact (World.ownsRow.lt hown g hgg).2
  · intro k hk
    rw [hsz]; exact hk.2
  · exact ((Fr.of_below O hb).grown hg (fun k hk => Or.inl (h.memW k hk).1)).setCell ⟨D, 1, none⟩ (Or.inl h.memD) _
end Go.Proofs.Ytohmofhpbmhhjaa
