/- Lines, the document's own: a buffer in a block; New, Feed, take. -/
import Derived.Test.YtbhkchdkknainaaG4
import Derived.Test.YtbhkchdkknainaaV6
namespace Go.Proofs.Ytbhkchdkknainaa
open Go.RowKit

/-- A buffer of the reference's at block b: its bytes are never written in place. -/
structure RB (B : Nat) (w : World) (b : Nat) (v : Value) (l : List UInt8) : Prop where
  cell : w.cell? ⟨b, 0, none⟩ = some v
  free : w.frozen? ⟨b, 0, none⟩ = false
  own : B ≤ b
  byt : Byt w v l
  apart : v.ownBlock ≠ some b
theorem RB.lt {B : Nat} {w : World} {b : Nat} {v : Value} {l : List UInt8} (h : RB B w b v l) : b < w.heap.size := World.block_lt_of_cell? w _ h.cell
theorem RB.fr {S : Nat → Prop} {B : Nat} {w w' : World} {b : Nat} {v : Value} {l : List UInt8} (h : RB B w b v l) (hf : Fr S w w') (hb : ¬ S b) (hv : ∀ g, v.ownBlock = some g → ¬ S g) : RB B w' b v l :=
  ⟨(World.cell?_of_block (a := ⟨b, 0, none⟩) (hf.block b h.lt hb)).trans h.cell, (World.frozen?_of_block (a := ⟨b, 0, none⟩) (hf.block b h.lt hb)).trans h.free, h.own, h.byt.fr hf hv, h.apart⟩
theorem RB.stay {B : Nat} {w w' : World} {b : Nat} {v : Value} {l : List UInt8} (h : RB B w b v l) (hb : Below w.heap.size w w') : RB B w' b v l :=
  h.fr (S := fun _ => False) (Fr.of_below hb) (fun e => e) (fun _ _ e => e)
theorem RB.set {B : Nat} {w : World} {b : Nat} {v' : Value} {l' : List UInt8} (hc : (w.cell? ⟨b, 0, none⟩).isSome = true) (hf : w.frozen? ⟨b, 0, none⟩ = false) (ho : B ≤ b) (hr : Byt w v' l') (ha : v'.ownBlock ≠ some b) : RB B (w.setCell ⟨b, 0, none⟩ v') b v' l' := by
  obtain ⟨x, hx⟩ := Option.isSome_iff_exists.1 hc
  exact ⟨World.cell?_setCell_same w _ v' hx, by rw [World.frozen?_setCell]; exact hf, ho, hr.fr (S := fun k => k = b) (Fr.set w b v' rfl) (fun g hg e => ha (e ▸ hg)), ha⟩

theorem rnew_any (w : World) : Calls Try.prog 24 #[] w fun e w' => e = .returned (.pointer (some ⟨w.heap.size, 0, none⟩)) ∧ RB w.heap.size w' w.heap.size (.slice none 0 0) [] ∧ Below w.heap.size w w' := by
  go_enter Try.func24, Try.ntmps24
  go_wp2
  go_ret
  refine ⟨rfl, ⟨?_, ?_, Nat.le_refl _, Byt.nil _, by simp [Value.ownBlock]⟩, (Below.refl _ w).alloc (Nat.le_refl _) _⟩
  · rw [World.cell?_alloc_mark]; rfl
  · exact World.frozen?_alloc_new w _ _ 0

/-- append([]byte{}, x...): a copy in a block of its own. -/
theorem copy_rd (w : World) {x : Value} {p : List UInt8} (hx : Rd w x p) (hlen : p.length ≤ 140737488355328) :
    ∃ v' w', (∀ ty, (Builtin.append_ #[31, 31] ty #[.slice (some ⟨w.heap.size, 0, none⟩) 0 0, x]).run Try.prog (w.alloc (.cells #[] 5)) = .ok v' w') ∧ Row w.heap.size w' v' p ∧ Below w.heap.size w w' := by
  have m1 := made_below w #[] (0, 0)
  have E1 : Row w.heap.size (w.alloc (.cells #[] 5)) (.slice (some ⟨w.heap.size, 0, none⟩) 0 0) [] := Row.made w 5 [] #[] rfl (Nat.le_refl _) (by decide)
  obtain ⟨v2, w2, hr2, R2, hg2, _⟩ := app_rd _ E1 (hx.below m1) m1.size (by simp only [List.length_nil]; omega)
  rw [List.nil_append] at R2
  exact ⟨v2, w2, hr2, R2, below_grow m1 E1 m1.size hg2⟩
theorem copy_run (w : World) {x : Value} {p : List UInt8} (hx : Byt w x p) (hlen : p.length ≤ 140737488355328) :
    ∃ v' w', (∀ ty, (Builtin.append_ #[31, 31] ty #[.slice (some ⟨w.heap.size, 0, none⟩) 0 0, x]).run Try.prog (w.alloc (.cells #[] 5)) = .ok v' w') ∧ Row w.heap.size w' v' p ∧ Below w.heap.size w w' :=
  copy_rd w (Or.inl hx) hlen
end Go.Proofs.Ytbhkchdkknainaa
