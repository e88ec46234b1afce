/- Glob: live. -/
import Derived.Test.YtnglmaebmabdcaaDoorQ5
import Derived.Test.YtnglmaebmabdcaaDoorQ8
namespace Go.Proofs.YtnglmaebmabdcaaDoor
open Go Go.RowKit

theorem match_c (P N : ByteArray) (b : Bool) (hP : P.size ≤ 1000) (hN : N.size ≤ 1000) (h : globB P N = b) (w : World) : Calls Tryd.prog 10 #[.string P, .string N] w fun e w' => e = .returned (.bool b) ∧ Below w.heap.size w w' := by
  rw [← h]; exact Match_any P N w hP hN

set_option maxHeartbeats 1000000 in
set_option maxRecDepth 100000 in
theorem live_true (w : World) (hM : Ml w) : Calls Tryd.prog 9 #[] w fun e w' => e = .returned (.bool true) ∧ Below w.heap.size w w' := by
  have hm1 := match_c ⟨#[97, 37]⟩ ⟨#[97, 47, 98]⟩ false (by decide) (by decide) (by decide +kernel)
  have hm2 := match_c ⟨#[97, 42]⟩ ⟨#[97, 47, 98]⟩ true (by decide) (by decide) (by decide +kernel)
  have hm3 := match_c ⟨#[73, 110, 66, 111, 120, 47, 120]⟩ ⟨#[105, 110, 98, 111, 120, 47, 120]⟩ true (by decide) (by decide) (by decide +kernel)
  have hmv := moved_any ⟨#[97, 47, 98]⟩ ⟨#[97]⟩ ⟨#[99]⟩ w (by decide) (by decide) (by decide)
  have hmv' : Calls Tryd.prog 18 #[.string ⟨#[97, 47, 98]⟩, .string ⟨#[97]⟩, .string ⟨#[99]⟩] w fun e w' => e = .returned (.tuple #[.string ⟨#[99, 47, 98]⟩, .bool true]) ∧ w' = w := by
    refine hmv.mono ?_
    rintro e w' ⟨h, rfl⟩
    refine ⟨?_, rfl⟩
    unfold MovR at h
    rw [h, show movedL (⟨#[97, 47, 98]⟩ : ByteArray).data.toList (⟨#[97]⟩ : ByteArray).data.toList (⟨#[99]⟩ : ByteArray).data.toList = [99, 47, 98] from by decide +kernel, show movesL (⟨#[97, 47, 98]⟩ : ByteArray).data.toList (⟨#[97]⟩ : ByteArray).data.toList = true from by decide +kernel]
  clear hmv
  have hu := fun w => under_any ⟨#[97, 47, 98]⟩ ⟨#[97]⟩ w (by decide) (by decide)
  rw [show underL (⟨#[97, 47, 98]⟩ : ByteArray).data.toList (⟨#[97]⟩ : ByteArray).data.toList = true from by decide +kernel] at hu
  go_enter Tryd.func9, Tryd.ntmps9
  go_wp2_with (first
    | (go_at_call 18; refine hmv'.mono ?_; rintro e w0 ⟨rfl, rfl⟩)
    | (go_at_call 10; first | (with_reducible refine (hm1 _).mono ?_; rintro e w1 ⟨rfl, hb1⟩) | (with_reducible refine (hm2 _).mono ?_; rintro e w2 ⟨rfl, hb2⟩) | (with_reducible refine (hm3 _).mono ?_; rintro e w3 ⟨rfl, hb3⟩)))
  have h3 := (hb1.trans (hb2.mono hb1.size)).trans (hb3.mono (Nat.le_trans hb1.size hb2.size))
  have hM3 := hM.below h3
  have hst := steps_any ⟨#[97, 47, 98]⟩ w3 (by decide) hM3
  rw [show stepsS ⟨#[97, 47, 98]⟩ = [⟨#[97]⟩, ⟨#[98]⟩] from by decide +kernel] at hst
  clear hm1 hm2 hm3 hb1 hb2 hb3 hM hM3 hmv'
  refine hst.mono ?_
  rintro e w4 ⟨v, rfl, hl, hb4⟩
  obtain ⟨a, c, rfl, hc⟩ := hl.shape
  obtain ⟨W5, hW5⟩ : ∃ W5, w4.alloc (.cells #[.string ⟨#[97]⟩, .string ⟨#[98]⟩] 9) = W5 := ⟨_, rfl⟩
  have hb5 : Below w4.heap.size w4 W5 := by rw [← hW5]; exact (Below.refl _ w4).alloc (Nat.le_refl _) _
  have hl5 := hl.below hb5
  have hn5 : Ltr W5 (.slice (some ⟨w4.heap.size, 0, none⟩) 2 2) [⟨#[97]⟩, ⟨#[98]⟩] := by rw [← hW5]; exact Ltr.new w4 [⟨#[97]⟩, ⟨#[98]⟩] _ _ (Nat.le_refl _)
  have hsm := Same_any _ _ _ _ W5 hl5 hn5 (by decide)
  rw [decide_eq_true rfl] at hsm
  have HB := Lib.hid ((h3.trans (hb4.mono h3.size)).trans (hb5.mono (Nat.le_trans h3.size hb4.size)))
  have HS := Lib.hid (Nat.le_trans h3.size (Nat.le_trans hb4.size hb5.size))
  clear hst h3 hl hb4 hb5 hl5 hn5
  go_wp2_with (first
    | rw [hW5]
    | (go_at_call 13; refine hsm.mono ?_; rintro e w6 ⟨rfl, hb6⟩)
    | (go_at_call 16; refine (hu _).mono ?_; rintro e w7 ⟨rfl, rfl⟩))
  go_ret
  exact ⟨rfl, HB.out.trans (hb6.mono HS.out)⟩
end Go.Proofs.YtnglmaebmabdcaaDoor
