import Derived.Test.YtdohgmbchmcemaaDoorW5
namespace Go.Proofs.YtdohgmbchmcemaaDoor
open Go.RowKit

theorem live_num : resN (numF ⟨#[52, 48, 55]⟩) = .tuple #[.int .i64 407, .int .i64 0, .int .i64 0] := by kernel_rfl
theorem live_unq : res3 (unqF ⟨#[34, 97, 92, 34, 98, 34, 32, 99]⟩) = .tuple #[.string ⟨#[97, 34, 98]⟩, .int .i64 6, .int .i64 0] := by kernel_rfl
theorem live_quo : res3 (quoteF ⟨#[195, 164]⟩) = .tuple #[.string ⟨#[34, 195, 164, 34]⟩, .int .i64 0, .int .i64 0] := by kernel_rfl
theorem live_atom : atomF ⟨#[97]⟩ = true := by kernel_rfl
theorem live_same : (low (ByteArray.mk #[97, 66]).data.toList == low (ByteArray.mk #[65, 98]).data.toList) = true := by kernel_rfl

set_option maxHeartbeats 800000 in
theorem live_any (w : World) (hT : Tabs w) : Calls Tryd.prog 12 #[] w fun e w' => e = .returned (.bool true) ∧ Below w.heap.size w w' := by
  have h1 := number_any ⟨#[52, 48, 55]⟩ w (by decide)
  rw [live_num] at h1
  go_enter Tryd.func12, Tryd.ntmps12
  go_wp2_with fail
  refine h1.mono ?_
  rintro e w1 ⟨rfl, b1⟩
  have h2 := unquote_any ⟨#[34, 97, 92, 34, 98, 34, 32, 99]⟩ w1 (hT.below b1 (Nat.le_refl _)) (by decide)
  rw [live_unq] at h2
  go_wp2_with fail
  refine h2.mono ?_
  rintro e w2 ⟨rfl, b2⟩
  have b3 := b1.trans (b2.mono b1.size)
  have h3 := quote_any ⟨#[195, 164]⟩ w2 (hT.below b3 (Nat.le_refl _))
  rw [live_quo] at h3
  clear h1 h2 b1 b2
  go_wp2_with fail
  refine h3.mono ?_
  rintro e w3 ⟨rfl, b4⟩
  have b5 := b3.trans (b4.mono b3.size)
  have h4 := atom_any ⟨#[97]⟩ w3
  rw [live_atom] at h4
  clear h3 b3 b4
  go_wp2_with fail
  refine h4.mono ?_
  rintro e w4 ⟨rfl, b6⟩
  have b7 := b5.trans (b6.mono b5.size)
  have h5 := same ⟨#[97, 66]⟩ ⟨#[65, 98]⟩ w4
  rw [live_same] at h5
  clear h4 b5 b6
  go_wp2_with fail
  refine h5.mono ?_
  rintro e w5 ⟨rfl, b8⟩
  go_wp2
  go_ret
  exact ⟨rfl, b7.trans (b8.mono b7.size)⟩
end Go.Proofs.YtdohgmbchmcemaaDoor
