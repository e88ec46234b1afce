/- The statement AddrPrints, walked. -/
import Derived.Test.YtmolifgjghbfaaaDoorR7
namespace Go.Proofs.YtmolifgjghbfaaaDoor
open Go.RowKit

set_option maxHeartbeats 2000000 in
set_option maxRecDepth 100000 in
theorem lawPrints (x d : ByteArray) (w : World) (hT : Tabs w) (hx : x.size ≤ 1048576) (hd : d.size ≤ 1048576) :
    Calls Tryd.prog 4 #[.agg #[.string x, .string d]] w fun e w' => e = .returned (.bool true) ∧ Below w.heap.size w w' := by
  have hA := fun W hT => print_any x d W hT (by omega) (by omega)
  have hB := fun W hT => refPrint x d W hT hx hd
  unfold res2 at hA hB
  generalize printF x.data.toList d.data.toList = F at *
  have t0 := Two.new w 23 (.string x) (.string d)
  have B0 := (Below.refl _ w).alloc (Nat.le_refl _) (.cells #[.string x, .string d] 23)
  go_enter Tryd.func4, Tryd.ntmps4
  go_wp2_with fail
  refine (hA _ (hT.below B0 (Nat.le_refl _))).mono ?_
  rintro e w1 ⟨rfl, b1⟩
  obtain ⟨c0, c1, f0, f1⟩ := t0.below b1 (by simp)
  have B1 := B0.trans (b1.mono B0.size)
  go_wp2_with fail
  refine (hB _ (hT.below B1 (Nat.le_refl _))).mono ?_
  rintro e w2 ⟨rfl, b2⟩
  have B2 := B1.trans (b2.mono B1.size)
  go_wp2_with fail
  refine (live_any _ (hT.below B2 (Nat.le_refl _))).mono ?_
  rintro e w3 ⟨rfl, b3⟩
  go_wp2
  go_ret
  exact ⟨ret_b (by simp), B2.trans (b3.mono B2.size)⟩
end Go.Proofs.YtmolifgjghbfaaaDoor
