/- The statement AddrPaths, walked. -/
import Derived.Test.YtmolifgjghbfaaaDoorR8
namespace Go.Proofs.YtmolifgjghbfaaaDoor
open Go.RowKit

set_option maxHeartbeats 2000000 in
set_option maxRecDepth 100000 in
theorem lawPaths (s : ByteArray) (w : World) (hT : Tabs w) (hs : s.size ≤ 1048576) :
    Calls Tryd.prog 5 #[.string s] w fun e w' => e = .returned (.bool true) ∧ Below w.heap.size w w' := by
  have hA := fun W hT => path_any s W hT (by omega)
  have hB := fun W hT => refPath s W hT hs
  unfold resP at hA hB
  generalize pathF s.data.toList = F at *
  go_enter Tryd.func5, Tryd.ntmps5
  go_wp2_with fail
  refine (hA _ hT).mono ?_
  rintro e w1 ⟨rfl, b1⟩
  have z1 := b1.size
  have t1 := Two.new w1 23 (.string ⟨F.1.toArray⟩) (.string ⟨F.2.1.toArray⟩)
  have B1 := b1.alloc b1.size (.cells #[.string ⟨F.1.toArray⟩, .string ⟨F.2.1.toArray⟩] 23)
  go_wp2_with fail
  refine (hB _ (hT.below B1 (Nat.le_refl _))).mono ?_
  rintro e w2 ⟨rfl, b2⟩
  have z2 := b2.size
  simp at z2
  have t2 := (t1.below b2 (by simp)).alloc (by omega) (.cells #[.string ⟨F.1.toArray⟩, .string ⟨F.2.1.toArray⟩] 23)
  have t3 := Two.new w2 23 (.string ⟨F.1.toArray⟩) (.string ⟨F.2.1.toArray⟩)
  have B2 := (B1.trans (b2.mono B1.size)).alloc (by omega) (.cells #[.string ⟨F.1.toArray⟩, .string ⟨F.2.1.toArray⟩] 23)
  go_wp2_with fail
  refine (live_any _ (hT.below B2 (Nat.le_refl _))).mono ?_
  rintro e w3 ⟨rfl, b3⟩
  obtain ⟨c0, c1, f0, f1⟩ := t2.below b3 (by simp; omega)
  obtain ⟨d0, d1, g0, g1⟩ := t3.below b3 (by simp)
  go_wp2
  go_ret
  exact ⟨ret_b (by simp), B2.trans (b3.mono B2.size)⟩
end Go.Proofs.YtmolifgjghbfaaaDoor
