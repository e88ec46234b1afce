/- Deed: DeedNames. -/
import Derived.Test.YtjljbnilckkjnaaDoorG29
namespace Go.Proofs.YtjljbnilckkjnaaDoor
open Go Go.RowKit

set_option maxHeartbeats 4000000 in
set_option maxRecDepth 100000 in
theorem walk_names (s : ByteArray) (w : World) (hT : Tabs w) (hs : s.size ≤ 4398046511104) :
    Calls Tryd.prog 3 #[.string s] w fun e w' => e = .returned (.bool true) ∧ Below w.heap.size w w' := by
  have HL := Lib.hid (live_any w hT)
  have H1 : Hid (∀ u, Below w.heap.size w u → Calls Tryd.prog 12 #[.string s] u fun e w' => e = .returned (.bool (rightU s)) ∧ Below w.heap.size w w') := Lib.hid (fun u hu => bel_bring hu (rightUser_any s u (by omega)))
  have H2 : Hid (∀ u, Below w.heap.size w u → Calls Tryd.prog 13 #[.string s] u fun e w' => e = .returned (.bool (rightU s)) ∧ Below w.heap.size w w') := Lib.hid (fun u hu => bel_bring hu (refRightUser s u (by omega)))
  have H3 : Hid (∀ u, Below w.heap.size w u → Calls Tryd.prog 14 #[.string s] u fun e w' => e = .returned (.bool (rightX s)) ∧ Below w.heap.size w w') := Lib.hid (fun u hu => bel_bring hu (rightBox_any s u (hT.below hu (Nat.le_refl _))))
  have H4 : Hid (∀ u, Below w.heap.size w u → Calls Tryd.prog 15 #[.string s] u fun e w' => e = .returned (.bool (rightX s)) ∧ Below w.heap.size w w') := Lib.hid (fun u hu => bel_bring hu (refRightBox s u (hT.below hu (Nat.le_refl _)) hs))
  have H5 : Hid (∀ u, Below w.heap.size w u → Calls Tryd.prog 16 #[.string s] u fun e w' => e = .returned (.string (foldF s)) ∧ Below w.heap.size w w') := Lib.hid (fun u hu => bel_bring hu (fold_any s u))
  have H6 : Hid (∀ u, Below w.heap.size w u → Calls Tryd.prog 17 #[.string s] u fun e w' => e = .returned (.string (foldF s)) ∧ Below w.heap.size w w') := Lib.hid (fun u hu => bel_bring hu (refFold s u (by omega)))
  generalize rightU s = R at *
  generalize rightX s = X at *
  generalize foldF s = F at *
  clear hT hs
  go_enter Tryd.func3, Tryd.ntmps3
  go_wp2_with fail
  refine HL.out.mono ?_
  rintro e w1 ⟨rfl, b1⟩
  have B1 := Lib.hid b1
  clear b1 HL
  go_wp2_with fail
  refine (H1.out _ B1.out).mono ?_
  rintro e w2 ⟨rfl, b1⟩
  have B2 := Lib.hid b1
  clear b1 H1 B1
  go_wp2_with fail
  refine (H2.out _ B2.out).mono ?_
  rintro e w3 ⟨rfl, b1⟩
  have B3 := Lib.hid b1
  clear b1 H2 B2
  go_wp2_with fail
  refine (H3.out _ B3.out).mono ?_
  rintro e w4 ⟨rfl, b1⟩
  have B4 := Lib.hid b1
  clear b1 H3 B3
  go_wp2_with fail
  refine (H4.out _ B4.out).mono ?_
  rintro e w5 ⟨rfl, b1⟩
  have B5 := Lib.hid b1
  clear b1 H4 B4
  go_wp2_with fail
  refine (H5.out _ B5.out).mono ?_
  rintro e w6 ⟨rfl, b1⟩
  have B6 := Lib.hid b1
  clear b1 H5 B5
  go_wp2_with fail
  refine (H6.out _ B6.out).mono ?_
  rintro e w7 ⟨rfl, b1⟩
  have B7 := Lib.hid b1
  clear b1 H6 B6
  go_wp2
  go_ret
  exact ⟨ret_bool (by simp), B7.out⟩
end Go.Proofs.YtjljbnilckkjnaaDoor
