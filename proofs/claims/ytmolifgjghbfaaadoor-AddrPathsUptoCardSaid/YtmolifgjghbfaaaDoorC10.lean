/- The statements' live(). -/
import Derived.Test.YtmolifgjghbfaaaDoorC9
namespace Go.Proofs.YtmolifgjghbfaaaDoor
open Go.RowKit

def liveA : ByteArray := ⟨#[66, 111, 98, 46, 120, 64, 77, 97, 105, 108, 46, 69, 120, 97, 109, 112, 108, 101]⟩
def liveB : ByteArray := ⟨#[97, 46, 46, 98, 64, 99]⟩
theorem live_a : parseF liveA = ([66, 111, 98, 46, 120], [109, 97, 105, 108, 46, 101, 120, 97, 109, 112, 108, 101], 0, 0) := by decide +kernel
theorem live_b : parseF liveB = ([], [], 2, 4) := by decide +kernel
theorem live_p : printF [97, 32, 98] [99] = ([34, 97, 32, 98, 34, 64, 99], 0) := by decide +kernel

set_option maxHeartbeats 2000000 in
set_option maxRecDepth 100000 in
theorem live_any (w : World) (hT : Tabs w) :
    Calls Tryd.prog 11 #[] w fun e w' => e = .returned (.bool true) ∧ Below w.heap.size w w' := by
  have hA := fun W hT => parse_any liveA W hT (by decide)
  have hB := fun W hT => parse_any liveB W hT (by decide)
  have hP := fun W hT => print_any ⟨#[97, 32, 98]⟩ ⟨#[99]⟩ W hT (by decide) (by decide)
  have hU := fun W => user_any ⟨#[66, 111, 98, 46, 120]⟩ ⟨#[109, 97, 105, 108, 46, 101, 120, 97, 109, 112, 108, 101]⟩ W
  rw [live_a] at hA
  rw [live_b] at hB
  rw [show printF ((⟨#[97, 32, 98]⟩ : ByteArray).data.toList) ((⟨#[99]⟩ : ByteArray).data.toList) = ([34, 97, 32, 98, 34, 64, 99], 0) from live_p] at hP
  rw [show low ((⟨#[66, 111, 98, 46, 120]⟩ : ByteArray).data.toList) = [98, 111, 98, 46, 120] by decide] at hU
  unfold resA at hA hB
  unfold res2 at hP
  go_enter Tryd.func11, Tryd.ntmps11
  go_wp2_with fail
  refine (hA _ hT).mono ?_
  rintro e w1 ⟨rfl, b1⟩
  have z1 := b1.size
  have t1 := Two.new w1 23 (.string ⟨#[66, 111, 98, 46, 120]⟩) (.string ⟨#[109, 97, 105, 108, 46, 101, 120, 97, 109, 112, 108, 101]⟩)
  have B1 := b1.alloc b1.size (.cells #[.string ⟨#[66, 111, 98, 46, 120]⟩, .string ⟨#[109, 97, 105, 108, 46, 101, 120, 97, 109, 112, 108, 101]⟩] 23)
  go_wp2_with fail
  refine (hB _ (hT.below B1 (Nat.le_refl _))).mono ?_
  rintro e w2 ⟨rfl, b2⟩
  have z2 := b2.size
  simp at z2
  have t2 := t1.below b2 (by simp)
  have B2 := (B1.trans (b2.mono B1.size)).alloc (by omega) (.cells #[noStr, noStr] 23)
  have t3 := t2.alloc (by omega) (.cells #[noStr, noStr] 23)
  go_wp2_with fail
  refine (hP _ (hT.below B2 (Nat.le_refl _))).mono ?_
  rintro e w3 ⟨rfl, b3⟩
  have z3 := b3.size
  simp at z3
  obtain ⟨c0, c1, f0, f1⟩ := t3.below b3 (by simp; omega)
  go_wp2_with fail
  refine (hU _).mono ?_
  rintro e w4 ⟨rfl, b4⟩
  go_wp2
  go_ret
  exact ⟨rfl, (B2.trans (b3.mono B2.size)).trans (b4.mono (by omega))⟩
end Go.Proofs.YtmolifgjghbfaaaDoor
