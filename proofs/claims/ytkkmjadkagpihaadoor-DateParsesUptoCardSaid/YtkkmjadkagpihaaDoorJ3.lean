/- Date: the document's before, leap, Long, Right, Days, Civil, Week. -/
import Derived.Test.YtkkmjadkagpihaaDoorJ2
import Derived.Deep.RegionHeld3
namespace Go.Proofs.YtkkmjadkagpihaaDoor
open Go Go.RowKit

theorem refBefore (y : Int) (w : World) (h1 : 1 ≤ y) (h2 : y ≤ 10000) :
    Calls Tryd.prog 32 #[.int .i64 y] w fun e w' => e = .returned (.int .i64 (bg y + 719162)) ∧ w = w' := by
  go_enter Tryd.func32, Tryd.ntmps32
  go_wp2
  go_ret
  exact ⟨ret_int (by unfold bg; omega), rfl⟩
theorem refLeap (y : Int) (w : World) (h1 : 1 ≤ y) (h2 : y ≤ 10000) (b : Bool) (hb : lp y = if b then 1 else 0) :
    Calls Tryd.prog 33 #[.int .i64 y] w fun e w' => e = .returned (.bool b) ∧ w = w' := by
  unfold lp at hb
  by_cases h400 : y % 400 = 0
  · rw [if_pos (Or.inr h400)] at hb
    obtain rfl : b = true := by
      cases b with
      | true => rfl
      | false => exact absurd hb (by decide)
    clear hb
    go_enter Tryd.func33, Tryd.ntmps33
    go_wp2
    go_ret
    exact ⟨rfl, rfl⟩
  · have g400 : (y % 400 == 0) = false := by simp; omega
    by_cases h4 : y % 4 = 0
    · by_cases h100 : y % 100 = 0
      · rw [if_neg (by omega)] at hb
        obtain rfl : b = false := by
          cases b with
          | false => rfl
          | true => exact absurd hb (by decide)
        clear hb h400
        go_enter Tryd.func33, Tryd.ntmps33
        go_wp2
        go_ret
        exact ⟨rfl, rfl⟩
      · rw [if_pos (by omega)] at hb
        obtain rfl : b = true := by
          cases b with
          | true => rfl
          | false => exact absurd hb (by decide)
        have g100 : (y % 100 != 0) = true := by simp; omega
        clear hb h400
        go_enter Tryd.func33, Tryd.ntmps33
        go_wp2
        go_ret
        exact ⟨rfl, rfl⟩
    · rw [if_neg (by omega)] at hb
      obtain rfl : b = false := by
        cases b with
        | false => rfl
        | true => exact absurd hb (by decide)
      have g4 : (y % 4 == 0) = false := by simp; omega
      clear hb h400
      go_enter Tryd.func33, Tryd.ntmps33
      go_wp2
      go_ret
      exact ⟨rfl, rfl⟩

theorem refLong2 (y : Int) (w : World) (h1 : 1 ≤ y) (h2 : y ≤ 10000) :
    Calls Tryd.prog 17 #[.int .i64 y, .int .i64 2] w fun e w' => e = .returned (.int .i64 (28 + lp y)) ∧ Below w.heap.size w w' := by
  have hl := lp_01 y
  by_cases e : lp y = 1
  · have HB := fun w => refLeap y w h1 h2 true (by rw [e]; rfl)
    rw [e]
    clear hl e
    go_enter Tryd.func17, Tryd.ntmps17
    go_wp2_with (go_at_call 33; refine (HB _).mono ?_; rintro e w' ⟨rfl, rfl⟩)
    go_ret
    exact ⟨rfl, bal (Below.refl _ _) _⟩
  · have e0 : lp y = 0 := by omega
    have HB := fun w => refLeap y w h1 h2 false (by rw [e0]; rfl)
    rw [e0]
    clear hl e e0
    go_enter Tryd.func17, Tryd.ntmps17
    go_wp2_with (go_at_call 33; refine (HB _).mono ?_; rintro e w' ⟨rfl, rfl⟩)
    go_ret
    exact ⟨rfl, bal (Below.refl _ _) _⟩
set_option maxHeartbeats 4000000 in
theorem refLong (y m : Int) (w : World) (h1 : 1 ≤ y) (h2 : y ≤ 10000) (h3 : 1 ≤ m) (h4 : m ≤ 12) :
    Calls Tryd.prog 17 #[.int .i64 y, .int .i64 m] w fun e w' => e = .returned (.int .i64 (dim y m)) ∧ Below w.heap.size w w' := by
  have e : m = 2 ∨ m = 1 ∨ m = 3 ∨ m = 4 ∨ m = 5 ∨ m = 6 ∨ m = 7 ∨ m = 8 ∨ m = 9 ∨ m = 10 ∨ m = 11 ∨ m = 12 := by omega
  rcases e with rfl | e
  · exact refLong2 y w h1 h2
  · rcases e with rfl | rfl | rfl | rfl | rfl | rfl | rfl | rfl | rfl | rfl | rfl
    all_goals
      simp only [dim, Int.reduceEq, if_true, if_false, or_true, or_false]
      go_enter Tryd.func17, Tryd.ntmps17
      go_wp2
      go_ret
      exact ⟨rfl, bal (Below.refl _ _) _⟩

theorem refWeek (n : Int) (w : World) (_h0 : -9223372036854775808 ≤ n) (_h1 : n ≤ 9223372036854775807) :
    Calls Tryd.prog 15 #[.int .i64 n] w fun e w' => e = .returned (.int .i64 ((n + 3) % 7)) ∧ w = w' := by
  have ht := @Int.tmod_eq_emod n 7
  have hb : -6 ≤ n.tmod 7 ∧ n.tmod 7 ≤ 6 ∧ (n.tmod 7) % 7 = n % 7 := by
    rw [ht]; split <;> simp <;> omega
  clear ht
  obtain ⟨b1, b2, b3⟩ := hb
  by_cases hneg : n.tmod 7 < 0
  · have HX : Hid ((n.tmod 7 + 7 + 3) % 7 = (n + 3) % 7) := Lib.hid (by omega)
    clear b3
    go_enter Tryd.func15, Tryd.ntmps15
    go_wp2
    go_ret
    exact ⟨ret_int HX.out, rfl⟩
  · have HX : Hid ((n.tmod 7 + 3) % 7 = (n + 3) % 7) := Lib.hid (by omega)
    clear b3
    go_enter Tryd.func15, Tryd.ntmps15
    go_wp2
    go_ret
    exact ⟨ret_int HX.out, rfl⟩
end Go.Proofs.YtkkmjadkagpihaaDoor
