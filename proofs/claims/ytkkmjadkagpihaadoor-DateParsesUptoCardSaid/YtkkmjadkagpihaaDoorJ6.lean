/- Date: a moment's day there: the code's there and Here, the document's. -/
import Derived.Test.YtkkmjadkagpihaaDoorJ5
namespace Go.Proofs.YtkkmjadkagpihaaDoor
open Go Go.RowKit

/-- Is a moment right? -/
def okT (sec zone : Int) : Bool := decide (-1439 ≤ zone ∧ zone ≤ 1439 ∧ -62135596800 ≤ sec + 60 * zone ∧ sec + 60 * zone < 253402300800)
theorem okT_iff {sec zone : Int} : okT sec zone = true ↔ (-1439 ≤ zone ∧ zone ≤ 1439 ∧ -62135596800 ≤ sec + 60 * zone ∧ sec + 60 * zone < 253402300800) := by unfold okT; simp
def timeV (sec zone : Int) : Value := .agg #[.int .i64 sec, .int .i64 zone]

theorem qbeg (y : Int) (h1 : 1 ≤ y) (h2 : y ≤ 10000) (w : World) (n : Nat) : Calls Tryd.prog 31 #[.int .i64 y] (w.drewN n) fun e w' => e = .returned (.int .i64 (bg y)) ∧ w' = w.drewN n :=
  (begins_any y _ h1 h2).mono fun _ _ h => ⟨h.1, h.2.symm⟩

theorem there_no (sec zone : Int) (w : World) (h : okT sec zone = false) (_hs1 : -9223372036854775808 ≤ sec) (_hs2 : sec ≤ 9223372036854775807) (hz1 : -9223372036854775808 ≤ zone) (hz2 : zone ≤ 9223372036854775807) :
    Calls Tryd.prog 55 #[timeV sec zone] w fun e w' => e = .returned (.tuple #[.int .i64 0, .int .i64 0, .int .i64 2]) ∧ Below w.heap.size w w' := by
  unfold timeV
  by_cases h1 : zone < -1439
  · clear h
    go_enter Tryd.func55, Tryd.ntmps55
    go_wp2
    go_ret3
    exact ⟨rfl, bal (Below.refl _ _) _⟩
  by_cases h2 : 1439 < zone
  · clear h
    go_enter Tryd.func55, Tryd.ntmps55
    go_wp2
    go_ret3
    exact ⟨rfl, bal (Below.refl _ _) _⟩
  have hcase : sec < -62135596800 - 60 * zone ∨ 253402300800 - 60 * zone ≤ sec := by
    by_cases a : sec < -62135596800 - 60 * zone
    · exact Or.inl a
    · refine Or.inr ?_
      by_cases b : 253402300800 - 60 * zone ≤ sec
      · exact b
      · have : okT sec zone = true := okT_iff.2 ⟨by omega, by omega, by omega, by omega⟩
        rw [this] at h; cases h
  have b1 := bg_1
  have b2 := bg_last
  clear h
  by_cases hc : sec < -62135596800 - 60 * zone
  · clear hcase
    go_enter Tryd.func55, Tryd.ntmps55
    go_wp2
    go_quiet ((go_at_call 31; exact Calls.quiet_of_same (qbeg _ (by omega) (by omega) _ _)))
    go_wp2
    go_ret3
    exact ⟨rfl, bdn (bal (Below.refl _ _) _) _⟩
  · have hc2 : 253402300800 - 60 * zone ≤ sec := by omega
    clear hcase
    go_enter Tryd.func55, Tryd.ntmps55
    go_wp2
    go_quiet ((go_at_call 31; exact Calls.quiet_of_same (qbeg _ (by omega) (by omega) _ _)))
    go_wp2
    go_ret3
    exact ⟨rfl, bdn (bal (Below.refl _ _) _) _⟩

theorem there_yes (sec zone : Int) (w : World) (h : okT sec zone = true) :
    Calls Tryd.prog 55 #[timeV sec zone] w fun e w' => e = .returned (.tuple #[.int .i64 ((sec + 60 * zone) / 86400), .int .i64 ((sec + 60 * zone) % 86400), .int .i64 0]) ∧ Below w.heap.size w w' := by
  unfold timeV
  rw [okT_iff] at h
  obtain ⟨h1, h2, h3, h4⟩ := h
  have b1 := bg_1
  have b2 := bg_last
  have c1 : ¬ sec < -62135596800 - 60 * zone := by omega
  have c2 : ¬ 253402300800 - 60 * zone ≤ sec := by omega
  have p1 : 0 ≤ sec - (-62135596800 - 60 * zone) := by omega
  have p2 : sec - (-62135596800 - 60 * zone) < 315537897600 := by omega
  have HD : Hid (-719162 + (sec - (-62135596800 - 60 * zone)) / 86400 = (sec + 60 * zone) / 86400) := Lib.hid (by omega)
  have HM : Hid ((sec - (-62135596800 - 60 * zone)) % 86400 = (sec + 60 * zone) % 86400) := Lib.hid (by omega)
  go_enter Tryd.func55, Tryd.ntmps55
  go_wp2
  go_quiet ((go_at_call 31; exact Calls.quiet_of_same (qbeg _ (by omega) (by omega) _ _)))
  go_wp2_with fail
  refine (begins_any 1 _ (by omega) (by omega)).mono ?_
  rw [bg_1]
  rintro e w' ⟨rfl, rfl⟩
  go_wp2
  go_ret3
  rw [← HD.out, ← HM.out]
  exact ⟨rfl, bdn (bal (Below.refl _ _) _) _⟩
end Go.Proofs.YtkkmjadkagpihaaDoor
