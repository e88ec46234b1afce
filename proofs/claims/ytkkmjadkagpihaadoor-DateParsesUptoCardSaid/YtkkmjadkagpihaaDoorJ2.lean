/- Date: the code's begins, length, Days, Civil, Week. -/
import Derived.Test.YtkkmjadkagpihaaDoorJL
import Derived.Test.YtkkmjadkagpihaaDoorJ1
import Derived.Deep.QuietTactic
import Derived.BigQuiet
import Derived.StillTailTactics
import Derived.Lib.Hide
namespace Go.Proofs.YtkkmjadkagpihaaDoor
open Go Go.RowKit

theorem ret_int {k : IntKind} {a b : Int} (h : a = b) : Ending.returned (.int k a) = .returned (.int k b) := by rw [h]

theorem begins_any (y : Int) (w : World) (h1 : 1 ≤ y) (h2 : y ≤ 10000) :
    Calls Tryd.prog 31 #[.int .i64 y] w fun e w' => e = .returned (.int .i64 (bg y)) ∧ w = w' := by
  go_enter Tryd.func31, Tryd.ntmps31
  go_wp2
  go_ret
  exact ⟨ret_int rfl, rfl⟩

theorem lp_yes {y : Int} (h : (y % 4 = 0 ∧ y % 100 ≠ 0) ∨ y % 400 = 0) : lp y = 1 := if_pos h
theorem lp_no {y : Int} (h : ¬ ((y % 4 = 0 ∧ y % 100 ≠ 0) ∨ y % 400 = 0)) : lp y = 0 := if_neg h
theorem dim_2 (y : Int) : dim y 2 = 28 + lp y := rfl
theorem length_any (y m : Int) (w : World) (h1 : 1 ≤ y) (h2 : y ≤ 10000) :
    Calls Tryd.prog 30 #[.int .i64 y, .int .i64 m] w fun e w' => e = .returned (.int .i64 (dim y m)) ∧ w = w' := by
  by_cases hm : m = 2
  · subst hm
    rw [dim_2]
    by_cases h400 : y % 400 = 0
    · have h4 : y % 4 = 0 := by omega
      have h100 : y % 100 = 0 := by omega
      rw [lp_yes (Or.inr h400)]
      go_enter Tryd.func30, Tryd.ntmps30
      go_wp2
      go_ret
      exact ⟨ret_int rfl, rfl⟩
    · by_cases h4 : y % 4 = 0
      · by_cases h100 : y % 100 = 0
        · rw [lp_no (by omega)]
          go_enter Tryd.func30, Tryd.ntmps30
          go_wp2
          go_ret
          exact ⟨ret_int rfl, rfl⟩
        · rw [lp_yes (by omega)]
          go_enter Tryd.func30, Tryd.ntmps30
          go_wp2
          go_ret
          exact ⟨ret_int rfl, rfl⟩
      · rw [lp_no (by omega)]
        go_enter Tryd.func30, Tryd.ntmps30
        go_wp2
        go_ret
        exact ⟨ret_int rfl, rfl⟩
  · by_cases hx : m = 4 ∨ m = 6 ∨ m = 9 ∨ m = 11
    · have hd : dim y m = 30 := by unfold dim; rw [if_neg hm, if_pos hx]
      rw [hd]
      clear hd
      rcases hx with rfl | rfl | rfl | rfl
      all_goals
        go_enter Tryd.func30, Tryd.ntmps30
        go_wp2
        go_ret
        exact ⟨rfl, rfl⟩
    · have hd : dim y m = 31 := by unfold dim; rw [if_neg hm, if_neg hx]
      rw [hd]
      clear hd
      have g2 : (m == 2) = false := by simp; omega
      have g4 : (m == 4) = false := by simp; omega
      have g6 : (m == 6) = false := by simp; omega
      have g9 : (m == 9) = false := by simp; omega
      have g11 : (m == 11) = false := by simp; omega
      clear hm hx
      go_enter Tryd.func30, Tryd.ntmps30
      go_wp2
      go_ret
      exact ⟨rfl, rfl⟩

theorem week_num (n : Int) : (wrap64 (wrap64 (n.tmod 7 + 3) + 7)).tmod 7 = (n + 3) % 7 := by
  have ht := @Int.tmod_eq_emod n 7
  have hb : -6 ≤ n.tmod 7 ∧ n.tmod 7 ≤ 6 ∧ (n.tmod 7 + 3 + 7) % 7 = (n + 3) % 7 := by
    rw [ht]; split <;> simp <;> omega
  have e1 : wrap64 (n.tmod 7 + 3) = n.tmod 7 + 3 := by unfold wrap64; omega
  rw [e1]
  have e2 : wrap64 (n.tmod 7 + 3 + 7) = n.tmod 7 + 3 + 7 := by unfold wrap64; omega
  rw [e2, Int.tmod_eq_emod_of_nonneg (by omega)]
  exact hb.2.2
theorem week_any (n : Int) (w : World) (_h0 : -9223372036854775808 ≤ n) (_h1 : n ≤ 9223372036854775807) :
    Calls Tryd.prog 14 #[.int .i64 n] w fun e w' => e = .returned (.int .i64 ((n + 3) % 7)) ∧ w = w' := by
  have e := week_num n
  go_enter Tryd.func14, Tryd.ntmps14
  go_wp2
  go_ret
  exact ⟨rfl, rfl⟩

def TDay : Nat := 23
def dayV (y m d : Int) : Value := .agg #[.int .i64 y, .int .i64 m, .int .i64 d]

theorem bdn {B : Nat} {w w' : World} (h : Below B w w') (n : Nat) : Below B w (w'.drewN n) := ⟨h.os, h.tape, h.output, h.size, h.block⟩
theorem bal {w w' : World} (h : Below w.heap.size w w') (o : Obj) : Below w.heap.size w (w'.alloc o) := h.alloc h.size o
theorem qlen (y m : Int) (h1 : 1 ≤ y) (h2 : y ≤ 10000) (w : World) (n : Nat) : Calls Tryd.prog 30 #[.int .i64 y, .int .i64 m] (w.drewN n) fun e w' => e = .returned (.int .i64 (dim y m)) ∧ w' = w.drewN n :=
  (length_any y m _ h1 h2).mono fun _ _ h => ⟨h.1, h.2.symm⟩

theorem days_no (y m d : Int) (w : World) (h : rt y m d = false) :
    Calls Tryd.prog 9 #[dayV y m d] w fun e w' => e = .returned (.tuple #[.int .i64 0, .int .i64 2]) ∧ Below w.heap.size w w' := by
  unfold dayV
  by_cases h1 : y < 1
  · go_enter Tryd.func9, Tryd.ntmps9
    go_wp2
    go_quiet (fail)
    go_wp2
    go_ret2
    exact ⟨rfl, bdn (bal (Below.refl _ _) _) _⟩
  have g1 : decide (y < 1) = false := by simpa using h1
  by_cases h2 : y > 9999
  · go_enter Tryd.func9, Tryd.ntmps9
    go_wp2
    go_quiet (fail)
    go_wp2
    go_ret2
    exact ⟨rfl, bdn (bal (Below.refl _ _) _) _⟩
  have g2 : decide (9999 < y) = false := by simpa using h2
  by_cases h3 : m < 1
  · go_enter Tryd.func9, Tryd.ntmps9
    go_wp2
    go_quiet (fail)
    go_wp2
    go_ret2
    exact ⟨rfl, bdn (bal (Below.refl _ _) _) _⟩
  have g3 : decide (m < 1) = false := by simpa using h3
  by_cases h4 : m > 12
  · go_enter Tryd.func9, Tryd.ntmps9
    go_wp2
    go_quiet (fail)
    go_wp2
    go_ret2
    exact ⟨rfl, bdn (bal (Below.refl _ _) _) _⟩
  have g4 : decide (12 < m) = false := by simpa using h4
  by_cases h5 : d < 1
  · go_enter Tryd.func9, Tryd.ntmps9
    go_wp2
    go_quiet (fail)
    go_wp2
    go_ret2
    exact ⟨rfl, bdn (bal (Below.refl _ _) _) _⟩
  have g5 : decide (d < 1) = false := by simpa using h5
  have h6 : dim y m < d := by
    by_cases e : d ≤ dim y m
    · have : rt y m d = true := rt_iff.2 ⟨by omega, by omega, by omega, by omega, by omega, e⟩
      rw [this] at h; cases h
    · omega
  have HQ := qlen y m (by omega) (by omega)
  go_enter Tryd.func9, Tryd.ntmps9
  go_wp2
  go_quiet ((go_at_call 30; exact Calls.quiet_of_same (HQ _ _)))
  go_wp2
  go_ret2
  exact ⟨rfl, bdn (bal (Below.refl _ _) _) _⟩
theorem days_yes (y m d : Int) (w : World) (h : rt y m d = true) :
    Calls Tryd.prog 9 #[dayV y m d] w fun e w' => e = .returned (.tuple #[.int .i64 (num y m d), .int .i64 0]) ∧ Below w.heap.size w w' := by
  unfold dayV
  rw [rt_iff] at h
  obtain ⟨h1, h2, h3, h4, h5, h6⟩ := h
  have g1 : decide (y < 1) = false := by simp; omega
  have g2 : decide (9999 < y) = false := by simp; omega
  have g3 : decide (m < 1) = false := by simp; omega
  have g4 : decide (12 < m) = false := by simp; omega
  have g5 : decide (d < 1) = false := by simp; omega
  have g6 : decide (dim y m < d) = false := by simp; omega
  have HQ := qlen y m (by omega) (by omega)
  have hb := bg_bd y (by omega) (by omega)
  have hd := dim_bd y m
  go_enter Tryd.func9, Tryd.ntmps9
  go_wp2
  go_quiet ((go_at_call 30; exact Calls.quiet_of_same (HQ _ _)))
  go_wp2_with (go_at_call 31; refine (begins_any _ _ (by omega) (by omega)).mono ?_; rintro e w' ⟨rfl, rfl⟩)
  go_loop [4, 5] (fun n k => ∃ j : Int, 1 ≤ j ∧ j ≤ m ∧ k = .int .i64 j ∧ n = .int .i64 (bg y + cum y j)) (fun _ k => (12 - intOf k).toNat)
  case atStart => exact ⟨1, by omega, by omega, rfl, by rw [cum_1, Int.add_zero]⟩
  case round =>
    obtain ⟨j, hj1, hj2, rfl, rfl⟩ := hrel
    have cb := cum_bd y j (by omega) (by omega)
    have db := dim_bd y j
    have cs := cum_succ y j (by omega) (by omega)
    by_cases hlt : j < m
    · go_wp2_with (go_at_call 30; refine (length_any _ _ _ (by omega) (by omega)).mono ?_; rintro e w' ⟨rfl, rfl⟩)
      go_round
      case rel => exact ⟨j + 1, by omega, by omega, rfl, by rw [cs]; go_num⟩
      case measure => simp [intOf]; omega
    · obtain rfl : j = m := by omega
      go_wp2
      go_ret2
      exact ⟨rfl, bdn (bal (Below.refl _ _) _) _⟩

theorem civil_no (n : Int) (w : World) (h : n < -719162 ∨ 2932896 < n) :
    Calls Tryd.prog 11 #[.int .i64 n] w fun e w' => e = .returned (.tuple #[dayV 0 0 0, .int .i64 2]) ∧ Below w.heap.size w w' := by
  have b1 := bg_1
  have b2 := bg_last
  unfold dayV
  rcases h with h | h
  · go_enter Tryd.func11, Tryd.ntmps11
    go_wp2_with (go_at_call 31; refine (begins_any _ _ (by omega) (by omega)).mono ?_; rintro e w' ⟨rfl, rfl⟩)
    exact bodyPost_ret (v := .tuple #[.agg #[.int .i64 0, .int .i64 0, .int .i64 0], .int .i64 2]) (by simp [results, Tryd.results11, go_sem]) rfl ⟨rfl, bal (Below.refl _ _) _⟩
  · have h' : ¬ n < -719162 := by omega
    go_enter Tryd.func11, Tryd.ntmps11
    go_wp2_with (go_at_call 31; refine (begins_any _ _ (by omega) (by omega)).mono ?_; rintro e w' ⟨rfl, rfl⟩)
    exact bodyPost_ret (v := .tuple #[.agg #[.int .i64 0, .int .i64 0, .int .i64 0], .int .i64 2]) (by simp [results, Tryd.results11, go_sem]) rfl ⟨rfl, bal (Below.refl _ _) _⟩

theorem civil_yes (y m d : Int) (w : World) (h : rt y m d = true) :
    Calls Tryd.prog 11 #[.int .i64 (num y m d)] w fun e w' => e = .returned (.tuple #[dayV y m d, .int .i64 0]) ∧ Below w.heap.size w w' := by
  have b1 := bg_1
  have b2 := bg_last
  have hin := num_in h
  have hyr := num_year h
  have hn : num y m d = bg y + cum y m + d - 1 := rfl
  rw [rt_iff] at h
  obtain ⟨h1, h2, h3, h4, h5, h6⟩ := h
  unfold dayV
  generalize num y m d = n at *
  have glo := bg_lo y h1
  have ghi := bg_hi (1 + (n + 719162) / 366) (by omega)
  have g0 : 1 ≤ 1 + (n + 719162) / 366 := by omega
  have g1 : 1 + (n + 719162) / 366 ≤ y := by
    by_cases e : 1 + (n + 719162) / 366 ≤ y
    · exact e
    · have := bg_mono (a := y + 1) (b := 1 + (n + 719162) / 366) (by omega)
      omega
  have q1 : ¬ n < -719162 := by omega
  have q2 : ¬ 2932897 ≤ n := by omega
  have HN := Lib.hid hn
  clear hn glo ghi
  go_enter Tryd.func11, Tryd.ntmps11
  go_wp2_with (go_at_call 31; refine (begins_any _ _ (by omega) (by omega)).mono ?_; rintro e w' ⟨rfl, rfl⟩)
  go_loop [4] (fun t => ∃ k : Int, 1 ≤ k ∧ k ≤ y ∧ t = .int .i64 k) (fun t => (10000 - intOf t).toNat)
  case atStart => exact ⟨_, g0, g1, rfl⟩
  case round =>
    obtain ⟨k, hk1, hk2, rfl⟩ := hrel
    have kb := bg_bd (k + 1) (by omega) (by omega)
    by_cases hlt : k < y
    · have hle : bg (k + 1) ≤ n := by have := bg_mono (a := k + 1) (b := y) (by omega); omega
      go_wp2_with (go_at_call 31; refine (begins_any _ _ (by omega) (by omega)).mono ?_; rintro e w' ⟨rfl, rfl⟩)
      go_round
      case rel => exact ⟨k + 1, by omega, by omega, rfl⟩
      case measure => simp [intOf]; omega
    · obtain rfl : k = y := by omega
      have hgt : ¬ bg (k + 1) ≤ n := by omega
      have kb0 := bg_bd k (by omega) (by omega)
      clear hlt hk2 g1 g0
      go_wp2_with (go_at_call 31; refine (begins_any _ _ (by omega) (by omega)).mono ?_; rintro e w' ⟨rfl, rfl⟩)
      go_loop [5, 6] (fun r t => ∃ j : Int, 1 ≤ j ∧ j ≤ m ∧ t = .int .i64 j ∧ r = .int .i64 (n - bg k - cum k j)) (fun _ t => (12 - intOf t).toNat)
      case atStart => exact ⟨1, by omega, by omega, rfl, by rw [cum_1, Int.sub_zero]⟩
      case round =>
        obtain ⟨j, hj1, hj2, rfl, rfl⟩ := hrel
        have cb := cum_bd k j (by omega) (by omega)
        have db := dim_bd k j
        have cs := cum_succ k j (by omega) (by omega)
        have hn := HN.out
        by_cases hlm : j < m
        · have hle : dim k j ≤ n - bg k - cum k j := by have := cum_mono k (a := j + 1) (b := m) (by omega) (by omega) (by omega); omega
          clear hn
          go_wp2_with (go_at_call 30; refine (length_any _ _ _ (by omega) (by omega)).mono ?_; rintro e w' ⟨rfl, rfl⟩)
          go_round
          case rel => exact ⟨j + 1, by omega, by omega, rfl, by rw [cs]; go_num⟩
          case measure => simp [intOf]; omega
        · obtain rfl : j = m := by omega
          have hgt2 : ¬ dim k j ≤ n - bg k - cum k j := by omega
          have hx : n - bg k - cum k j + 1 = d := by omega
          have HX := Lib.hid hx
          have hlo : 0 ≤ n - bg k - cum k j := by omega
          have hhi : n - bg k - cum k j ≤ 31 := by omega
          clear hn hx hlm hj2
          go_wp2_with (go_at_call 30; refine (length_any _ _ _ (by omega) (by omega)).mono ?_; rintro e w' ⟨rfl, rfl⟩)
          rw [HX.out]
          exact bodyPost_ret (v := .tuple #[.agg #[.int .i64 k, .int .i64 j, .int .i64 d], .int .i64 0]) (by simp [results, Tryd.results11, go_sem]) rfl ⟨rfl, bal (Below.refl _ _) _⟩
end Go.Proofs.YtkkmjadkagpihaaDoor
