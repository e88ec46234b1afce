/- The code's small walks: letters of an address. -/
import Derived.Test.YtmolifgjghbfaaaDoorP1
import Derived.WalkKit
namespace Go.Proofs.YtmolifgjghbfaaaDoor
open Go.RowKit

theorem ret_b {a b : Bool} (h : a = b) : Ending.returned (.bool a) = .returned (.bool b) := by rw [h]

set_option maxHeartbeats 400000 in
theorem alnum_any (r : Nat) (w : World) (hr : r ≤ 2147483647) :
    Calls Tryd.prog 50 #[.int .i32 r] w fun e w' => e = .returned (.bool (alnumR r)) ∧ w = w' := by
  generalize hA : alnumR r = A
  unfold alnumR at hA
  by_cases h1 : 97 ≤ r <;> by_cases h2 : r ≤ 122 <;> by_cases h3 : 65 ≤ r <;> by_cases h4 : r ≤ 90 <;> by_cases h5 : 48 ≤ r <;> by_cases h6 : r ≤ 57 <;> first
    | (exfalso; omega)
    | (simp only [h1, h2, h3, h4, h5, h6, decide_true, decide_false, Bool.and_true, Bool.and_false, Bool.or_true, Bool.or_false, Bool.true_or, Bool.false_or] at hA
       subst hA
       go_enter Tryd.func50, Tryd.ntmps50
       go_wp2
       go_ret
       exact ⟨ret_b (by first | rfl | (simp; done) | (simp; omega)), rfl⟩)

set_option maxHeartbeats 400000 in
theorem printable_any (r : Nat) (w : World) (hr : r ≤ 2147483647) :
    Calls Tryd.prog 36 #[.int .i32 r] w fun e w' => e = .returned (.bool (printR r)) ∧ w = w' := by
  generalize hA : printR r = A
  unfold printR at hA
  by_cases h1 : 32 ≤ r <;> by_cases h2 : r ≤ 126 <;> first
    | (exfalso; omega)
    | (simp only [h1, h2, decide_true, decide_false, Bool.and_true, Bool.and_false, Bool.or_true, Bool.or_false] at hA
       subst hA
       go_enter Tryd.func36, Tryd.ntmps36
       go_wp2
       go_ret
       exact ⟨ret_b (by first | rfl | (simp; done) | (simp; omega)), rfl⟩)

set_option maxHeartbeats 400000 in
theorem nextSigned_any (r : Nat) (w : World) (hr : r ≤ 2147483647) :
    Calls Tryd.prog 43 #[.int .i32 r] w fun e w' => e = .returned (.int .i64 (nextSignedF r)) ∧ w = w' := by
  generalize hA : nextSignedF r = A
  unfold nextSignedF at hA
  by_cases h1 : r = 34
  · subst h1
    rw [if_pos rfl] at hA
    subst hA
    go_enter Tryd.func43, Tryd.ntmps43
    go_wp2
    go_ret
    exact ⟨rfl, rfl⟩
  have e1 : ((r : Int) == 34) = false := by rw [beq_eq_false_iff_ne]; omega
  rw [if_neg h1] at hA
  by_cases h2 : r = 92
  · subst h2
    rw [if_pos rfl] at hA
    subst hA
    clear h1
    go_enter Tryd.func43, Tryd.ntmps43
    go_wp2
    go_ret
    exact ⟨rfl, rfl⟩
  have e2 : ((r : Int) == 92) = false := by rw [beq_eq_false_iff_ne]; omega
  rw [if_neg h2] at hA
  clear h1 h2
  have hc := printable_any r w hr
  cases hp : printR r with
  | true =>
    rw [hp] at hc hA
    rw [if_pos rfl] at hA
    subst hA
    clear hp
    go_enter Tryd.func43, Tryd.ntmps43
    go_wp2_with (go_at_call 36; refine hc.mono ?_; rintro e w' ⟨rfl, rfl⟩)
    go_ret
    exact ⟨rfl, rfl⟩
  | false =>
    rw [hp] at hc hA
    rw [if_neg (by simp)] at hA
    subst hA
    clear hp
    go_enter Tryd.func43, Tryd.ntmps43
    go_wp2_with (go_at_call 36; refine hc.mono ?_; rintro e w' ⟨rfl, rfl⟩)
    go_ret
    exact ⟨rfl, rfl⟩

set_option maxHeartbeats 1000000 in
theorem nextLabel_any (far len r : Nat) (w : World) (hr : r ≤ 2147483647) (hl : len ≤ 9223372036854775807) (hf : far = 6 ∨ far = 7 ∨ far = 8) :
    Calls Tryd.prog 44 #[.int .i64 far, .int .i64 len, .int .i32 r] w fun e w' => e = .returned (.int .i64 (nextLabelF far len r)) ∧ w = w' := by
  generalize hA : nextLabelF far len r = A
  unfold nextLabelF at hA
  have hc := alnum_any r w hr
  cases hp : alnumR r with
  | true =>
    rw [hp] at hc hA
    have e1 : ((r : Int) == 45) = false := by
      rw [beq_eq_false_iff_ne]; intro h; have h : r = 45 := by omega
      rw [h] at hp; revert hp; decide
    have e2 : ((r : Int) == 46) = false := by
      rw [beq_eq_false_iff_ne]; intro h; have h : r = 46 := by omega
      rw [h] at hp; revert hp; decide
    by_cases h1 : len < 63
    · rw [if_pos ⟨rfl, h1⟩] at hA
      subst hA
      clear hp hf
      go_enter Tryd.func44, Tryd.ntmps44
      go_wp2_with (go_at_call 50; refine hc.mono ?_; rintro e w' ⟨rfl, rfl⟩)
      go_ret
      exact ⟨rfl, rfl⟩
    · have n1 : r ≠ 45 := by intro h; rw [h] at hp; revert hp; decide
      have n2 : r ≠ 46 := by intro h; rw [h] at hp; revert hp; decide
      rw [if_neg (by omega), if_neg (by omega), if_neg (by omega)] at hA
      subst hA
      clear hp hf n1 n2
      go_enter Tryd.func44, Tryd.ntmps44
      go_wp2_with (go_at_call 50; refine hc.mono ?_; rintro e w' ⟨rfl, rfl⟩)
      go_ret
      exact ⟨rfl, rfl⟩
  | false =>
    rw [hp] at hc hA
    rw [if_neg (by simp)] at hA
    clear hp
    by_cases h45 : r = 45
    · subst h45
      by_cases h6 : far = 6
      · subst h6
        rw [if_neg (by omega), if_neg (by omega)] at hA
        subst hA
        clear hf
        go_enter Tryd.func44, Tryd.ntmps44
        go_wp2_with (go_at_call 50; refine hc.mono ?_; rintro e w' ⟨rfl, rfl⟩)
        go_ret
        exact ⟨rfl, rfl⟩
      · have e6 : ((far : Int) != 6) = true := by rw [bne_iff_ne]; omega
        by_cases h2 : len < 62
        · rw [if_pos ⟨rfl, h6, h2⟩] at hA
          subst hA
          clear hf h6
          go_enter Tryd.func44, Tryd.ntmps44
          go_wp2_with (go_at_call 50; refine hc.mono ?_; rintro e w' ⟨rfl, rfl⟩)
          go_ret
          exact ⟨rfl, rfl⟩
        · rw [if_neg (by omega), if_neg (by omega)] at hA
          subst hA
          clear hf h6
          go_enter Tryd.func44, Tryd.ntmps44
          go_wp2_with (go_at_call 50; refine hc.mono ?_; rintro e w' ⟨rfl, rfl⟩)
          go_ret
          exact ⟨rfl, rfl⟩
    · have e45 : ((r : Int) == 45) = false := by rw [beq_eq_false_iff_ne]; omega
      rw [if_neg (by omega)] at hA
      by_cases h46 : r = 46
      · subst h46
        by_cases h7 : far = 7
        · subst h7
          rw [if_pos ⟨rfl, rfl⟩] at hA
          subst hA
          clear hf h45
          go_enter Tryd.func44, Tryd.ntmps44
          go_wp2_with (go_at_call 50; refine hc.mono ?_; rintro e w' ⟨rfl, rfl⟩)
          go_ret
          exact ⟨rfl, rfl⟩
        · have e7 : ((far : Int) == 7) = false := by rw [beq_eq_false_iff_ne]; omega
          rw [if_neg (by omega)] at hA
          subst hA
          clear hf h45 h7
          go_enter Tryd.func44, Tryd.ntmps44
          go_wp2_with (go_at_call 50; refine hc.mono ?_; rintro e w' ⟨rfl, rfl⟩)
          go_ret
          exact ⟨rfl, rfl⟩
      · have e46 : ((r : Int) == 46) = false := by rw [beq_eq_false_iff_ne]; omega
        rw [if_neg (by omega)] at hA
        subst hA
        clear hf h45 h46
        go_enter Tryd.func44, Tryd.ntmps44
        go_wp2_with (go_at_call 50; refine hc.mono ?_; rintro e w' ⟨rfl, rfl⟩)
        go_ret
        exact ⟨rfl, rfl⟩
end Go.Proofs.YtmolifgjghbfaaaDoor
