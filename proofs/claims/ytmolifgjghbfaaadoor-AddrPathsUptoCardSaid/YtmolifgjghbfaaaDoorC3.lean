/- The code's machine: next, read. -/
import Derived.Test.YtmolifgjghbfaaaDoorC2
import Derived.Test.YtmolifgjghbfaaaDoorA5
namespace Go.Proofs.YtmolifgjghbfaaaDoor
open Go.RowKit

theorem dec_ok (s : ByteArray) (pos r k : Nat) (hd : Utf8.decode s pos = (r, k)) : runeOk r := by
  rw [Lib.decode_at] at hd
  unfold runeOk
  unfold Lib.decodeN at hd
  repeat' split at hd
  all_goals (injection hd with h1 h2; subst h1; omega)

set_option maxHeartbeats 2000000 in
theorem next_any (far len r : Nat) (w : World) (hr : runeOk r) (hl : len ≤ 9223372036854775807) (hf : far ≤ 8) :
    Calls Tryd.prog 33 #[.int .i64 far, .int .i64 len, .int .i32 r] w fun e w' => e = .returned (.int .i64 (nextF far len r)) ∧ Below w.heap.size w w' := by
  have hr0 : r ≤ 2147483647 := by have := hr.1; omega
  have hW := nextWord_any r w hr
  have hS := nextSigned_any r w hr0
  have hL := nextLabel_any far len r w hr0 hl
  clear hr hl
  by_cases f0 : far = 0
  · subst f0
    by_cases h : r = 34
    · subst h
      clear hW hS hL hf
      go_enter Tryd.func33, Tryd.ntmps33
      go_wp2
      go_ret
      exact ⟨rfl, Below.refl _ _⟩
    · have e1 : ((r : Int) == 34) = false := by rw [beq_eq_false_iff_ne]; omega
      rw [show nextF 0 len r = nextWordF r by unfold nextF; rw [if_pos rfl, if_neg h]]
      clear h hS hL hf
      go_enter Tryd.func33, Tryd.ntmps33
      go_wp2_with (go_at_call 42; refine hW.mono ?_; rintro e w' ⟨rfl, hb⟩)
      go_ret
      exact ⟨rfl, hb⟩
  by_cases f1 : far = 1
  · subst f1
    by_cases h : r = 46
    · subst h
      clear hW hS hL hf f0
      go_enter Tryd.func33, Tryd.ntmps33
      go_wp2
      go_ret
      exact ⟨rfl, Below.refl _ _⟩
    have e1 : ((r : Int) == 46) = false := by rw [beq_eq_false_iff_ne]; omega
    by_cases h2 : r = 64
    · subst h2
      clear hW hS hL hf f0 h
      go_enter Tryd.func33, Tryd.ntmps33
      go_wp2
      go_ret
      exact ⟨rfl, Below.refl _ _⟩
    · have e2 : ((r : Int) == 64) = false := by rw [beq_eq_false_iff_ne]; omega
      rw [show nextF 1 len r = nextWordF r by unfold nextF; rw [if_neg (by omega), if_neg (by omega), if_pos rfl, if_neg h, if_neg h2]]
      clear h h2 hS hL hf f0
      go_enter Tryd.func33, Tryd.ntmps33
      go_wp2_with (go_at_call 42; refine hW.mono ?_; rintro e w' ⟨rfl, hb⟩)
      go_ret
      exact ⟨rfl, hb⟩
  by_cases f2 : far = 2
  · subst f2
    rw [show nextF 2 len r = nextWordF r from rfl]
    clear hS hL hf f0 f1
    go_enter Tryd.func33, Tryd.ntmps33
    go_wp2_with (go_at_call 42; refine hW.mono ?_; rintro e w' ⟨rfl, hb⟩)
    go_ret
    exact ⟨rfl, hb⟩
  by_cases f3 : far = 3
  · subst f3
    rw [show nextF 3 len r = nextSignedF r from rfl]
    clear hW hL hf f0 f1 f2
    go_enter Tryd.func33, Tryd.ntmps33
    go_wp2_with (go_at_call 43; refine hS.mono ?_; rintro e w' ⟨rfl, rfl⟩)
    go_ret
    exact ⟨rfl, Below.refl _ _⟩
  by_cases f4 : far = 4
  · subst f4
    clear hW hL hS hf f0 f1 f2 f3
    by_cases h : r = 34
    · subst h
      go_enter Tryd.func33, Tryd.ntmps33
      go_wp2
      go_ret
      exact ⟨rfl, Below.refl _ _⟩
    have e1 : ((r : Int) == 34) = false := by rw [beq_eq_false_iff_ne]; omega
    by_cases h2 : r = 92
    · subst h2
      clear h
      go_enter Tryd.func33, Tryd.ntmps33
      go_wp2
      go_ret
      exact ⟨rfl, Below.refl _ _⟩
    · have e2 : ((r : Int) == 92) = false := by rw [beq_eq_false_iff_ne]; omega
      rw [show nextF 4 len r = 9 by show (if r = 34 ∨ r = 92 then 3 else 9) = 9; rw [if_neg (by omega)]]
      clear h h2
      go_enter Tryd.func33, Tryd.ntmps33
      go_wp2
      go_ret
      exact ⟨rfl, Below.refl _ _⟩
  by_cases f5 : far = 5
  · subst f5
    clear hW hL hS hf f0 f1 f2 f3 f4
    by_cases h : r = 64
    · subst h
      go_enter Tryd.func33, Tryd.ntmps33
      go_wp2
      go_ret
      exact ⟨rfl, Below.refl _ _⟩
    · have e2 : ((r : Int) == 64) = false := by rw [beq_eq_false_iff_ne]; omega
      rw [show nextF 5 len r = 9 by show (if r = 64 then 6 else 9) = 9; rw [if_neg h]]
      clear h
      go_enter Tryd.func33, Tryd.ntmps33
      go_wp2
      go_ret
      exact ⟨rfl, Below.refl _ _⟩
  have hL := hL (by omega)
  clear hW hS
  rw [next_dom far len r (by omega)]
  have hfar : far = 6 ∨ far = 7 ∨ far = 8 := by omega
  clear f0 f1 f2 f3 f4 f5 hf
  rcases hfar with rfl | rfl | rfl
  all_goals
    go_enter Tryd.func33, Tryd.ntmps33
    go_wp2_with (go_at_call 44; refine hL.mono ?_; rintro e w' ⟨rfl, rfl⟩)
    go_ret
    exact ⟨rfl, Below.refl _ _⟩
end Go.Proofs.YtmolifgjghbfaaaDoor
