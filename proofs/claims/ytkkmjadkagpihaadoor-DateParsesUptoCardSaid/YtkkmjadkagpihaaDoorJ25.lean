/- Date: the statements' live. -/
import Derived.Test.YtkkmjadkagpihaaDoorJ24
namespace Go.Proofs.YtkkmjadkagpihaaDoor
open Go Go.RowKit

def exT : ByteArray := ⟨#[84, 104, 117, 44, 32, 49, 32, 74, 97, 110, 32, 49, 57, 55, 48, 32, 48, 49, 58, 48, 48, 58, 48, 48, 32, 43, 48, 49, 48, 48]⟩
theorem ex_parse : parseR exT = (0, 60, 0, 0) := by kernel_rfl
theorem ex_print : printL 3 1 1 1970 3600 (decide ((60 : Int) < 0)) (Int.natAbs 60) = exT.data.toList := by
  rw [printL, decDigits_low (by omega)]
  kernel_rfl
theorem ex_rt : rt ((1970 : Nat) : Int) ((1 : Nat) : Int) ((1 : Nat) : Int) = true := by kernel_rfl
theorem ex_rt2 : rt 2000 3 1 = true := by kernel_rfl
theorem ex_num : num 2000 3 1 = 11017 := by kernel_rfl

structure Env (w : World) : Prop where
  ml : Ml w
  pows : Pows w
theorem Env.below {w w' : World} (h : Env w) (hb : Below w.heap.size w w') : Env w' := ⟨h.ml.below hb, h.pows.below hb⟩

theorem ex_print_call (w : World) (hP : Pows w) : Calls Tryd.prog 24 #[.agg #[.int .i64 0, .int .i64 60]] w fun e w' => e = .returned (.tuple #[.string ⟨#[84, 104, 117, 44, 32, 49, 32, 74, 97, 110, 32, 49, 57, 55, 48, 32, 48, 49, 58, 48, 48, 58, 48, 48, 32, 43, 48, 49, 48, 48]⟩, .int .i64 0]) ∧ Below w.heap.size w w' := by
  have h := print_yes 0 60 1970 1 1 3 3600 w (by kernel_rfl) ex_rt (by kernel_rfl) (by kernel_rfl) (by kernel_rfl) hP
  rw [ex_print] at h
  exact h
theorem ex_parse_call (w : World) (hm : Ml w) : Calls Tryd.prog 18 #[.string ⟨#[84, 104, 117, 44, 32, 49, 32, 74, 97, 110, 32, 49, 57, 55, 48, 32, 48, 49, 58, 48, 48, 58, 48, 48, 32, 43, 48, 49, 48, 48]⟩] w fun e w' => e = .returned (.tuple #[.agg #[.int .i64 0, .int .i64 60], .int .i64 0, .int .i64 0]) ∧ Below w.heap.size w w' :=
  parse_any exT w (by show 30 ≤ _; omega) hm (0, 60, 0, 0) ex_parse
theorem ex_days_call (w : World) : Calls Tryd.prog 9 #[.agg #[.int .i64 2000, .int .i64 3, .int .i64 1]] w fun e w' => e = .returned (.tuple #[.int .i64 11017, .int .i64 0]) ∧ Below w.heap.size w w' := by
  have h := days_yes 2000 3 1 w ex_rt2
  rw [ex_num] at h
  exact h

theorem live_any (w : World) (h : Env w) :
    Calls Tryd.prog 13 #[] w fun e w' => e = .returned (.bool true) ∧ Below w.heap.size w w' := by
  have H := Lib.hid h
  clear h
  go_enter Tryd.func13, Tryd.ntmps13
  go_wp2_with fail
  refine (ex_days_call _).mono ?_
  rintro e w1 ⟨rfl, h1⟩
  have H1 := Lib.hid h1
  clear h1
  go_wp2_with fail
  refine (ex_print_call _ (H.out.below H1.out).pows).mono ?_
  rintro e w2 ⟨rfl, h2⟩
  have H2 := Lib.hid (H1.out.trans (h2.mono H1.out.size))
  clear h2
  go_wp2_with fail
  refine (ex_parse_call _ (H.out.below H2.out).ml).mono ?_
  rintro e w3 ⟨rfl, h3⟩
  have H3 := Lib.hid (H2.out.trans (h3.mono H2.out.size))
  clear h3
  go_wp2
  go_ret
  exact ⟨rfl, bal H3.out _⟩
end Go.Proofs.YtkkmjadkagpihaaDoor
