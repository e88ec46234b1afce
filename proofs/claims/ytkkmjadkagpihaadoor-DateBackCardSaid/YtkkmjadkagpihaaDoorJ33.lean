/- Date: DateBack. -/
import Derived.Test.YtkkmjadkagpihaaDoorJ29
import Derived.Test.YtkkmjadkagpihaaDoorJ32
namespace Go.Proofs.YtkkmjadkagpihaaDoor
open Go Go.RowKit

set_option maxHeartbeats 1000000 in
theorem back_ok (sec zone : Int) (A S : Array UInt8) (w : World) (hE : Env w)
    (h1 : ∀ w, Pows w → Calls Tryd.prog 24 #[.agg #[.int .i64 sec, .int .i64 zone]] w fun x w' => x = .returned (.tuple #[.string ⟨A⟩, .int .i64 0]) ∧ Below w.heap.size w w') (h2 : ∀ w, Pows w → Calls Tryd.prog 26 #[.agg #[.int .i64 sec, .int .i64 zone]] w fun x w' => x = .returned (.tuple #[.string ⟨S⟩, .int .i64 0]) ∧ Below w.heap.size w w') (h3 : ∀ w, Ml w → Calls Tryd.prog 18 #[.string ⟨A⟩] w fun x w' => x = .returned (.tuple #[.agg #[.int .i64 sec, .int .i64 zone], .int .i64 0, .int .i64 0]) ∧ Below w.heap.size w w') (h4 : ∀ w, Ml w → Calls Tryd.prog 20 #[.string ⟨S⟩] w fun x w' => x = .returned (.tuple #[.agg #[.int .i64 sec, .int .i64 zone], .int .i64 0, .int .i64 0]) ∧ Below w.heap.size w w') :
    Calls Tryd.prog 8 #[.agg #[.int .i64 sec, .int .i64 zone]] w fun e w' => e = .returned (.bool true) ∧ Below w.heap.size w w' := by
  have H1 := Lib.hid h1
  have H2 := Lib.hid h2
  have H3 := Lib.hid h3
  have H4 := Lib.hid h4
  clear h1 h2 h3 h4
  obtain ⟨W0, hW⟩ : ∃ W0, w.alloc (.cells #[.int .i64 sec, .int .i64 zone] 35) = W0 := ⟨_, rfl⟩
  have hb0 : Below w.heap.size w W0 := by rw [← hW]; exact bal (Below.refl _ _) _
  have R0 : Hid (RowC W0 w.heap.size #[.int .i64 sec, .int .i64 zone] 35) := Lib.hid (by rw [← hW]; exact RowC.new w _ _)
  have BB := Lib.hid hb0
  have EE := Lib.hid (hE.below hb0)
  have HW0 := Lib.hid hW
  clear hb0 hW hE
  go_enter Tryd.func8, Tryd.ntmps8
  have q0_0 : W0.cell? ⟨w.heap.size, 0, none⟩ = some (.int .i64 sec) := R0.out.c 0
  have q0_1 : W0.cell? ⟨w.heap.size, 1, none⟩ = some (.int .i64 zone) := R0.out.c 1
  go_wp2_with (first | rw [HW0.out])
  refine (H1.out _ EE.out.pows).mono ?_
  rintro e w1 ⟨rfl, hb⟩
  replace R0 := Lib.hid (R0.out.below hb)
  replace BB := Lib.hid (BB.out.trans (hb.mono BB.out.size))
  replace EE := Lib.hid (EE.out.below hb)
  clear q0_0
  clear q0_1
  clear hb
  have q0_0 : w1.cell? ⟨w.heap.size, 0, none⟩ = some (.int .i64 sec) := R0.out.c 0
  have q0_1 : w1.cell? ⟨w.heap.size, 1, none⟩ = some (.int .i64 zone) := R0.out.c 1
  go_wp2_with fail
  refine (H2.out _ EE.out.pows).mono ?_
  rintro e w2 ⟨rfl, hb⟩
  replace R0 := Lib.hid (R0.out.below hb)
  replace BB := Lib.hid (BB.out.trans (hb.mono BB.out.size))
  replace EE := Lib.hid (EE.out.below hb)
  clear q0_0
  clear q0_1
  clear hb
  go_wp2_with fail
  refine (H3.out _ EE.out.ml).mono ?_
  rintro e w3 ⟨rfl, hb⟩
  replace R0 := Lib.hid (R0.out.below hb)
  replace BB := Lib.hid (BB.out.trans (hb.mono BB.out.size))
  replace EE := Lib.hid (EE.out.below hb)
  clear hb
  obtain ⟨w4, hW⟩ : ∃ W, w3.alloc (.cells #[.int .i64 sec, .int .i64 zone] 35) = W := ⟨_, rfl⟩
  have hb : Below w3.heap.size w3 w4 := by rw [← hW]; exact bal (Below.refl _ _) _
  replace R0 := Lib.hid (R0.out.below hb)
  replace BB := Lib.hid (BB.out.trans (hb.mono BB.out.size))
  replace EE := Lib.hid (EE.out.below hb)
  have R1 : Hid (RowC w4 w3.heap.size #[.int .i64 sec, .int .i64 zone] 35) := Lib.hid (by rw [← hW]; exact RowC.new w3 _ _)
  have HW4 := Lib.hid hW
  clear hb hW
  go_wp2_with (first | rw [HW4.out])
  refine (H4.out _ EE.out.ml).mono ?_
  rintro e w5 ⟨rfl, hb⟩
  replace R0 := Lib.hid (R0.out.below hb)
  replace R1 := Lib.hid (R1.out.below hb)
  replace BB := Lib.hid (BB.out.trans (hb.mono BB.out.size))
  replace EE := Lib.hid (EE.out.below hb)
  clear hb
  obtain ⟨w6, hW⟩ : ∃ W, w5.alloc (.cells #[.int .i64 sec, .int .i64 zone] 35) = W := ⟨_, rfl⟩
  have hb : Below w5.heap.size w5 w6 := by rw [← hW]; exact bal (Below.refl _ _) _
  replace R0 := Lib.hid (R0.out.below hb)
  replace R1 := Lib.hid (R1.out.below hb)
  replace BB := Lib.hid (BB.out.trans (hb.mono BB.out.size))
  replace EE := Lib.hid (EE.out.below hb)
  have R2 : Hid (RowC w6 w5.heap.size #[.int .i64 sec, .int .i64 zone] 35) := Lib.hid (by rw [← hW]; exact RowC.new w5 _ _)
  have HW6 := Lib.hid hW
  clear hb hW
  go_wp2_with (first | rw [HW6.out])
  refine (live_any _ EE.out).mono ?_
  rintro e w7 ⟨rfl, hb⟩
  replace R0 := Lib.hid (R0.out.below hb)
  replace R1 := Lib.hid (R1.out.below hb)
  replace R2 := Lib.hid (R2.out.below hb)
  replace BB := Lib.hid (BB.out.trans (hb.mono BB.out.size))
  replace EE := Lib.hid (EE.out.below hb)
  clear hb
  have q0_0 : w7.cell? ⟨w.heap.size, 0, none⟩ = some (.int .i64 sec) := R0.out.c 0
  have q0_1 : w7.cell? ⟨w.heap.size, 1, none⟩ = some (.int .i64 zone) := R0.out.c 1
  have q1_0 : w7.cell? ⟨w3.heap.size, 0, none⟩ = some (.int .i64 sec) := R1.out.c 0
  have q1_1 : w7.cell? ⟨w3.heap.size, 1, none⟩ = some (.int .i64 zone) := R1.out.c 1
  have q2_0 : w7.cell? ⟨w5.heap.size, 0, none⟩ = some (.int .i64 sec) := R2.out.c 0
  have q2_1 : w7.cell? ⟨w5.heap.size, 1, none⟩ = some (.int .i64 zone) := R2.out.c 1
  go_wp2
  go_ret
  exact ⟨rfl, BB.out⟩

set_option maxHeartbeats 1000000 in
theorem back_not (sec zone : Int) (w : World) (hE : Env w)
    (h1 : ∀ w, Pows w → Calls Tryd.prog 24 #[.agg #[.int .i64 sec, .int .i64 zone]] w fun x w' => x = .returned (.tuple #[.string ⟨#[]⟩, .int .i64 2]) ∧ Below w.heap.size w w') (h2 : ∀ w, Pows w → Calls Tryd.prog 26 #[.agg #[.int .i64 sec, .int .i64 zone]] w fun x w' => x = .returned (.tuple #[.string ⟨#[]⟩, .int .i64 2]) ∧ Below w.heap.size w w') :
    Calls Tryd.prog 8 #[.agg #[.int .i64 sec, .int .i64 zone]] w fun e w' => e = .returned (.bool true) ∧ Below w.heap.size w w' := by
  have H1 := Lib.hid h1
  have H2 := Lib.hid h2
  clear h1 h2
  obtain ⟨W0, hW⟩ : ∃ W0, w.alloc (.cells #[.int .i64 sec, .int .i64 zone] 35) = W0 := ⟨_, rfl⟩
  have hb0 : Below w.heap.size w W0 := by rw [← hW]; exact bal (Below.refl _ _) _
  have R0 : Hid (RowC W0 w.heap.size #[.int .i64 sec, .int .i64 zone] 35) := Lib.hid (by rw [← hW]; exact RowC.new w _ _)
  have BB := Lib.hid hb0
  have EE := Lib.hid (hE.below hb0)
  have HW0 := Lib.hid hW
  clear hb0 hW hE
  go_enter Tryd.func8, Tryd.ntmps8
  have q0_0 : W0.cell? ⟨w.heap.size, 0, none⟩ = some (.int .i64 sec) := R0.out.c 0
  have q0_1 : W0.cell? ⟨w.heap.size, 1, none⟩ = some (.int .i64 zone) := R0.out.c 1
  go_wp2_with (first | rw [HW0.out])
  refine (H1.out _ EE.out.pows).mono ?_
  rintro e w1 ⟨rfl, hb⟩
  replace R0 := Lib.hid (R0.out.below hb)
  replace BB := Lib.hid (BB.out.trans (hb.mono BB.out.size))
  replace EE := Lib.hid (EE.out.below hb)
  clear q0_0
  clear q0_1
  clear hb
  have q0_0 : w1.cell? ⟨w.heap.size, 0, none⟩ = some (.int .i64 sec) := R0.out.c 0
  have q0_1 : w1.cell? ⟨w.heap.size, 1, none⟩ = some (.int .i64 zone) := R0.out.c 1
  go_wp2_with fail
  refine (H2.out _ EE.out.pows).mono ?_
  rintro e w2 ⟨rfl, hb⟩
  replace R0 := Lib.hid (R0.out.below hb)
  replace BB := Lib.hid (BB.out.trans (hb.mono BB.out.size))
  replace EE := Lib.hid (EE.out.below hb)
  clear q0_0
  clear q0_1
  clear hb
  go_wp2_with fail
  refine (live_any _ EE.out).mono ?_
  rintro e w3 ⟨rfl, hb⟩
  replace R0 := Lib.hid (R0.out.below hb)
  replace BB := Lib.hid (BB.out.trans (hb.mono BB.out.size))
  replace EE := Lib.hid (EE.out.below hb)
  clear hb
  go_wp2
  go_ret
  exact ⟨rfl, BB.out⟩

theorem clk_le (o : Nat) (neg : Bool) (z : Nat) : (clkL o neg z).length ≤ 15 := by rw [clkL_len]; omega
theorem printL_len (wk d m y o : Nat) (neg : Bool) (z : Nat) (hd : d ≤ 31) : (printL wk d m y o neg z).length ≤ 100 := by
  have h1 : (nthL weeksL wk).length ≤ 3 := by unfold nthL; rw [List.length_take]; omega
  have h2 : (nthL monthsL (m - 1)).length ≤ 3 := by unfold nthL; rw [List.length_take]; omega
  have h3 := dec_small hd
  have h4 := clkL_len o neg z
  unfold printL
  simp only [List.length_append, List.length_cons, List.length_nil, dgs_len, h4]
  omega
theorem shortL_len (d m y o : Nat) (neg : Bool) (z : Nat) (hd : d ≤ 31) : (shortL d m y o neg z).length ≤ 100 := by
  have h2 : (nthL monthsL (m - 1)).length ≤ 3 := by unfold nthL; rw [List.length_take]; omega
  have h3 := dec_small hd
  have h4 := clkL_len o neg z
  unfold shortL
  split <;> simp only [List.length_append, List.length_cons, List.length_nil, dgs_len, h4] <;> omega
theorem walk_timeback (sec zone : Int) (w : World) (hE : Env w) (hs1 : -9223372036854775808 ≤ sec) (hs2 : sec ≤ 9223372036854775807) (hz1 : -9223372036854775808 ≤ zone) (hz2 : zone ≤ 9223372036854775807) :
    Calls Tryd.prog 8 #[.agg #[.int .i64 sec, .int .i64 zone]] w fun e w' => e = .returned (.bool true) ∧ Below w.heap.size w w' := by
  cases h : okT sec zone with
  | false => exact back_not sec zone w hE (fun w _ => print_no sec zone w h hs1 hs2 hz1 hz2) (fun w _ => short_no sec zone w h hs1 hs2 hz1 hz2)
  | true =>
    have hk := okT_iff.1 h
    obtain ⟨y, m, d, hr, hn⟩ := day_of ((sec + 60 * zone) / 86400) (by omega) (by omega)
    have hrr := rt_iff.1 hr
    have hdm := dim_bd y m
    obtain ⟨y, rfl⟩ : ∃ k : Nat, y = k := ⟨y.toNat, by omega⟩
    obtain ⟨m, rfl⟩ : ∃ k : Nat, m = (k : Int) + 1 := ⟨(m - 1).toNat, by omega⟩
    obtain ⟨d, rfl⟩ : ∃ k : Nat, d = k := ⟨d.toNat, by omega⟩
    obtain ⟨wk, hwk⟩ : ∃ k : Nat, (num y ((m : Int) + 1) d + 3) % 7 = k := ⟨((num y ((m : Int) + 1) d + 3) % 7).toNat, by omega⟩
    obtain ⟨o, ho⟩ : ∃ k : Nat, (sec + 60 * zone) % 86400 = k := ⟨((sec + 60 * zone) % 86400).toNat, by omega⟩
    have hr' : rt (y : Int) ((m + 1 : Nat) : Int) (d : Int) = true := by rw [Int.natCast_add]; exact hr
    have hn' : num (y : Int) ((m + 1 : Nat) : Int) (d : Int) = (sec + 60 * zone) / 86400 := by rw [Int.natCast_add]; exact hn
    have hwk' : (num (y : Int) ((m + 1 : Nat) : Int) (d : Int) + 3) % 7 = wk := by rw [Int.natCast_add]; exact hwk
    have hz : (if decide (zone < 0) = true then -(zone.natAbs : Int) else zone.natAbs) = zone := by
      by_cases e : zone < 0
      · rw [if_pos (by simpa using e)]; omega
      · rw [if_neg (by simpa using e)]; omega
    have hsec : num y ((m : Int) + 1) d * 86400 + o - 60 * (if decide (zone < 0) = true then -(zone.natAbs : Int) else zone.natAbs) = sec := by rw [hz, hn]; omega
    have hpp := parse_print sec wk d m y o zone.natAbs (decide (zone < 0)) (by omega) (by omega) (by omega) (by omega) (by omega) (by omega) hr hwk hsec
    have hps := short_print sec d m y o zone.natAbs (decide (zone < 0)) (by omega) (by omega) (by omega) (by omega) (by omega) hr hsec
    rw [hz] at hpp hps
    refine back_ok sec zone _ _ w hE (fun w hP => print_yes sec zone y (m + 1) d wk o w h hr' hn' hwk' ho hP) (fun w hP => short_yes sec zone y (m + 1) d wk o w h hr' hn' hwk' ho hP) (fun w hm => ?_) (fun w hm => ?_)
    · exact parse_any _ w (by rw [size_mk]; have := printL_len wk d (m + 1) y o (decide (zone < 0)) zone.natAbs (by omega); omega) hm _ hpp
    · exact parseShort_any _ w (by rw [size_mk]; have := shortL_len d (m + 1) y o (decide (zone < 0)) zone.natAbs (by omega); omega) hm _ hps
end Go.Proofs.YtkkmjadkagpihaaDoor
