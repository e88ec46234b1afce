/- Date: DatePrints. -/
import Derived.Test.YtkkmjadkagpihaaDoorJ25
import Derived.Test.YtkkmjadkagpihaaDoorJ13
namespace Go.Proofs.YtkkmjadkagpihaaDoor
open Go Go.RowKit

/-- A block of cells. -/
def RowC (w : World) (b : Nat) (C : Array Value) (T : TypeId) : Prop := w.heap[b]? = some (.cells C T (0, 0))
theorem RowC.lt {w : World} {b : Nat} {C : Array Value} {T : TypeId} (h : RowC w b C T) : b < w.heap.size := (Array.getElem?_eq_some_iff.1 h).1
theorem RowC.below {w w' : World} {b : Nat} {C : Array Value} {T : TypeId} (h : RowC w b C T) (hb : Below w.heap.size w w') : RowC w' b C T := (hb.block b h.lt).trans h
theorem RowC.new (w : World) (C : Array Value) (T : TypeId) : RowC (w.alloc (.cells C T)) w.heap.size C T := heap_alloc_new w _
theorem RowC.c {w : World} {b : Nat} {C : Array Value} {T : TypeId} (h : RowC w b C T) (j : Nat) : w.cell? ⟨b, j, none⟩ = C[j]? := cell_of_row _ _ _ _ _ _ h

/-- Both sides tell the same of a moment. -/
theorem both_prints (sec zone : Int) (hs1 : -9223372036854775808 ≤ sec) (hs2 : sec ≤ 9223372036854775807) (hz1 : -9223372036854775808 ≤ zone) (hz2 : zone ≤ 9223372036854775807) : ∃ (A S : Array UInt8) (e y m d : Int),
    (∀ w, Pows w → Calls Tryd.prog 24 #[.agg #[.int .i64 sec, .int .i64 zone]] w fun x w' => x = .returned (.tuple #[.string ⟨A⟩, .int .i64 e]) ∧ Below w.heap.size w w') ∧
    (∀ w, Calls Tryd.prog 25 #[.agg #[.int .i64 sec, .int .i64 zone]] w fun x w' => x = .returned (.tuple #[.string ⟨A⟩, .int .i64 e]) ∧ Below w.heap.size w w') ∧
    (∀ w, Pows w → Calls Tryd.prog 26 #[.agg #[.int .i64 sec, .int .i64 zone]] w fun x w' => x = .returned (.tuple #[.string ⟨S⟩, .int .i64 e]) ∧ Below w.heap.size w w') ∧
    (∀ w, Calls Tryd.prog 27 #[.agg #[.int .i64 sec, .int .i64 zone]] w fun x w' => x = .returned (.tuple #[.string ⟨S⟩, .int .i64 e]) ∧ Below w.heap.size w w') ∧
    (∀ w, Calls Tryd.prog 28 #[.agg #[.int .i64 sec, .int .i64 zone]] w fun x w' => x = .returned (.tuple #[.agg #[.int .i64 y, .int .i64 m, .int .i64 d], .int .i64 e]) ∧ Below w.heap.size w w') ∧
    (∀ w, Calls Tryd.prog 29 #[.agg #[.int .i64 sec, .int .i64 zone]] w fun x w' => x = .returned (.tuple #[.agg #[.int .i64 y, .int .i64 m, .int .i64 d], .int .i64 e]) ∧ Below w.heap.size w w') := by
  cases h : okT sec zone with
  | false =>
    exact ⟨#[], #[], 2, 0, 0, 0, fun w _ => print_no sec zone w h hs1 hs2 hz1 hz2, fun w => refPrint_no sec zone w h hs1 hs2 hz1 hz2, fun w _ => short_no sec zone w h hs1 hs2 hz1 hz2, fun w => refShort_no sec zone w h hs1 hs2 hz1 hz2, fun w => here_no sec zone w h hs1 hs2 hz1 hz2, fun w => refHere_no sec zone w h hs1 hs2 hz1 hz2⟩
  | true =>
    have hk := okT_iff.1 h
    obtain ⟨y, m, d, hr, hn⟩ := day_of ((sec + 60 * zone) / 86400) (by omega) (by omega)
    have hrr := rt_iff.1 hr
    obtain ⟨y, rfl⟩ : ∃ k : Nat, y = k := ⟨y.toNat, by omega⟩
    obtain ⟨m, rfl⟩ : ∃ k : Nat, m = (k : Int) + 1 := ⟨(m - 1).toNat, by omega⟩
    obtain ⟨d, rfl⟩ : ∃ k : Nat, d = k := ⟨d.toNat, by omega⟩
    obtain ⟨wk, hwk⟩ : ∃ k : Nat, (num y ((m : Int) + 1) d + 3) % 7 = k := ⟨((num y ((m : Int) + 1) d + 3) % 7).toNat, by omega⟩
    obtain ⟨o, ho⟩ : ∃ k : Nat, (sec + 60 * zone) % 86400 = k := ⟨((sec + 60 * zone) % 86400).toNat, by omega⟩
    have hr' : rt (y : Int) ((m + 1 : Nat) : Int) (d : Int) = true := by rw [Int.natCast_add]; exact hr
    have hn' : num (y : Int) ((m + 1 : Nat) : Int) (d : Int) = (sec + 60 * zone) / 86400 := by rw [Int.natCast_add]; exact hn
    have hwk' : (num (y : Int) ((m + 1 : Nat) : Int) (d : Int) + 3) % 7 = wk := by rw [Int.natCast_add]; exact hwk
    exact ⟨_, _, 0, y, (m : Int) + 1, d, fun w hP => print_yes sec zone y (m + 1) d wk o w h hr' hn' hwk' ho hP, fun w => refPrint_yes sec zone y m d wk o w h hr hn hwk ho, fun w hP => short_yes sec zone y (m + 1) d wk o w h hr' hn' hwk' ho hP, fun w => refShort_yes sec zone y m d wk o w h hr hn hwk ho, fun w => here_yes sec zone y ((m : Int) + 1) d w h hr hn, fun w => refHere_yes sec zone y ((m : Int) + 1) d w h hr hn⟩

set_option maxHeartbeats 1000000 in
theorem walk_prints (sec zone : Int) (w : World) (hE : Env w) (hs1 : -9223372036854775808 ≤ sec) (hs2 : sec ≤ 9223372036854775807) (hz1 : -9223372036854775808 ≤ zone) (hz2 : zone ≤ 9223372036854775807) :
    Calls Tryd.prog 7 #[.agg #[.int .i64 sec, .int .i64 zone]] w fun e w' => e = .returned (.bool true) ∧ Below w.heap.size w w' := by
  obtain ⟨A, S, e, y, m, d, h1, h2, h3, h4, h5, h6⟩ := both_prints sec zone hs1 hs2 hz1 hz2
  have H1 := Lib.hid h1
  have H2 := Lib.hid h2
  have H3 := Lib.hid h3
  have H4 := Lib.hid h4
  have H5 := Lib.hid h5
  have H6 := Lib.hid h6
  clear h1 h2 h3 h4 h5 h6 hs1 hs2 hz1 hz2
  obtain ⟨W0, hW⟩ : ∃ W0, w.alloc (.cells #[.int .i64 sec, .int .i64 zone] 35) = W0 := ⟨_, rfl⟩
  have hb0 : Below w.heap.size w W0 := by rw [← hW]; exact bal (Below.refl _ _) _
  have R0 : Hid (RowC W0 w.heap.size #[.int .i64 sec, .int .i64 zone] 35) := Lib.hid (by rw [← hW]; exact RowC.new w _ _)
  have BB := Lib.hid hb0
  have EE := Lib.hid (hE.below hb0)
  have HW0 := Lib.hid hW
  clear hb0 hW hE
  go_enter Tryd.func7, Tryd.ntmps7
  have q0_0 : W0.cell? ⟨w.heap.size, 0, none⟩ = some (.int .i64 sec) := R0.out.c 0
  have q0_1 : W0.cell? ⟨w.heap.size, 1, none⟩ = some (.int .i64 zone) := R0.out.c 1
  go_wp2_with (first | rw [HW0.out])
  refine (H1.out _ EE.out.pows).mono ?_
  rintro e w1 ⟨rfl, hb⟩
  replace R0 := Lib.hid (R0.out.below hb)
  replace BB := Lib.hid (BB.out.trans (hb.mono BB.out.size))
  replace EE := Lib.hid (EE.out.below hb)
  clear q0_0
  clear q0_1
  clear hb
  have q0_0 : w1.cell? ⟨w.heap.size, 0, none⟩ = some (.int .i64 sec) := R0.out.c 0
  have q0_1 : w1.cell? ⟨w.heap.size, 1, none⟩ = some (.int .i64 zone) := R0.out.c 1
  go_wp2_with fail
  refine (H2.out _).mono ?_
  rintro e w2 ⟨rfl, hb⟩
  replace R0 := Lib.hid (R0.out.below hb)
  replace BB := Lib.hid (BB.out.trans (hb.mono BB.out.size))
  replace EE := Lib.hid (EE.out.below hb)
  clear q0_0
  clear q0_1
  clear hb
  have q0_0 : w2.cell? ⟨w.heap.size, 0, none⟩ = some (.int .i64 sec) := R0.out.c 0
  have q0_1 : w2.cell? ⟨w.heap.size, 1, none⟩ = some (.int .i64 zone) := R0.out.c 1
  go_wp2_with fail
  refine (H3.out _ EE.out.pows).mono ?_
  rintro e w3 ⟨rfl, hb⟩
  replace R0 := Lib.hid (R0.out.below hb)
  replace BB := Lib.hid (BB.out.trans (hb.mono BB.out.size))
  replace EE := Lib.hid (EE.out.below hb)
  clear q0_0
  clear q0_1
  clear hb
  have q0_0 : w3.cell? ⟨w.heap.size, 0, none⟩ = some (.int .i64 sec) := R0.out.c 0
  have q0_1 : w3.cell? ⟨w.heap.size, 1, none⟩ = some (.int .i64 zone) := R0.out.c 1
  go_wp2_with fail
  refine (H4.out _).mono ?_
  rintro e w4 ⟨rfl, hb⟩
  replace R0 := Lib.hid (R0.out.below hb)
  replace BB := Lib.hid (BB.out.trans (hb.mono BB.out.size))
  replace EE := Lib.hid (EE.out.below hb)
  clear q0_0
  clear q0_1
  clear hb
  have q0_0 : w4.cell? ⟨w.heap.size, 0, none⟩ = some (.int .i64 sec) := R0.out.c 0
  have q0_1 : w4.cell? ⟨w.heap.size, 1, none⟩ = some (.int .i64 zone) := R0.out.c 1
  go_wp2_with fail
  refine (H5.out _).mono ?_
  rintro e w5 ⟨rfl, hb⟩
  replace R0 := Lib.hid (R0.out.below hb)
  replace BB := Lib.hid (BB.out.trans (hb.mono BB.out.size))
  replace EE := Lib.hid (EE.out.below hb)
  clear q0_0
  clear q0_1
  clear hb
  obtain ⟨w6, hW⟩ : ∃ W, w5.alloc (.cells #[.int .i64 y, .int .i64 m, .int .i64 d] 23) = W := ⟨_, rfl⟩
  have hb : Below w5.heap.size w5 w6 := by rw [← hW]; exact bal (Below.refl _ _) _
  replace R0 := Lib.hid (R0.out.below hb)
  replace BB := Lib.hid (BB.out.trans (hb.mono BB.out.size))
  replace EE := Lib.hid (EE.out.below hb)
  have R1 : Hid (RowC w6 w5.heap.size #[.int .i64 y, .int .i64 m, .int .i64 d] 23) := Lib.hid (by rw [← hW]; exact RowC.new w5 _ _)
  have HW6 := Lib.hid hW
  clear hb hW
  have q0_0 : w6.cell? ⟨w.heap.size, 0, none⟩ = some (.int .i64 sec) := R0.out.c 0
  have q0_1 : w6.cell? ⟨w.heap.size, 1, none⟩ = some (.int .i64 zone) := R0.out.c 1
  go_wp2_with (first | rw [HW6.out])
  refine (H6.out _).mono ?_
  rintro e w7 ⟨rfl, hb⟩
  replace R0 := Lib.hid (R0.out.below hb)
  replace R1 := Lib.hid (R1.out.below hb)
  replace BB := Lib.hid (BB.out.trans (hb.mono BB.out.size))
  replace EE := Lib.hid (EE.out.below hb)
  clear q0_0
  clear q0_1
  clear hb
  obtain ⟨w8, hW⟩ : ∃ W, w7.alloc (.cells #[.int .i64 y, .int .i64 m, .int .i64 d] 23) = W := ⟨_, rfl⟩
  have hb : Below w7.heap.size w7 w8 := by rw [← hW]; exact bal (Below.refl _ _) _
  replace R0 := Lib.hid (R0.out.below hb)
  replace R1 := Lib.hid (R1.out.below hb)
  replace BB := Lib.hid (BB.out.trans (hb.mono BB.out.size))
  replace EE := Lib.hid (EE.out.below hb)
  have R2 : Hid (RowC w8 w7.heap.size #[.int .i64 y, .int .i64 m, .int .i64 d] 23) := Lib.hid (by rw [← hW]; exact RowC.new w7 _ _)
  have HW8 := Lib.hid hW
  clear hb hW
  go_wp2_with (first | rw [HW8.out])
  refine (live_any _ EE.out).mono ?_
  rintro e w9 ⟨rfl, hb⟩
  replace R0 := Lib.hid (R0.out.below hb)
  replace R1 := Lib.hid (R1.out.below hb)
  replace R2 := Lib.hid (R2.out.below hb)
  replace BB := Lib.hid (BB.out.trans (hb.mono BB.out.size))
  replace EE := Lib.hid (EE.out.below hb)
  clear hb
  have q1_0 : w9.cell? ⟨w5.heap.size, 0, none⟩ = some (.int .i64 y) := R1.out.c 0
  have q1_1 : w9.cell? ⟨w5.heap.size, 1, none⟩ = some (.int .i64 m) := R1.out.c 1
  have q1_2 : w9.cell? ⟨w5.heap.size, 2, none⟩ = some (.int .i64 d) := R1.out.c 2
  have q2_0 : w9.cell? ⟨w7.heap.size, 0, none⟩ = some (.int .i64 y) := R2.out.c 0
  have q2_1 : w9.cell? ⟨w7.heap.size, 1, none⟩ = some (.int .i64 m) := R2.out.c 1
  have q2_2 : w9.cell? ⟨w7.heap.size, 2, none⟩ = some (.int .i64 d) := R2.out.c 2
  go_wp2
  go_ret
  exact ⟨rfl, BB.out⟩
end Go.Proofs.YtkkmjadkagpihaaDoor
