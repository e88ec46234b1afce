/- Date: DateDayBack. -/
import Derived.Test.YtkkmjadkagpihaaDoorJ26
namespace Go.Proofs.YtkkmjadkagpihaaDoor
open Go Go.RowKit

/-- Blocks that stand. -/
theorem row_below {B b : Nat} {w w' : World} {C : Array Value} {T : TypeId} (h : w.heap[b]? = some (.cells C T (0, 0))) (hb : Below B w w') (hlt : b < B) : w'.heap[b]? = some (.cells C T (0, 0)) := (hb.block b hlt).trans h
def Row3 (w : World) (b : Nat) (y m d : Int) : Prop := w.heap[b]? = some (.cells #[.int .i64 y, .int .i64 m, .int .i64 d] 23 (0, 0))
theorem Row3.lt {w : World} {b : Nat} {y m d : Int} (h : Row3 w b y m d) : b < w.heap.size := (Array.getElem?_eq_some_iff.1 h).1
theorem Row3.below {w w' : World} {b : Nat} {y m d : Int} (h : Row3 w b y m d) (hb : Below w.heap.size w w') : Row3 w' b y m d := (hb.block b h.lt).trans h
theorem Row3.new (w : World) (y m d : Int) : Row3 (w.alloc (.cells #[.int .i64 y, .int .i64 m, .int .i64 d] 23)) w.heap.size y m d := heap_alloc_new w _
theorem Row3.c {w : World} {b : Nat} {y m d : Int} (h : Row3 w b y m d) : w.cell? ⟨b, 0, none⟩ = some (.int .i64 y) ∧ w.cell? ⟨b, 1, none⟩ = some (.int .i64 m) ∧ w.cell? ⟨b, 2, none⟩ = some (.int .i64 d) := ⟨cell_of_row _ _ _ _ _ _ h, cell_of_row _ _ _ _ _ _ h, cell_of_row _ _ _ _ _ _ h⟩
theorem Row3.f {w : World} {b : Nat} {y m d : Int} (h : Row3 w b y m d) (j : Nat) : w.frozen? ⟨b, j, none⟩ = false := frozen_of_row _ _ _ _ _ h
theorem back_00 (y m d n a y1 y2 y3 : Int) (w : World) (hE : Env w)
    (hD : ∀ w, Calls Tryd.prog 9 #[.agg #[.int .i64 y, .int .i64 m, .int .i64 d]] w fun e w' => e = .returned (.tuple #[.int .i64 a, .int .i64 0]) ∧ Below w.heap.size w w')
    (hC : ∀ w, Calls Tryd.prog 11 #[.int .i64 a] w fun e w' => e = .returned (.tuple #[.agg #[.int .i64 y, .int .i64 m, .int .i64 d], .int .i64 0]) ∧ Below w.heap.size w w')
    (hC2 : ∀ w, Calls Tryd.prog 11 #[.int .i64 n] w fun e w' => e = .returned (.tuple #[.agg #[.int .i64 y1, .int .i64 y2, .int .i64 y3], .int .i64 0]) ∧ Below w.heap.size w w')
    (hD2 : ∀ w, Calls Tryd.prog 9 #[.agg #[.int .i64 y1, .int .i64 y2, .int .i64 y3]] w fun e w' => e = .returned (.tuple #[.int .i64 n, .int .i64 0]) ∧ Below w.heap.size w w') :
    Calls Tryd.prog 4 #[.agg #[.int .i64 y, .int .i64 m, .int .i64 d], .int .i64 n] w fun e w' => e = .returned (.bool true) ∧ Below w.heap.size w w' := by
  have HD := Lib.hid hD
  have HC := Lib.hid hC
  have HC2 := Lib.hid hC2
  have HD2 := Lib.hid hD2
  have HEnv := Lib.hid hE
  obtain ⟨W0, hW⟩ : ∃ W0, w.alloc (.cells #[.int .i64 y, .int .i64 m, .int .i64 d] 23) = W0 := ⟨_, rfl⟩
  have HB : Hid (Below w.heap.size w W0) := Lib.hid (by rw [← hW]; exact bal (Below.refl _ _) _)
  have HR0 : Hid (Row3 W0 w.heap.size y m d) := Lib.hid (by rw [← hW]; exact Row3.new w y m d)
  have HW := Lib.hid hW
  clear hD hC hC2 hD2 hE hW
  go_enter Tryd.func4, Tryd.ntmps4
  go_wp2_with fail
  rw [HW.out]
  refine (HD.out _).mono ?_
  rintro e w1 ⟨rfl, hb1⟩
  have B1 := Lib.hid hb1
  clear hb1
  go_wp2_with fail
  refine (HC.out _).mono ?_
  rintro e w2 ⟨rfl, hb2⟩
  obtain ⟨W3, hW3⟩ : ∃ W3, w2.alloc (.cells #[.int .i64 y, .int .i64 m, .int .i64 d] 23) = W3 := ⟨_, rfl⟩
  have B3 : Hid (Below W0.heap.size W0 W3) := Lib.hid (by rw [← hW3]; exact bal (B1.out.trans (hb2.mono B1.out.size)) _)
  have HR3 : Hid (Row3 W3 w2.heap.size y m d) := Lib.hid (by rw [← hW3]; exact Row3.new w2 _ _ _)
  have HW3 := Lib.hid hW3
  clear hb2 hW3
  go_wp2_with fail
  rw [HW3.out]
  refine (HC2.out _).mono ?_
  rintro e w4 ⟨rfl, hb4⟩
  obtain ⟨W5, hW5⟩ : ∃ W5, w4.alloc (.cells #[.int .i64 y1, .int .i64 y2, .int .i64 y3] 23) = W5 := ⟨_, rfl⟩
  have B5 : Hid (Below W3.heap.size W3 W5) := Lib.hid (by rw [← hW5]; exact bal hb4 _)
  have HR5 : Hid (Row3 W5 w4.heap.size y1 y2 y3) := Lib.hid (by rw [← hW5]; exact Row3.new w4 _ _ _)
  obtain ⟨k0, k1, k2⟩ := HR5.out.c
  have HW5 := Lib.hid hW5
  clear hb4 hW5
  go_wp2_with (fail)
  try rw [HW5.out]
  go_wp2_with fail
  refine (HD2.out _).mono ?_
  rintro e w6 ⟨rfl, hb6⟩
  have B6 : Hid (Below W3.heap.size W3 w6) := Lib.hid (B5.out.trans (hb6.mono B5.out.size))
  clear hb6 k0 k1 k2
  have HL := Lib.hid (live_any w6 (((HEnv.out.below HB.out).below B3.out).below B6.out))
  go_wp2_with fail
  refine HL.out.mono ?_
  rintro e w7 ⟨rfl, hb7⟩
  have B7 : Hid (Below W3.heap.size W3 w7) := Lib.hid (B6.out.trans (hb7.mono B6.out.size))
  obtain ⟨c0, c1, c2⟩ := (HR3.out.below B7.out).c
  obtain ⟨d0, d1, d2⟩ := (HR0.out.below (B3.out.trans (B7.out.mono B3.out.size))).c
  clear hb7
  go_wp2
  go_ret
  exact ⟨rfl, (HB.out.trans (B3.out.mono HB.out.size)).trans (B7.out.mono (Nat.le_trans HB.out.size B3.out.size))⟩
theorem back_02 (y m d n a : Int) (w : World) (hE : Env w)
    (hD : ∀ w, Calls Tryd.prog 9 #[.agg #[.int .i64 y, .int .i64 m, .int .i64 d]] w fun e w' => e = .returned (.tuple #[.int .i64 a, .int .i64 0]) ∧ Below w.heap.size w w')
    (hC : ∀ w, Calls Tryd.prog 11 #[.int .i64 a] w fun e w' => e = .returned (.tuple #[.agg #[.int .i64 y, .int .i64 m, .int .i64 d], .int .i64 0]) ∧ Below w.heap.size w w')
    (hC2 : ∀ w, Calls Tryd.prog 11 #[.int .i64 n] w fun e w' => e = .returned (.tuple #[.agg #[.int .i64 0, .int .i64 0, .int .i64 0], .int .i64 2]) ∧ Below w.heap.size w w')
    (hD2 : ∀ w, Calls Tryd.prog 9 #[.agg #[.int .i64 0, .int .i64 0, .int .i64 0]] w fun e w' => e = .returned (.tuple #[.int .i64 0, .int .i64 2]) ∧ Below w.heap.size w w') :
    Calls Tryd.prog 4 #[.agg #[.int .i64 y, .int .i64 m, .int .i64 d], .int .i64 n] w fun e w' => e = .returned (.bool true) ∧ Below w.heap.size w w' := by
  have HD := Lib.hid hD
  have HC := Lib.hid hC
  have HC2 := Lib.hid hC2
  have HD2 := Lib.hid hD2
  have HEnv := Lib.hid hE
  obtain ⟨W0, hW⟩ : ∃ W0, w.alloc (.cells #[.int .i64 y, .int .i64 m, .int .i64 d] 23) = W0 := ⟨_, rfl⟩
  have HB : Hid (Below w.heap.size w W0) := Lib.hid (by rw [← hW]; exact bal (Below.refl _ _) _)
  have HR0 : Hid (Row3 W0 w.heap.size y m d) := Lib.hid (by rw [← hW]; exact Row3.new w y m d)
  have HW := Lib.hid hW
  clear hD hC hC2 hD2 hE hW
  go_enter Tryd.func4, Tryd.ntmps4
  go_wp2_with fail
  rw [HW.out]
  refine (HD.out _).mono ?_
  rintro e w1 ⟨rfl, hb1⟩
  have B1 := Lib.hid hb1
  clear hb1
  go_wp2_with fail
  refine (HC.out _).mono ?_
  rintro e w2 ⟨rfl, hb2⟩
  obtain ⟨W3, hW3⟩ : ∃ W3, w2.alloc (.cells #[.int .i64 y, .int .i64 m, .int .i64 d] 23) = W3 := ⟨_, rfl⟩
  have B3 : Hid (Below W0.heap.size W0 W3) := Lib.hid (by rw [← hW3]; exact bal (B1.out.trans (hb2.mono B1.out.size)) _)
  have HR3 : Hid (Row3 W3 w2.heap.size y m d) := Lib.hid (by rw [← hW3]; exact Row3.new w2 _ _ _)
  have HW3 := Lib.hid hW3
  clear hb2 hW3
  go_wp2_with fail
  rw [HW3.out]
  refine (HC2.out _).mono ?_
  rintro e w4 ⟨rfl, hb4⟩
  obtain ⟨W5, hW5⟩ : ∃ W5, w4.alloc (.cells #[.int .i64 0, .int .i64 0, .int .i64 0] 23) = W5 := ⟨_, rfl⟩
  have B5 : Hid (Below W3.heap.size W3 W5) := Lib.hid (by rw [← hW5]; exact bal hb4 _)
  have HR5 : Hid (Row3 W5 w4.heap.size 0 0 0) := Lib.hid (by rw [← hW5]; exact Row3.new w4 _ _ _)
  obtain ⟨k0, k1, k2⟩ := HR5.out.c
  have HW5 := Lib.hid hW5
  clear hb4 hW5
  go_wp2_with (fail)
  try rw [HW5.out]
  go_wp2_with fail
  refine (HD2.out _).mono ?_
  rintro e w6 ⟨rfl, hb6⟩
  have B6 : Hid (Below W3.heap.size W3 w6) := Lib.hid (B5.out.trans (hb6.mono B5.out.size))
  clear hb6 k0 k1 k2
  have HL := Lib.hid (live_any w6 (((HEnv.out.below HB.out).below B3.out).below B6.out))
  go_wp2_with fail
  refine HL.out.mono ?_
  rintro e w7 ⟨rfl, hb7⟩
  have B7 : Hid (Below W3.heap.size W3 w7) := Lib.hid (B6.out.trans (hb7.mono B6.out.size))
  obtain ⟨c0, c1, c2⟩ := (HR3.out.below B7.out).c
  obtain ⟨d0, d1, d2⟩ := (HR0.out.below (B3.out.trans (B7.out.mono B3.out.size))).c
  clear hb7
  go_wp2
  go_ret
  exact ⟨rfl, (HB.out.trans (B3.out.mono HB.out.size)).trans (B7.out.mono (Nat.le_trans HB.out.size B3.out.size))⟩
theorem back_20 (y m d n a x1 x2 x3 f y1 y2 y3 : Int) (w : World) (hE : Env w)
    (hD : ∀ w, Calls Tryd.prog 9 #[.agg #[.int .i64 y, .int .i64 m, .int .i64 d]] w fun e w' => e = .returned (.tuple #[.int .i64 a, .int .i64 2]) ∧ Below w.heap.size w w')
    (hC : ∀ w, Calls Tryd.prog 11 #[.int .i64 a] w fun e w' => e = .returned (.tuple #[.agg #[.int .i64 x1, .int .i64 x2, .int .i64 x3], .int .i64 f]) ∧ Below w.heap.size w w')
    (hC2 : ∀ w, Calls Tryd.prog 11 #[.int .i64 n] w fun e w' => e = .returned (.tuple #[.agg #[.int .i64 y1, .int .i64 y2, .int .i64 y3], .int .i64 0]) ∧ Below w.heap.size w w')
    (hD2 : ∀ w, Calls Tryd.prog 9 #[.agg #[.int .i64 y1, .int .i64 y2, .int .i64 y3]] w fun e w' => e = .returned (.tuple #[.int .i64 n, .int .i64 0]) ∧ Below w.heap.size w w') :
    Calls Tryd.prog 4 #[.agg #[.int .i64 y, .int .i64 m, .int .i64 d], .int .i64 n] w fun e w' => e = .returned (.bool true) ∧ Below w.heap.size w w' := by
  have HD := Lib.hid hD
  have HC := Lib.hid hC
  have HC2 := Lib.hid hC2
  have HD2 := Lib.hid hD2
  have HEnv := Lib.hid hE
  obtain ⟨W0, hW⟩ : ∃ W0, w.alloc (.cells #[.int .i64 y, .int .i64 m, .int .i64 d] 23) = W0 := ⟨_, rfl⟩
  have HB : Hid (Below w.heap.size w W0) := Lib.hid (by rw [← hW]; exact bal (Below.refl _ _) _)
  have HR0 : Hid (Row3 W0 w.heap.size y m d) := Lib.hid (by rw [← hW]; exact Row3.new w y m d)
  have HW := Lib.hid hW
  clear hD hC hC2 hD2 hE hW
  go_enter Tryd.func4, Tryd.ntmps4
  go_wp2_with fail
  rw [HW.out]
  refine (HD.out _).mono ?_
  rintro e w1 ⟨rfl, hb1⟩
  have B1 := Lib.hid hb1
  clear hb1
  go_wp2_with fail
  refine (HC.out _).mono ?_
  rintro e w2 ⟨rfl, hb2⟩
  obtain ⟨W3, hW3⟩ : ∃ W3, w2.alloc (.cells #[.int .i64 x1, .int .i64 x2, .int .i64 x3] 23) = W3 := ⟨_, rfl⟩
  have B3 : Hid (Below W0.heap.size W0 W3) := Lib.hid (by rw [← hW3]; exact bal (B1.out.trans (hb2.mono B1.out.size)) _)
  have HR3 : Hid (Row3 W3 w2.heap.size x1 x2 x3) := Lib.hid (by rw [← hW3]; exact Row3.new w2 _ _ _)
  have HW3 := Lib.hid hW3
  clear hb2 hW3
  go_wp2_with fail
  rw [HW3.out]
  refine (HC2.out _).mono ?_
  rintro e w4 ⟨rfl, hb4⟩
  obtain ⟨W5, hW5⟩ : ∃ W5, w4.alloc (.cells #[.int .i64 y1, .int .i64 y2, .int .i64 y3] 23) = W5 := ⟨_, rfl⟩
  have B5 : Hid (Below W3.heap.size W3 W5) := Lib.hid (by rw [← hW5]; exact bal hb4 _)
  have HR5 : Hid (Row3 W5 w4.heap.size y1 y2 y3) := Lib.hid (by rw [← hW5]; exact Row3.new w4 _ _ _)
  obtain ⟨k0, k1, k2⟩ := HR5.out.c
  have HW5 := Lib.hid hW5
  clear hb4 hW5
  go_wp2_with (fail)
  try rw [HW5.out]
  go_wp2_with fail
  refine (HD2.out _).mono ?_
  rintro e w6 ⟨rfl, hb6⟩
  have B6 : Hid (Below W3.heap.size W3 w6) := Lib.hid (B5.out.trans (hb6.mono B5.out.size))
  clear hb6 k0 k1 k2
  have HL := Lib.hid (live_any w6 (((HEnv.out.below HB.out).below B3.out).below B6.out))
  go_wp2_with fail
  refine HL.out.mono ?_
  rintro e w7 ⟨rfl, hb7⟩
  have B7 : Hid (Below W3.heap.size W3 w7) := Lib.hid (B6.out.trans (hb7.mono B6.out.size))
  obtain ⟨c0, c1, c2⟩ := (HR3.out.below B7.out).c
  obtain ⟨d0, d1, d2⟩ := (HR0.out.below (B3.out.trans (B7.out.mono B3.out.size))).c
  clear hb7
  go_wp2
  go_ret
  exact ⟨rfl, (HB.out.trans (B3.out.mono HB.out.size)).trans (B7.out.mono (Nat.le_trans HB.out.size B3.out.size))⟩
theorem back_22 (y m d n a x1 x2 x3 f : Int) (w : World) (hE : Env w)
    (hD : ∀ w, Calls Tryd.prog 9 #[.agg #[.int .i64 y, .int .i64 m, .int .i64 d]] w fun e w' => e = .returned (.tuple #[.int .i64 a, .int .i64 2]) ∧ Below w.heap.size w w')
    (hC : ∀ w, Calls Tryd.prog 11 #[.int .i64 a] w fun e w' => e = .returned (.tuple #[.agg #[.int .i64 x1, .int .i64 x2, .int .i64 x3], .int .i64 f]) ∧ Below w.heap.size w w')
    (hC2 : ∀ w, Calls Tryd.prog 11 #[.int .i64 n] w fun e w' => e = .returned (.tuple #[.agg #[.int .i64 0, .int .i64 0, .int .i64 0], .int .i64 2]) ∧ Below w.heap.size w w')
    (hD2 : ∀ w, Calls Tryd.prog 9 #[.agg #[.int .i64 0, .int .i64 0, .int .i64 0]] w fun e w' => e = .returned (.tuple #[.int .i64 0, .int .i64 2]) ∧ Below w.heap.size w w') :
    Calls Tryd.prog 4 #[.agg #[.int .i64 y, .int .i64 m, .int .i64 d], .int .i64 n] w fun e w' => e = .returned (.bool true) ∧ Below w.heap.size w w' := by
  have HD := Lib.hid hD
  have HC := Lib.hid hC
  have HC2 := Lib.hid hC2
  have HD2 := Lib.hid hD2
  have HEnv := Lib.hid hE
  obtain ⟨W0, hW⟩ : ∃ W0, w.alloc (.cells #[.int .i64 y, .int .i64 m, .int .i64 d] 23) = W0 := ⟨_, rfl⟩
  have HB : Hid (Below w.heap.size w W0) := Lib.hid (by rw [← hW]; exact bal (Below.refl _ _) _)
  have HR0 : Hid (Row3 W0 w.heap.size y m d) := Lib.hid (by rw [← hW]; exact Row3.new w y m d)
  have HW := Lib.hid hW
  clear hD hC hC2 hD2 hE hW
  go_enter Tryd.func4, Tryd.ntmps4
  go_wp2_with fail
  rw [HW.out]
  refine (HD.out _).mono ?_
  rintro e w1 ⟨rfl, hb1⟩
  have B1 := Lib.hid hb1
  clear hb1
  go_wp2_with fail
  refine (HC.out _).mono ?_
  rintro e w2 ⟨rfl, hb2⟩
  obtain ⟨W3, hW3⟩ : ∃ W3, w2.alloc (.cells #[.int .i64 x1, .int .i64 x2, .int .i64 x3] 23) = W3 := ⟨_, rfl⟩
  have B3 : Hid (Below W0.heap.size W0 W3) := Lib.hid (by rw [← hW3]; exact bal (B1.out.trans (hb2.mono B1.out.size)) _)
  have HR3 : Hid (Row3 W3 w2.heap.size x1 x2 x3) := Lib.hid (by rw [← hW3]; exact Row3.new w2 _ _ _)
  have HW3 := Lib.hid hW3
  clear hb2 hW3
  go_wp2_with fail
  rw [HW3.out]
  refine (HC2.out _).mono ?_
  rintro e w4 ⟨rfl, hb4⟩
  obtain ⟨W5, hW5⟩ : ∃ W5, w4.alloc (.cells #[.int .i64 0, .int .i64 0, .int .i64 0] 23) = W5 := ⟨_, rfl⟩
  have B5 : Hid (Below W3.heap.size W3 W5) := Lib.hid (by rw [← hW5]; exact bal hb4 _)
  have HR5 : Hid (Row3 W5 w4.heap.size 0 0 0) := Lib.hid (by rw [← hW5]; exact Row3.new w4 _ _ _)
  obtain ⟨k0, k1, k2⟩ := HR5.out.c
  have HW5 := Lib.hid hW5
  clear hb4 hW5
  go_wp2_with (fail)
  try rw [HW5.out]
  go_wp2_with fail
  refine (HD2.out _).mono ?_
  rintro e w6 ⟨rfl, hb6⟩
  have B6 : Hid (Below W3.heap.size W3 w6) := Lib.hid (B5.out.trans (hb6.mono B5.out.size))
  clear hb6 k0 k1 k2
  have HL := Lib.hid (live_any w6 (((HEnv.out.below HB.out).below B3.out).below B6.out))
  go_wp2_with fail
  refine HL.out.mono ?_
  rintro e w7 ⟨rfl, hb7⟩
  have B7 : Hid (Below W3.heap.size W3 w7) := Lib.hid (B6.out.trans (hb7.mono B6.out.size))
  obtain ⟨c0, c1, c2⟩ := (HR3.out.below B7.out).c
  obtain ⟨d0, d1, d2⟩ := (HR0.out.below (B3.out.trans (B7.out.mono B3.out.size))).c
  clear hb7
  go_wp2
  go_ret
  exact ⟨rfl, (HB.out.trans (B3.out.mono HB.out.size)).trans (B7.out.mono (Nat.le_trans HB.out.size B3.out.size))⟩

theorem walk_back (y m d n : Int) (w : World) (hE : Env w) :
    Calls Tryd.prog 4 #[.agg #[.int .i64 y, .int .i64 m, .int .i64 d], .int .i64 n] w fun e w' => e = .returned (.bool true) ∧ Below w.heap.size w w' := by
  obtain ⟨a, e, hD, -, hd⟩ := both_days y m d
  obtain ⟨y1, y2, y3, g, hC2, -, hc⟩ := both_civil n
  rcases hd with ⟨hr, rfl, rfl⟩ | ⟨hr, rfl, rfl⟩
  · have hC := fun w => civil_yes y m d w hr
    rcases hc with ⟨hr2, hn, rfl⟩ | ⟨rfl, rfl, rfl, rfl⟩
    · have hD2 := fun w => days_yes y1 y2 y3 w hr2
      rw [← hn] at hD2
      exact back_00 y m d n _ y1 y2 y3 w hE hD hC hC2 hD2
    · exact back_02 y m d n _ w hE hD hC hC2 (fun w => days_no 0 0 0 w (by decide))
  · obtain ⟨x1, x2, x3, f, hC, -, -⟩ := both_civil 0
    rcases hc with ⟨hr2, hn, rfl⟩ | ⟨rfl, rfl, rfl, rfl⟩
    · have hD2 := fun w => days_yes y1 y2 y3 w hr2
      rw [← hn] at hD2
      exact back_20 y m d n _ x1 x2 x3 f y1 y2 y3 w hE hD hC hC2 hD2
    · exact back_22 y m d n _ x1 x2 x3 f w hE hD hC hC2 (fun w => days_no 0 0 0 w (by decide))
end Go.Proofs.YtkkmjadkagpihaaDoor
