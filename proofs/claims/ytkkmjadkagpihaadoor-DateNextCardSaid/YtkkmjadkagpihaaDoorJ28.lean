/- Date: DateNext. -/
import Derived.Test.YtkkmjadkagpihaaDoorJ27
namespace Go.Proofs.YtkkmjadkagpihaaDoor
open Go Go.RowKit

theorem next_no (y m d : Int) (w : World) (hE : Env w) (h : rt y m d = false) :
    Calls Tryd.prog 5 #[.agg #[.int .i64 y, .int .i64 m, .int .i64 d]] w fun e w' => e = .returned (.bool true) ∧ Below w.heap.size w w' := by
  have HD := Lib.hid (fun w => days_no y m d w h)
  have HRt := Lib.hid (fun w => refRight y m d w)
  rw [h] at HRt
  unfold dayV at HD HRt
  have HEnv := Lib.hid hE
  obtain ⟨W0, hW⟩ : ∃ W0, w.alloc (.cells #[.int .i64 y, .int .i64 m, .int .i64 d] 23) = W0 := ⟨_, rfl⟩
  have HB : Hid (Below w.heap.size w W0) := Lib.hid (by rw [← hW]; exact bal (Below.refl _ _) _)
  have HR0 : Hid (Row3 W0 w.heap.size y m d) := Lib.hid (by rw [← hW]; exact Row3.new w y m d)
  have HW := Lib.hid hW
  clear hE hW h
  go_enter Tryd.func5, Tryd.ntmps5
  go_wp2_with fail
  rw [HW.out]
  refine (HD.out _).mono ?_
  rintro e w1 ⟨rfl, hb1⟩
  have B1 := Lib.hid hb1
  clear hb1
  have HL := Lib.hid (live_any w1 ((HEnv.out.below HB.out).below B1.out))
  go_wp2_with fail
  refine HL.out.mono ?_
  rintro e w2 ⟨rfl, hb2⟩
  have B2 := Lib.hid (B1.out.trans (hb2.mono B1.out.size))
  obtain ⟨k0, k1, k2⟩ := (HR0.out.below B2.out).c
  clear hb2
  go_wp2_with fail
  refine (HRt.out _).mono ?_
  rintro e w3 ⟨rfl, hb3⟩
  go_wp2
  go_ret
  exact ⟨rfl, HB.out.trans ((B2.out.trans (hb3.mono B2.out.size)).mono HB.out.size)⟩

theorem Row3.set2 {w : World} {b : Nat} {y m d : Int} (h : Row3 w b y m d) (x : Int) : Row3 (w.setCell ⟨b, 2, none⟩ (.int .i64 x)) b y m x := by unfold Row3 at *; rw [heap_setCell_same w b 2 _ _ _ h]; rfl
theorem Row3.set1 {w : World} {b : Nat} {y m d : Int} (h : Row3 w b y m d) (x : Int) : Row3 (w.setCell ⟨b, 1, none⟩ (.int .i64 x)) b y x d := by unfold Row3 at *; rw [heap_setCell_same w b 1 _ _ _ h]; rfl
theorem Row3.set0 {w : World} {b : Nat} {y m d : Int} (h : Row3 w b y m d) (x : Int) : Row3 (w.setCell ⟨b, 0, none⟩ (.int .i64 x)) b x m d := by unfold Row3 at *; rw [heap_setCell_same w b 0 _ _ _ h]; rfl

set_option maxHeartbeats 1000000 in
theorem next_A (y m d n wk : Int) (w : World) (hE : Env w) (hr : 1 ≤ y ∧ y ≤ 9999 ∧ 1 ≤ m ∧ m ≤ 12 ∧ 1 ≤ d ∧ d ≤ dim y m) (h1 : d + 1 ≤ dim y m) (hn0 : -1000000000 ≤ n) (hn1 : n ≤ 1000000000) (hwk0 : 0 ≤ wk) (hwk1 : wk ≤ 6)
    (hD : ∀ w, Calls Tryd.prog 9 #[.agg #[.int .i64 y, .int .i64 m, .int .i64 d]] w fun e w' => e = .returned (.tuple #[.int .i64 n, .int .i64 0]) ∧ Below w.heap.size w w')
    (hD2 : ∀ w, Calls Tryd.prog 9 #[.agg #[.int .i64 (y), .int .i64 (m), .int .i64 (d + 1)]] w fun e w' => e = .returned (.tuple #[.int .i64 (n + 1), .int .i64 0]) ∧ Below w.heap.size w w')
    (hW : ∀ w, Calls Tryd.prog 14 #[.int .i64 n] w fun e w' => e = .returned (.int .i64 wk) ∧ w = w')
    (hW2 : ∀ w, Calls Tryd.prog 14 #[.int .i64 (n + 1)] w fun e w' => e = .returned (.int .i64 ((wk + 1) % 7)) ∧ w = w') :
    Calls Tryd.prog 5 #[.agg #[.int .i64 y, .int .i64 m, .int .i64 d]] w fun e w' => e = .returned (.bool true) ∧ Below w.heap.size w w' := by
  have HD := Lib.hid hD
  have HD2 := Lib.hid hD2
  have HWk := Lib.hid hW
  have HWk2 := Lib.hid hW2
  have hdm := dim_bd y m
  have HEnv := Lib.hid hE
  obtain ⟨W0, hW⟩ : ∃ W0, w.alloc (.cells #[.int .i64 y, .int .i64 m, .int .i64 d] 23) = W0 := ⟨_, rfl⟩
  have HB : Hid (Below w.heap.size w W0) := Lib.hid (by rw [← hW]; exact bal (Below.refl _ _) _)
  have HR0 : Hid (Row3 W0 w.heap.size y m d) := Lib.hid (by rw [← hW]; exact Row3.new w y m d)
  have HW := Lib.hid hW
  have HLg := Lib.hid (fun w => refLong y m w (by omega) (by omega) (by omega) (by omega))
  clear hE hW hD hD2 hW2
  go_enter Tryd.func5, Tryd.ntmps5
  go_wp2_with fail
  rw [HW.out]
  refine (HD.out _).mono ?_
  rintro e w1 ⟨rfl, hb1⟩
  have B1 := Lib.hid hb1
  obtain ⟨k0, k1, k2⟩ := (HR0.out.below hb1).c
  clear hb1
  obtain ⟨W2, hW2⟩ : ∃ W2, w1.alloc (.cells #[.int .i64 y, .int .i64 m, .int .i64 (d + 1)] 23) = W2 := ⟨_, rfl⟩
  have HR2 : Hid (Row3 W2 w1.heap.size y m (d + 1)) := Lib.hid (by rw [← hW2]; exact Row3.new w1 _ _ _)
  have B2 : Hid (Below W0.heap.size W0 W2) := Lib.hid (by rw [← hW2]; exact bal B1.out _)
  have HW2 := Lib.hid hW2
  clear hW2
  have KC : ∀ wx, Below W2.heap.size W2 wx → wx.cell? ⟨w1.heap.size, 2, none⟩ = some (.int .i64 (d + 1)) ∧ wx.cell? ⟨w.heap.size, 0, none⟩ = some (.int .i64 y) ∧ wx.cell? ⟨w.heap.size, 1, none⟩ = some (.int .i64 m) := fun wx hb =>
    ⟨(HR2.out.below hb).c.2.2, (HR0.out.below (B2.out.trans (hb.mono B2.out.size))).c.1, (HR0.out.below (B2.out.trans (hb.mono B2.out.size))).c.2.1⟩
  have cL : ∀ W, Below W2.heap.size W2 W → Calls Tryd.prog 17 #[.int .i64 y, .int .i64 m] W fun e w' => e = .returned (.int .i64 (dim y m)) ∧ Below W2.heap.size W2 w' := fun W hb => (HLg.out W).mono fun e w' ⟨a, c⟩ => ⟨a, hb.trans (c.mono hb.size)⟩
  have hB := Below.refl W2.heap.size W2
  have hBd := hB.drew
  go_wp2_with fail
  rw [HW2.out]
  clear k0 k1 k2
  go_region_held3 (fun wx => Below W2.heap.size W2 wx ∧ wx.cell? ⟨w1.heap.size, 2, none⟩ = some (.int .i64 (d + 1)) ∧ wx.cell? ⟨w.heap.size, 0, none⟩ = some (.int .i64 y) ∧ wx.cell? ⟨w.heap.size, 1, none⟩ = some (.int .i64 m)) (first | exact ⟨by assumption, KC _ (by assumption)⟩) (first
      | (go_at_call 17; ((with_reducible refine (cL _ (by assumption)).mono ?_); rintro e w3 ⟨rfl, hBn⟩)))
  have HR3 := Lib.hid (HR2.out.below hBn)
  have B3 := Lib.hid (B2.out.trans (hBn.mono B2.out.size))
  obtain ⟨c0, c1, c2⟩ := HR3.out.c
  have f0 := HR3.out.f 0
  have f1 := HR3.out.f 1
  have f2 := HR3.out.f 2
  have hge : W0.heap.size ≤ w1.heap.size := B1.out.size
  clear hB hBd hBn KC cL
  have HR4 : Hid (Row3 w3 w1.heap.size (y) (m) (d + 1)) := Lib.hid HR3.out
  have B4 : Hid (Below W0.heap.size W0 w3) := Lib.hid B3.out
  go_wp2_with fail
  clear c0 c1 c2 f0 f1
  generalize w3 = w4 at *
  refine (HD2.out _).mono ?_
  rintro e w5 ⟨rfl, hb5⟩
  have B5 := Lib.hid (B4.out.trans (hb5.mono B4.out.size))
  obtain ⟨c0, c1, c2⟩ := (HR4.out.below hb5).c
  clear hb5
  have HL := Lib.hid (live_any w5 ((HEnv.out.below HB.out).below B5.out))
  go_wp2_with fail
  refine HL.out.mono ?_
  rintro e w6 ⟨rfl, hb6⟩
  have B6 := Lib.hid (B5.out.trans (hb6.mono B5.out.size))
  clear hb6 c0 c1 c2
  go_wp2_with fail
  refine (HWk2.out _).mono ?_
  rintro e w7 ⟨rfl, rfl⟩
  go_wp2_with fail
  refine (HWk.out _).mono ?_
  rintro e w8 ⟨rfl, rfl⟩
  go_wp2
  go_ret
  exact ⟨rfl, HB.out.trans (B6.out.mono HB.out.size)⟩

set_option maxHeartbeats 1000000 in
theorem next_B (y m d n wk : Int) (w : World) (hE : Env w) (hr : 1 ≤ y ∧ y ≤ 9999 ∧ 1 ≤ m ∧ m ≤ 12 ∧ 1 ≤ d ∧ d ≤ dim y m) (h1 : ¬ d + 1 ≤ dim y m) (h2 : m + 1 ≤ 12) (hn0 : -1000000000 ≤ n) (hn1 : n ≤ 1000000000) (hwk0 : 0 ≤ wk) (hwk1 : wk ≤ 6)
    (hD : ∀ w, Calls Tryd.prog 9 #[.agg #[.int .i64 y, .int .i64 m, .int .i64 d]] w fun e w' => e = .returned (.tuple #[.int .i64 n, .int .i64 0]) ∧ Below w.heap.size w w')
    (hD2 : ∀ w, Calls Tryd.prog 9 #[.agg #[.int .i64 (y), .int .i64 (m + 1), .int .i64 (1)]] w fun e w' => e = .returned (.tuple #[.int .i64 (n + 1), .int .i64 0]) ∧ Below w.heap.size w w')
    (hW : ∀ w, Calls Tryd.prog 14 #[.int .i64 n] w fun e w' => e = .returned (.int .i64 wk) ∧ w = w')
    (hW2 : ∀ w, Calls Tryd.prog 14 #[.int .i64 (n + 1)] w fun e w' => e = .returned (.int .i64 ((wk + 1) % 7)) ∧ w = w') :
    Calls Tryd.prog 5 #[.agg #[.int .i64 y, .int .i64 m, .int .i64 d]] w fun e w' => e = .returned (.bool true) ∧ Below w.heap.size w w' := by
  have HD := Lib.hid hD
  have HD2 := Lib.hid hD2
  have HWk := Lib.hid hW
  have HWk2 := Lib.hid hW2
  have hdm := dim_bd y m
  have HEnv := Lib.hid hE
  obtain ⟨W0, hW⟩ : ∃ W0, w.alloc (.cells #[.int .i64 y, .int .i64 m, .int .i64 d] 23) = W0 := ⟨_, rfl⟩
  have HB : Hid (Below w.heap.size w W0) := Lib.hid (by rw [← hW]; exact bal (Below.refl _ _) _)
  have HR0 : Hid (Row3 W0 w.heap.size y m d) := Lib.hid (by rw [← hW]; exact Row3.new w y m d)
  have HW := Lib.hid hW
  have HLg := Lib.hid (fun w => refLong y m w (by omega) (by omega) (by omega) (by omega))
  clear hE hW hD hD2 hW2
  go_enter Tryd.func5, Tryd.ntmps5
  go_wp2_with fail
  rw [HW.out]
  refine (HD.out _).mono ?_
  rintro e w1 ⟨rfl, hb1⟩
  have B1 := Lib.hid hb1
  obtain ⟨k0, k1, k2⟩ := (HR0.out.below hb1).c
  clear hb1
  obtain ⟨W2, hW2⟩ : ∃ W2, w1.alloc (.cells #[.int .i64 y, .int .i64 m, .int .i64 (d + 1)] 23) = W2 := ⟨_, rfl⟩
  have HR2 : Hid (Row3 W2 w1.heap.size y m (d + 1)) := Lib.hid (by rw [← hW2]; exact Row3.new w1 _ _ _)
  have B2 : Hid (Below W0.heap.size W0 W2) := Lib.hid (by rw [← hW2]; exact bal B1.out _)
  have HW2 := Lib.hid hW2
  clear hW2
  have KC : ∀ wx, Below W2.heap.size W2 wx → wx.cell? ⟨w1.heap.size, 2, none⟩ = some (.int .i64 (d + 1)) ∧ wx.cell? ⟨w.heap.size, 0, none⟩ = some (.int .i64 y) ∧ wx.cell? ⟨w.heap.size, 1, none⟩ = some (.int .i64 m) := fun wx hb =>
    ⟨(HR2.out.below hb).c.2.2, (HR0.out.below (B2.out.trans (hb.mono B2.out.size))).c.1, (HR0.out.below (B2.out.trans (hb.mono B2.out.size))).c.2.1⟩
  have cL : ∀ W, Below W2.heap.size W2 W → Calls Tryd.prog 17 #[.int .i64 y, .int .i64 m] W fun e w' => e = .returned (.int .i64 (dim y m)) ∧ Below W2.heap.size W2 w' := fun W hb => (HLg.out W).mono fun e w' ⟨a, c⟩ => ⟨a, hb.trans (c.mono hb.size)⟩
  have hB := Below.refl W2.heap.size W2
  have hBd := hB.drew
  go_wp2_with fail
  rw [HW2.out]
  clear k0 k1 k2
  go_region_held3 (fun wx => Below W2.heap.size W2 wx ∧ wx.cell? ⟨w1.heap.size, 2, none⟩ = some (.int .i64 (d + 1)) ∧ wx.cell? ⟨w.heap.size, 0, none⟩ = some (.int .i64 y) ∧ wx.cell? ⟨w.heap.size, 1, none⟩ = some (.int .i64 m)) (first | exact ⟨by assumption, KC _ (by assumption)⟩) (first
      | (go_at_call 17; ((with_reducible refine (cL _ (by assumption)).mono ?_); rintro e w3 ⟨rfl, hBn⟩)))
  have HR3 := Lib.hid (HR2.out.below hBn)
  have B3 := Lib.hid (B2.out.trans (hBn.mono B2.out.size))
  obtain ⟨c0, c1, c2⟩ := HR3.out.c
  have f0 := HR3.out.f 0
  have f1 := HR3.out.f 1
  have f2 := HR3.out.f 2
  have hge : W0.heap.size ≤ w1.heap.size := B1.out.size
  clear hB hBd hBn KC cL
  have HR4 : Hid (Row3 ((w3.setCell ⟨w1.heap.size, 2, none⟩ (.int .i64 (1))).setCell ⟨w1.heap.size, 1, none⟩ (.int .i64 (m + 1))) w1.heap.size (y) (m + 1) (1)) := Lib.hid ((HR3.out.set2 (1)).set1 (m + 1))
  have B4 : Hid (Below W0.heap.size W0 ((w3.setCell ⟨w1.heap.size, 2, none⟩ (.int .i64 (1))).setCell ⟨w1.heap.size, 1, none⟩ (.int .i64 (m + 1)))) := Lib.hid ((B3.out.setCell (p := ⟨w1.heap.size, 2, none⟩) hge (.int .i64 (1))).setCell (p := ⟨w1.heap.size, 1, none⟩) hge (.int .i64 (m + 1)))
  go_wp2_with fail
  clear c0 c1 c2 f0 f1
  generalize ((w3.setCell ⟨w1.heap.size, 2, none⟩ (.int .i64 (1))).setCell ⟨w1.heap.size, 1, none⟩ (.int .i64 (m + 1))) = w4 at *
  refine (HD2.out _).mono ?_
  rintro e w5 ⟨rfl, hb5⟩
  have B5 := Lib.hid (B4.out.trans (hb5.mono B4.out.size))
  obtain ⟨c0, c1, c2⟩ := (HR4.out.below hb5).c
  clear hb5
  have HL := Lib.hid (live_any w5 ((HEnv.out.below HB.out).below B5.out))
  go_wp2_with fail
  refine HL.out.mono ?_
  rintro e w6 ⟨rfl, hb6⟩
  have B6 := Lib.hid (B5.out.trans (hb6.mono B5.out.size))
  clear hb6 c0 c1 c2
  go_wp2_with fail
  refine (HWk2.out _).mono ?_
  rintro e w7 ⟨rfl, rfl⟩
  go_wp2_with fail
  refine (HWk.out _).mono ?_
  rintro e w8 ⟨rfl, rfl⟩
  go_wp2
  go_ret
  exact ⟨rfl, HB.out.trans (B6.out.mono HB.out.size)⟩

set_option maxHeartbeats 1000000 in
theorem next_C (y m d n wk : Int) (w : World) (hE : Env w) (hr : 1 ≤ y ∧ y ≤ 9999 ∧ 1 ≤ m ∧ m ≤ 12 ∧ 1 ≤ d ∧ d ≤ dim y m) (h1 : ¬ d + 1 ≤ dim y m) (h2 : ¬ m + 1 ≤ 12) (h3 : y + 1 ≤ 9999) (hn0 : -1000000000 ≤ n) (hn1 : n ≤ 1000000000) (hwk0 : 0 ≤ wk) (hwk1 : wk ≤ 6)
    (hD : ∀ w, Calls Tryd.prog 9 #[.agg #[.int .i64 y, .int .i64 m, .int .i64 d]] w fun e w' => e = .returned (.tuple #[.int .i64 n, .int .i64 0]) ∧ Below w.heap.size w w')
    (hD2 : ∀ w, Calls Tryd.prog 9 #[.agg #[.int .i64 (y + 1), .int .i64 (1), .int .i64 (1)]] w fun e w' => e = .returned (.tuple #[.int .i64 (n + 1), .int .i64 0]) ∧ Below w.heap.size w w')
    (hW : ∀ w, Calls Tryd.prog 14 #[.int .i64 n] w fun e w' => e = .returned (.int .i64 wk) ∧ w = w')
    (hW2 : ∀ w, Calls Tryd.prog 14 #[.int .i64 (n + 1)] w fun e w' => e = .returned (.int .i64 ((wk + 1) % 7)) ∧ w = w') :
    Calls Tryd.prog 5 #[.agg #[.int .i64 y, .int .i64 m, .int .i64 d]] w fun e w' => e = .returned (.bool true) ∧ Below w.heap.size w w' := by
  have HD := Lib.hid hD
  have HD2 := Lib.hid hD2
  have HWk := Lib.hid hW
  have HWk2 := Lib.hid hW2
  have hdm := dim_bd y m
  have HEnv := Lib.hid hE
  obtain ⟨W0, hW⟩ : ∃ W0, w.alloc (.cells #[.int .i64 y, .int .i64 m, .int .i64 d] 23) = W0 := ⟨_, rfl⟩
  have HB : Hid (Below w.heap.size w W0) := Lib.hid (by rw [← hW]; exact bal (Below.refl _ _) _)
  have HR0 : Hid (Row3 W0 w.heap.size y m d) := Lib.hid (by rw [← hW]; exact Row3.new w y m d)
  have HW := Lib.hid hW
  have HLg := Lib.hid (fun w => refLong y m w (by omega) (by omega) (by omega) (by omega))
  clear hE hW hD hD2 hW2
  go_enter Tryd.func5, Tryd.ntmps5
  go_wp2_with fail
  rw [HW.out]
  refine (HD.out _).mono ?_
  rintro e w1 ⟨rfl, hb1⟩
  have B1 := Lib.hid hb1
  obtain ⟨k0, k1, k2⟩ := (HR0.out.below hb1).c
  clear hb1
  obtain ⟨W2, hW2⟩ : ∃ W2, w1.alloc (.cells #[.int .i64 y, .int .i64 m, .int .i64 (d + 1)] 23) = W2 := ⟨_, rfl⟩
  have HR2 : Hid (Row3 W2 w1.heap.size y m (d + 1)) := Lib.hid (by rw [← hW2]; exact Row3.new w1 _ _ _)
  have B2 : Hid (Below W0.heap.size W0 W2) := Lib.hid (by rw [← hW2]; exact bal B1.out _)
  have HW2 := Lib.hid hW2
  clear hW2
  have KC : ∀ wx, Below W2.heap.size W2 wx → wx.cell? ⟨w1.heap.size, 2, none⟩ = some (.int .i64 (d + 1)) ∧ wx.cell? ⟨w.heap.size, 0, none⟩ = some (.int .i64 y) ∧ wx.cell? ⟨w.heap.size, 1, none⟩ = some (.int .i64 m) := fun wx hb =>
    ⟨(HR2.out.below hb).c.2.2, (HR0.out.below (B2.out.trans (hb.mono B2.out.size))).c.1, (HR0.out.below (B2.out.trans (hb.mono B2.out.size))).c.2.1⟩
  have cL : ∀ W, Below W2.heap.size W2 W → Calls Tryd.prog 17 #[.int .i64 y, .int .i64 m] W fun e w' => e = .returned (.int .i64 (dim y m)) ∧ Below W2.heap.size W2 w' := fun W hb => (HLg.out W).mono fun e w' ⟨a, c⟩ => ⟨a, hb.trans (c.mono hb.size)⟩
  have hB := Below.refl W2.heap.size W2
  have hBd := hB.drew
  go_wp2_with fail
  rw [HW2.out]
  clear k0 k1 k2
  go_region_held3 (fun wx => Below W2.heap.size W2 wx ∧ wx.cell? ⟨w1.heap.size, 2, none⟩ = some (.int .i64 (d + 1)) ∧ wx.cell? ⟨w.heap.size, 0, none⟩ = some (.int .i64 y) ∧ wx.cell? ⟨w.heap.size, 1, none⟩ = some (.int .i64 m)) (first | exact ⟨by assumption, KC _ (by assumption)⟩) (first
      | (go_at_call 17; ((with_reducible refine (cL _ (by assumption)).mono ?_); rintro e w3 ⟨rfl, hBn⟩)))
  have HR3 := Lib.hid (HR2.out.below hBn)
  have B3 := Lib.hid (B2.out.trans (hBn.mono B2.out.size))
  obtain ⟨c0, c1, c2⟩ := HR3.out.c
  have f0 := HR3.out.f 0
  have f1 := HR3.out.f 1
  have f2 := HR3.out.f 2
  have hge : W0.heap.size ≤ w1.heap.size := B1.out.size
  clear hB hBd hBn KC cL
  have HRz : Hid (Row3 ((w3.setCell ⟨w1.heap.size, 2, none⟩ (.int .i64 1)).setCell ⟨w1.heap.size, 1, none⟩ (.int .i64 (m + 1))) w1.heap.size y (m + 1) 1) := Lib.hid ((HR3.out.set2 1).set1 (m + 1))
  have Bz : Hid (Below W0.heap.size W0 ((w3.setCell ⟨w1.heap.size, 2, none⟩ (.int .i64 1)).setCell ⟨w1.heap.size, 1, none⟩ (.int .i64 (m + 1)))) := Lib.hid ((B3.out.setCell (p := ⟨w1.heap.size, 2, none⟩) hge (.int .i64 1)).setCell (p := ⟨w1.heap.size, 1, none⟩) hge (.int .i64 (m + 1)))
  go_upto_region 9 with (fail)
  clear c0 c1 c2 f0 f1 f2
  generalize ((w3.setCell ⟨w1.heap.size, 2, none⟩ (.int .i64 1)).setCell ⟨w1.heap.size, 1, none⟩ (.int .i64 (m + 1))) = wz at *
  obtain ⟨c0, c1, c2⟩ := HRz.out.c
  have f0 := HRz.out.f 0
  have f1 := HRz.out.f 1
  have HR4 : Hid (Row3 ((wz.setCell ⟨w1.heap.size, 1, none⟩ (.int .i64 (1))).setCell ⟨w1.heap.size, 0, none⟩ (.int .i64 (y + 1))) w1.heap.size (y + 1) (1) (1)) := Lib.hid ((HRz.out.set1 (1)).set0 (y + 1))
  have B4 : Hid (Below W0.heap.size W0 ((wz.setCell ⟨w1.heap.size, 1, none⟩ (.int .i64 (1))).setCell ⟨w1.heap.size, 0, none⟩ (.int .i64 (y + 1)))) := Lib.hid ((Bz.out.setCell (p := ⟨w1.heap.size, 1, none⟩) hge (.int .i64 (1))).setCell (p := ⟨w1.heap.size, 0, none⟩) hge (.int .i64 (y + 1)))
  go_wp2_with fail
  clear c0 c1 c2 f0 f1
  generalize ((wz.setCell ⟨w1.heap.size, 1, none⟩ (.int .i64 (1))).setCell ⟨w1.heap.size, 0, none⟩ (.int .i64 (y + 1))) = w4 at *
  refine (HD2.out _).mono ?_
  rintro e w5 ⟨rfl, hb5⟩
  have B5 := Lib.hid (B4.out.trans (hb5.mono B4.out.size))
  obtain ⟨c0, c1, c2⟩ := (HR4.out.below hb5).c
  clear hb5
  have HL := Lib.hid (live_any w5 ((HEnv.out.below HB.out).below B5.out))
  go_wp2_with fail
  refine HL.out.mono ?_
  rintro e w6 ⟨rfl, hb6⟩
  have B6 := Lib.hid (B5.out.trans (hb6.mono B5.out.size))
  clear hb6 c0 c1 c2
  go_wp2_with fail
  refine (HWk2.out _).mono ?_
  rintro e w7 ⟨rfl, rfl⟩
  go_wp2_with fail
  refine (HWk.out _).mono ?_
  rintro e w8 ⟨rfl, rfl⟩
  go_wp2
  go_ret
  exact ⟨rfl, HB.out.trans (B6.out.mono HB.out.size)⟩

set_option maxHeartbeats 1000000 in
theorem next_D (y m d n wk : Int) (w : World) (hE : Env w) (hr : 1 ≤ y ∧ y ≤ 9999 ∧ 1 ≤ m ∧ m ≤ 12 ∧ 1 ≤ d ∧ d ≤ dim y m) (h1 : ¬ d + 1 ≤ dim y m) (h2 : ¬ m + 1 ≤ 12) (h3 : ¬ y + 1 ≤ 9999) 
    (hD : ∀ w, Calls Tryd.prog 9 #[.agg #[.int .i64 y, .int .i64 m, .int .i64 d]] w fun e w' => e = .returned (.tuple #[.int .i64 n, .int .i64 0]) ∧ Below w.heap.size w w')
    (hD2 : ∀ w, Calls Tryd.prog 9 #[.agg #[.int .i64 (y + 1), .int .i64 (1), .int .i64 (1)]] w fun e w' => e = .returned (.tuple #[.int .i64 0, .int .i64 2]) ∧ Below w.heap.size w w')
    (hW : ∀ w, Calls Tryd.prog 14 #[.int .i64 n] w fun e w' => e = .returned (.int .i64 wk) ∧ w = w')
    (hW2 : ∀ w, Calls Tryd.prog 14 #[.int .i64 (n + 1)] w fun e w' => e = .returned (.int .i64 ((wk + 1) % 7)) ∧ w = w') :
    Calls Tryd.prog 5 #[.agg #[.int .i64 y, .int .i64 m, .int .i64 d]] w fun e w' => e = .returned (.bool true) ∧ Below w.heap.size w w' := by
  have HD := Lib.hid hD
  have HD2 := Lib.hid hD2
  have HWk := Lib.hid hW
  have HWk2 := Lib.hid hW2
  have hdm := dim_bd y m
  have HEnv := Lib.hid hE
  obtain ⟨W0, hW⟩ : ∃ W0, w.alloc (.cells #[.int .i64 y, .int .i64 m, .int .i64 d] 23) = W0 := ⟨_, rfl⟩
  have HB : Hid (Below w.heap.size w W0) := Lib.hid (by rw [← hW]; exact bal (Below.refl _ _) _)
  have HR0 : Hid (Row3 W0 w.heap.size y m d) := Lib.hid (by rw [← hW]; exact Row3.new w y m d)
  have HW := Lib.hid hW
  have HLg := Lib.hid (fun w => refLong y m w (by omega) (by omega) (by omega) (by omega))
  clear hE hW hD hD2 hW2
  go_enter Tryd.func5, Tryd.ntmps5
  go_wp2_with fail
  rw [HW.out]
  refine (HD.out _).mono ?_
  rintro e w1 ⟨rfl, hb1⟩
  have B1 := Lib.hid hb1
  obtain ⟨k0, k1, k2⟩ := (HR0.out.below hb1).c
  clear hb1
  obtain ⟨W2, hW2⟩ : ∃ W2, w1.alloc (.cells #[.int .i64 y, .int .i64 m, .int .i64 (d + 1)] 23) = W2 := ⟨_, rfl⟩
  have HR2 : Hid (Row3 W2 w1.heap.size y m (d + 1)) := Lib.hid (by rw [← hW2]; exact Row3.new w1 _ _ _)
  have B2 : Hid (Below W0.heap.size W0 W2) := Lib.hid (by rw [← hW2]; exact bal B1.out _)
  have HW2 := Lib.hid hW2
  clear hW2
  have KC : ∀ wx, Below W2.heap.size W2 wx → wx.cell? ⟨w1.heap.size, 2, none⟩ = some (.int .i64 (d + 1)) ∧ wx.cell? ⟨w.heap.size, 0, none⟩ = some (.int .i64 y) ∧ wx.cell? ⟨w.heap.size, 1, none⟩ = some (.int .i64 m) := fun wx hb =>
    ⟨(HR2.out.below hb).c.2.2, (HR0.out.below (B2.out.trans (hb.mono B2.out.size))).c.1, (HR0.out.below (B2.out.trans (hb.mono B2.out.size))).c.2.1⟩
  have cL : ∀ W, Below W2.heap.size W2 W → Calls Tryd.prog 17 #[.int .i64 y, .int .i64 m] W fun e w' => e = .returned (.int .i64 (dim y m)) ∧ Below W2.heap.size W2 w' := fun W hb => (HLg.out W).mono fun e w' ⟨a, c⟩ => ⟨a, hb.trans (c.mono hb.size)⟩
  have hB := Below.refl W2.heap.size W2
  have hBd := hB.drew
  go_wp2_with fail
  rw [HW2.out]
  clear k0 k1 k2
  go_region_held3 (fun wx => Below W2.heap.size W2 wx ∧ wx.cell? ⟨w1.heap.size, 2, none⟩ = some (.int .i64 (d + 1)) ∧ wx.cell? ⟨w.heap.size, 0, none⟩ = some (.int .i64 y) ∧ wx.cell? ⟨w.heap.size, 1, none⟩ = some (.int .i64 m)) (first | exact ⟨by assumption, KC _ (by assumption)⟩) (first
      | (go_at_call 17; ((with_reducible refine (cL _ (by assumption)).mono ?_); rintro e w3 ⟨rfl, hBn⟩)))
  have HR3 := Lib.hid (HR2.out.below hBn)
  have B3 := Lib.hid (B2.out.trans (hBn.mono B2.out.size))
  obtain ⟨c0, c1, c2⟩ := HR3.out.c
  have f0 := HR3.out.f 0
  have f1 := HR3.out.f 1
  have f2 := HR3.out.f 2
  have hge : W0.heap.size ≤ w1.heap.size := B1.out.size
  clear hB hBd hBn KC cL
  have HRz : Hid (Row3 ((w3.setCell ⟨w1.heap.size, 2, none⟩ (.int .i64 1)).setCell ⟨w1.heap.size, 1, none⟩ (.int .i64 (m + 1))) w1.heap.size y (m + 1) 1) := Lib.hid ((HR3.out.set2 1).set1 (m + 1))
  have Bz : Hid (Below W0.heap.size W0 ((w3.setCell ⟨w1.heap.size, 2, none⟩ (.int .i64 1)).setCell ⟨w1.heap.size, 1, none⟩ (.int .i64 (m + 1)))) := Lib.hid ((B3.out.setCell (p := ⟨w1.heap.size, 2, none⟩) hge (.int .i64 1)).setCell (p := ⟨w1.heap.size, 1, none⟩) hge (.int .i64 (m + 1)))
  go_upto_region 9 with (fail)
  clear c0 c1 c2 f0 f1 f2
  generalize ((w3.setCell ⟨w1.heap.size, 2, none⟩ (.int .i64 1)).setCell ⟨w1.heap.size, 1, none⟩ (.int .i64 (m + 1))) = wz at *
  obtain ⟨c0, c1, c2⟩ := HRz.out.c
  have f0 := HRz.out.f 0
  have f1 := HRz.out.f 1
  have HR4 : Hid (Row3 ((wz.setCell ⟨w1.heap.size, 1, none⟩ (.int .i64 (1))).setCell ⟨w1.heap.size, 0, none⟩ (.int .i64 (y + 1))) w1.heap.size (y + 1) (1) (1)) := Lib.hid ((HRz.out.set1 (1)).set0 (y + 1))
  have B4 : Hid (Below W0.heap.size W0 ((wz.setCell ⟨w1.heap.size, 1, none⟩ (.int .i64 (1))).setCell ⟨w1.heap.size, 0, none⟩ (.int .i64 (y + 1)))) := Lib.hid ((Bz.out.setCell (p := ⟨w1.heap.size, 1, none⟩) hge (.int .i64 (1))).setCell (p := ⟨w1.heap.size, 0, none⟩) hge (.int .i64 (y + 1)))
  go_wp2_with fail
  clear c0 c1 c2 f0 f1
  generalize ((wz.setCell ⟨w1.heap.size, 1, none⟩ (.int .i64 (1))).setCell ⟨w1.heap.size, 0, none⟩ (.int .i64 (y + 1))) = w4 at *
  refine (HD2.out _).mono ?_
  rintro e w5 ⟨rfl, hb5⟩
  have B5 := Lib.hid (B4.out.trans (hb5.mono B4.out.size))
  obtain ⟨c0, c1, c2⟩ := (HR4.out.below hb5).c
  clear hb5
  have HL := Lib.hid (live_any w5 ((HEnv.out.below HB.out).below B5.out))
  go_wp2_with fail
  refine HL.out.mono ?_
  rintro e w6 ⟨rfl, hb6⟩
  have B6 := Lib.hid (B5.out.trans (hb6.mono B5.out.size))
  clear hb6 c0 c1 c2
  go_wp2
  go_ret
  exact ⟨rfl, HB.out.trans (B6.out.mono HB.out.size)⟩

theorem walk_next (y m d : Int) (w : World) (hE : Env w) :
    Calls Tryd.prog 5 #[.agg #[.int .i64 y, .int .i64 m, .int .i64 d]] w fun e w' => e = .returned (.bool true) ∧ Below w.heap.size w w' := by
  cases h : rt y m d with
  | false => exact next_no y m d w hE h
  | true =>
    have hr := rt_iff.1 h
    have hin := num_in h
    have hdm := dim_bd y m
    have hcs := cum_succ y m (by omega) (by omega)
    have hD := fun w => days_yes y m d w h
    have hW := fun w => week_any (num y m d) w (by omega) (by omega)
    have hW2 := fun w => week_any (num y m d + 1) w (by omega) (by omega)
    rw [show (num y m d + 1 + 3) % 7 = ((num y m d + 3) % 7 + 1) % 7 by omega] at hW2
    by_cases h1 : d + 1 ≤ dim y m
    · have hD2 := fun w => days_yes y m (d + 1) w (rt_iff.2 ⟨by omega, by omega, by omega, by omega, by omega, h1⟩)
      rw [show num y m (d + 1) = num y m d + 1 by unfold num; omega] at hD2
      exact next_A y m d _ _ w hE hr h1 (by omega) (by omega) (by omega) (by omega) hD hD2 hW hW2
    · have hd : d = dim y m := by omega
      by_cases h2 : m + 1 ≤ 12
      · have hdm2 := dim_bd y (m + 1)
        have hD2 := fun w => days_yes y (m + 1) 1 w (rt_iff.2 ⟨by omega, by omega, by omega, by omega, by omega, by omega⟩)
        rw [show num y (m + 1) 1 = num y m d + 1 by unfold num; rw [hcs]; omega] at hD2
        exact next_B y m d _ _ w hE hr h1 h2 (by omega) (by omega) (by omega) (by omega) hD hD2 hW hW2
      · have hm : m = 12 := by omega
        by_cases h3 : y + 1 ≤ 9999
        · have hdm2 := dim_bd (y + 1) 1
          have hD2 := fun w => days_yes (y + 1) 1 1 w (rt_iff.2 ⟨by omega, by omega, by omega, by omega, by omega, by omega⟩)
          have hnx : num (y + 1) 1 1 = num y m d + 1 := by
            unfold num
            rw [bg_succ, cum_1]
            have hl : cum y (m + 1) = 365 + lp y := by rw [hm]; exact cum_13 y
            omega
          rw [hnx] at hD2
          exact next_C y m d _ _ w hE hr h1 h2 h3 (by omega) (by omega) (by omega) (by omega) hD hD2 hW hW2
        · have hno : rt (y + 1) 1 1 = false := by
            cases e : rt (y + 1) 1 1 with
            | false => rfl
            | true => have := (rt_iff.1 e).2.1; omega
          exact next_D y m d _ _ w hE hr h1 h2 h3 hD (fun w => days_no (y + 1) 1 1 w hno) hW hW2
end Go.Proofs.YtkkmjadkagpihaaDoor
