/- Date: DateDays, DateDayBack, DateNext. -/
import Derived.Test.YtkkmjadkagpihaaDoorJ25
namespace Go.Proofs.YtkkmjadkagpihaaDoor
open Go Go.RowKit

/-- Both sides tell the same of a day, and of a number. -/
theorem both_days (y m d : Int) : ∃ a b : Int, (∀ w, Calls Tryd.prog 9 #[.agg #[.int .i64 y, .int .i64 m, .int .i64 d]] w fun e w' => e = .returned (.tuple #[.int .i64 a, .int .i64 b]) ∧ Below w.heap.size w w') ∧
    (∀ w, Calls Tryd.prog 10 #[.agg #[.int .i64 y, .int .i64 m, .int .i64 d]] w fun e w' => e = .returned (.tuple #[.int .i64 a, .int .i64 b]) ∧ Below w.heap.size w w') ∧ (rt y m d = true ∧ a = num y m d ∧ b = 0 ∨ rt y m d = false ∧ a = 0 ∧ b = 2) := by
  cases h : rt y m d with
  | true => exact ⟨_, _, fun w => days_yes y m d w h, fun w => refDays_yes y m d w h, Or.inl ⟨rfl, rfl, rfl⟩⟩
  | false => exact ⟨_, _, fun w => days_no y m d w h, fun w => refDays_no y m d w h, Or.inr ⟨rfl, rfl, rfl⟩⟩
theorem both_civil (n : Int) : ∃ y m d b : Int, (∀ w, Calls Tryd.prog 11 #[.int .i64 n] w fun e w' => e = .returned (.tuple #[.agg #[.int .i64 y, .int .i64 m, .int .i64 d], .int .i64 b]) ∧ Below w.heap.size w w') ∧
    (∀ w, Calls Tryd.prog 12 #[.int .i64 n] w fun e w' => e = .returned (.tuple #[.agg #[.int .i64 y, .int .i64 m, .int .i64 d], .int .i64 b]) ∧ Below w.heap.size w w') ∧ (rt y m d = true ∧ n = num y m d ∧ b = 0 ∨ y = 0 ∧ m = 0 ∧ d = 0 ∧ b = 2) := by
  by_cases h : n < -719162 ∨ 2932896 < n
  · exact ⟨0, 0, 0, 2, fun w => civil_no n w h, fun w => refCivil_no n w h, Or.inr ⟨rfl, rfl, rfl, rfl⟩⟩
  · obtain ⟨y, m, d, hr, hn⟩ := day_of n (by omega) (by omega)
    refine ⟨y, m, d, 0, fun w => ?_, fun w => ?_, Or.inl ⟨hr, hn.symm, rfl⟩⟩
    · have := civil_yes y m d w hr; rw [hn] at this; exact this
    · have := refCivil_yes y m d w hr; rw [hn] at this; exact this

theorem walk_days (y m d n : Int) (w : World) (hE : Env w) (hn0 : -9223372036854775808 ≤ n) (hn1 : n ≤ 9223372036854775807) :
    Calls Tryd.prog 3 #[.agg #[.int .i64 y, .int .i64 m, .int .i64 d], .int .i64 n] w fun e w' => e = .returned (.bool true) ∧ Below w.heap.size w w' := by
  obtain ⟨a, b, hD, hR, -⟩ := both_days y m d
  obtain ⟨y1, m1, d1, b1, hC, hRC, -⟩ := both_civil n
  have HD := Lib.hid hD
  have HR := Lib.hid hR
  have HC := Lib.hid hC
  have HRC := Lib.hid hRC
  have HW := Lib.hid (fun w => week_any n w hn0 hn1)
  have HRW := Lib.hid (fun w => refWeek n w hn0 hn1)
  generalize (n + 3) % 7 = wk at *
  have HEnv := Lib.hid hE
  obtain ⟨W0, hW⟩ : ∃ W0, w.alloc (.cells #[.int .i64 y, .int .i64 m, .int .i64 d] 23) = W0 := ⟨_, rfl⟩
  have hB : Below w.heap.size w W0 := by rw [← hW]; exact bal (Below.refl _ _) _
  have hz : w.heap.size < W0.heap.size := by rw [← hW]; simp
  have K : ∀ wx, Below W0.heap.size W0 wx → wx.cell? ⟨w.heap.size, 0, none⟩ = some (.int .i64 y) ∧ wx.cell? ⟨w.heap.size, 1, none⟩ = some (.int .i64 m) ∧ wx.cell? ⟨w.heap.size, 2, none⟩ = some (.int .i64 d) := fun wx hb => by
    refine ⟨(hb.cell hz).trans ?_, (hb.cell hz).trans ?_, (hb.cell hz).trans ?_⟩ <;> rw [← hW] <;> exact World.cell?_alloc_mark _ _ _ _ _
  have HB := Lib.hid hB
  have HWW := Lib.hid hW
  have HK := Lib.hid K
  clear hD hR hC hRC hE hB hW hz K
  go_enter Tryd.func3, Tryd.ntmps3
  go_wp2_with fail
  rw [HWW.out]
  refine (HD.out _).mono ?_
  rintro e w1 ⟨rfl, hb1⟩
  obtain ⟨k0, k1, k2⟩ := HK.out w1 hb1
  have B1 := Lib.hid hb1
  clear hb1
  go_wp2_with fail
  refine (HR.out _).mono ?_
  rintro e w2 ⟨rfl, hb2⟩
  have B2 := Lib.hid (B1.out.trans (hb2.mono B1.out.size))
  clear hb2 k0 k1 k2
  go_wp2_with fail
  refine (HC.out _).mono ?_
  rintro e w3 ⟨rfl, hb3⟩
  obtain ⟨W4, hW4⟩ : ∃ W4, w3.alloc (.cells #[.int .i64 y1, .int .i64 m1, .int .i64 d1] 23) = W4 := ⟨_, rfl⟩
  have B4 : Hid (Below W0.heap.size W0 W4) := Lib.hid (by rw [← hW4]; exact bal (B2.out.trans (hb3.mono B2.out.size)) _)
  have K4 : Hid (∀ wx, Below W4.heap.size W4 wx → wx.heap[w3.heap.size]? = some (.cells #[.int .i64 y1, .int .i64 m1, .int .i64 d1] 23 (0, 0))) := Lib.hid (fun wx hb => by
    rw [hb.block _ (by rw [← hW4]; simp), ← hW4]; exact heap_alloc_new w3 _)
  have HW4 := Lib.hid hW4
  clear hb3 hW4
  go_wp2_with fail
  rw [HW4.out]
  refine (HRC.out _).mono ?_
  rintro e w5 ⟨rfl, hb5⟩
  obtain ⟨W6, hW6⟩ : ∃ W6, w5.alloc (.cells #[.int .i64 y1, .int .i64 m1, .int .i64 d1] 23) = W6 := ⟨_, rfl⟩
  have B6 : Hid (Below W4.heap.size W4 W6) := Lib.hid (by rw [← hW6]; exact bal hb5 _)
  have K6 : Hid (∀ wx, Below W6.heap.size W6 wx → wx.heap[w5.heap.size]? = some (.cells #[.int .i64 y1, .int .i64 m1, .int .i64 d1] 23 (0, 0))) := Lib.hid (fun wx hb => by
    rw [hb.block _ (by rw [← hW6]; simp), ← hW6]; exact heap_alloc_new w5 _)
  have HW6 := Lib.hid hW6
  clear hb5 hW6
  have HL := Lib.hid (live_any W6 (((HEnv.out.below HB.out).below B4.out).below B6.out))
  go_wp2_with fail
  rw [HW6.out]
  refine HL.out.mono ?_
  rintro e w7 ⟨rfl, hb7⟩
  have r5 := K6.out w7 hb7
  have r3 := K4.out w7 (B6.out.trans (hb7.mono B6.out.size))
  have c30 : w7.cell? ⟨w3.heap.size, 0, none⟩ = some (.int .i64 y1) := cell_of_row _ _ _ _ _ _ r3
  have c31 : w7.cell? ⟨w3.heap.size, 1, none⟩ = some (.int .i64 m1) := cell_of_row _ _ _ _ _ _ r3
  have c32 : w7.cell? ⟨w3.heap.size, 2, none⟩ = some (.int .i64 d1) := cell_of_row _ _ _ _ _ _ r3
  have c50 : w7.cell? ⟨w5.heap.size, 0, none⟩ = some (.int .i64 y1) := cell_of_row _ _ _ _ _ _ r5
  have c51 : w7.cell? ⟨w5.heap.size, 1, none⟩ = some (.int .i64 m1) := cell_of_row _ _ _ _ _ _ r5
  have c52 : w7.cell? ⟨w5.heap.size, 2, none⟩ = some (.int .i64 d1) := cell_of_row _ _ _ _ _ _ r5
  have B7 := Lib.hid (B6.out.trans (hb7.mono B6.out.size))
  clear r3 r5 hb7
  go_wp2_with fail
  refine (HW.out _).mono ?_
  rintro e w8 ⟨rfl, rfl⟩
  go_wp2_with fail
  refine (HRW.out _).mono ?_
  rintro e w9 ⟨rfl, rfl⟩
  go_wp2
  go_ret
  exact ⟨rfl, (HB.out.trans (B4.out.mono HB.out.size)).trans (B7.out.mono (Nat.le_trans HB.out.size B4.out.size))⟩
end Go.Proofs.YtkkmjadkagpihaaDoor
