/- Date: the document's Days, Civil. -/
import Derived.Test.YtkkmjadkagpihaaDoorJ4
namespace Go.Proofs.YtkkmjadkagpihaaDoor
open Go Go.RowKit

theorem blt {w w' : World} {B : Nat} (h : Below B w w') {k : Nat} (hk : k < w.heap.size) : k < w'.heap.size := Nat.lt_of_lt_of_le hk h.size

theorem refDays_no (y m d : Int) (w : World) (h : rt y m d = false) :
    Calls Tryd.prog 10 #[dayV y m d] w fun e w' => e = .returned (.tuple #[.int .i64 0, .int .i64 2]) ∧ Below w.heap.size w w' := by
  have HR := Lib.hid (fun w => refRight y m d w)
  simp only [h] at HR
  unfold dayV at HR ⊢
  clear h
  go_enter Tryd.func10, Tryd.ntmps10
  go_wp2_with fail
  refine (HR.out _).mono ?_
  rintro e w1 ⟨rfl, hb⟩
  go_wp2
  go_ret2
  exact ⟨rfl, (bal (Below.refl _ _) _).trans (hb.mono (by simp))⟩

theorem refDays_yes (y m d : Int) (w : World) (h : rt y m d = true) :
    Calls Tryd.prog 10 #[dayV y m d] w fun e w' => e = .returned (.tuple #[.int .i64 (num y m d), .int .i64 0]) ∧ Below w.heap.size w w' := by
  have HR := Lib.hid (fun w => refRight y m d w)
  simp only [h] at HR
  rw [rt_iff] at h
  obtain ⟨h1, h2, h3, h4, h5, h6⟩ := h
  have hb := bg_bd y (by omega) (by omega)
  have hd := dim_bd y m
  unfold dayV at HR ⊢
  obtain ⟨W0, hW⟩ : ∃ W0, w.alloc (.cells #[.int .i64 y, .int .i64 m, .int .i64 d] 23) = W0 := ⟨_, rfl⟩
  have hB : Below w.heap.size w W0 := by rw [← hW]; exact bal (Below.refl _ _) _
  have hz : w.heap.size < W0.heap.size := by rw [← hW]; simp
  have K : ∀ wx, Below W0.heap.size W0 wx → wx.cell? ⟨w.heap.size, 0, none⟩ = some (.int .i64 y) ∧ wx.cell? ⟨w.heap.size, 1, none⟩ = some (.int .i64 m) ∧ wx.cell? ⟨w.heap.size, 2, none⟩ = some (.int .i64 d) := fun wx hb => by
    refine ⟨(hb.cell hz).trans ?_, (hb.cell hz).trans ?_, (hb.cell hz).trans ?_⟩ <;> rw [← hW] <;> exact World.cell?_alloc_mark _ _ _ _ _
  have HB := Lib.hid hB
  have HW := Lib.hid hW
  have HK := Lib.hid K
  have e1 : bg 1970 + 719162 = 719162 := by rw [show bg 1970 = 0 by decide]; omega
  have HE := Lib.hid e1
  clear hB hW hz K e1
  go_enter Tryd.func10, Tryd.ntmps10
  go_wp2_with fail
  rw [HW.out]
  refine (HR.out _).mono ?_
  rintro e w1 ⟨rfl, hb1⟩
  obtain ⟨k0, k1, k2⟩ := HK.out w1 hb1
  go_wp2_with fail
  refine (refBefore y _ (by omega) (by omega)).mono ?_
  rintro e w' ⟨rfl, rfl⟩
  go_wp2_with fail
  refine (refBefore 1970 _ (by omega) (by omega)).mono ?_
  rw [HE.out]
  rintro e w' ⟨rfl, rfl⟩
  go_wp2
  clear k0 k1 k2
  go_loopw [4, 5] (fun n k wr => ∃ j : Int, 1 ≤ j ∧ j ≤ m ∧ k = .int .i64 j ∧ n = .int .i64 (bg y + cum y j) ∧ Below W0.heap.size W0 wr) (fun _ k _ => (12 - intOf k).toNat)
  case atStart => exact ⟨1, by omega, by omega, rfl, by rw [cum_1, Int.add_zero], hb1⟩
  case round =>
    obtain ⟨j, hj1, hj2, rfl, rfl, hbr⟩ := hrel
    have cb := cum_bd y j (by omega) (by omega)
    have db := dim_bd y j
    have cs := cum_succ y j (by omega) (by omega)
    obtain ⟨k0, k1, k2⟩ := HK.out wr hbr
    by_cases hlt : j < m
    · go_wp2_with fail
      refine (refLong y j _ (by omega) (by omega) (by omega) (by omega)).mono ?_
      rintro e w2 ⟨rfl, hb2⟩
      have hb3 := hbr.trans (hb2.mono hbr.size)
      go_wp2
      go_roundw
      case rel => exact ⟨j + 1, by omega, by omega, rfl, by rw [cs]; go_num, hb3⟩
      case measure => simp [intOf]; omega
    · obtain rfl : j = m := by omega
      go_wp2
      go_ret2
      exact ⟨rfl, HB.out.trans (hbr.mono HB.out.size)⟩

theorem refCivil_no (n : Int) (w : World) (h : n < -719162 ∨ 2932896 < n) :
    Calls Tryd.prog 12 #[.int .i64 n] w fun e w' => e = .returned (.tuple #[dayV 0 0 0, .int .i64 2]) ∧ Below w.heap.size w w' := by
  have b0 : bg 1970 = 0 := by decide
  have b2 := bg_last
  unfold dayV
  rcases h with h | h
  · go_enter Tryd.func12, Tryd.ntmps12
    go_wp2_with (go_at_call 32; refine (refBefore _ _ (by omega) (by omega)).mono ?_; rintro e w' ⟨rfl, rfl⟩)
    exact bodyPost_ret (v := .tuple #[.agg #[.int .i64 0, .int .i64 0, .int .i64 0], .int .i64 2]) (by simp [results, Tryd.results12, go_sem]) rfl ⟨rfl, bal (Below.refl _ _) _⟩
  · have h' : ¬ n < -719162 := by omega
    go_enter Tryd.func12, Tryd.ntmps12
    go_wp2_with (go_at_call 32; refine (refBefore _ _ (by omega) (by omega)).mono ?_; rintro e w' ⟨rfl, rfl⟩)
    exact bodyPost_ret (v := .tuple #[.agg #[.int .i64 0, .int .i64 0, .int .i64 0], .int .i64 2]) (by simp [results, Tryd.results12, go_sem]) rfl ⟨rfl, bal (Below.refl _ _) _⟩

theorem refCivil_yes (y m d : Int) (w : World) (h : rt y m d = true) :
    Calls Tryd.prog 12 #[.int .i64 (num y m d)] w fun e w' => e = .returned (.tuple #[dayV y m d, .int .i64 0]) ∧ Below w.heap.size w w' := by
  have b0 : bg 1970 = 0 := by decide
  have b2 := bg_last
  have hin := num_in h
  have hyr := num_year h
  have hn : num y m d = bg y + cum y m + d - 1 := rfl
  rw [rt_iff] at h
  obtain ⟨h1, h2, h3, h4, h5, h6⟩ := h
  unfold dayV
  generalize num y m d = n at *
  have glo := bg_lo y h1
  have ghi := bg_hi ((n + 719162) / 366 + 1) (by omega)
  have g0 : 1 ≤ (n + 719162) / 366 + 1 := by omega
  have g1 : (n + 719162) / 366 + 1 ≤ y := by
    by_cases e : (n + 719162) / 366 + 1 ≤ y
    · exact e
    · have := bg_mono (a := y + 1) (b := (n + 719162) / 366 + 1) (by omega)
      omega
  have q1 : ¬ n < -719162 := by omega
  have q2 : ¬ 2932896 < n := by omega
  have HN := Lib.hid hn
  clear hn glo ghi
  obtain ⟨W0, hW⟩ : ∃ W0, w.alloc (.cells #[.int .i64 0, .int .i64 0, .int .i64 0] 23) = W0 := ⟨_, rfl⟩
  have hB : Below w.heap.size w W0 := by rw [← hW]; exact bal (Below.refl _ _) _
  have hz : w.heap.size < W0.heap.size := by rw [← hW]; simp
  have K : ∀ wx, Below W0.heap.size W0 wx → wx.heap[w.heap.size]? = some (.cells #[.int .i64 0, .int .i64 0, .int .i64 0] 23 (0, 0)) := fun wx hb => by
    rw [hb.block _ hz, ← hW]; exact heap_alloc_new w _
  have HW := Lib.hid hW
  have HB := Lib.hid hB
  have HK := Lib.hid K
  clear hW hB hz K
  go_enter Tryd.func12, Tryd.ntmps12
  go_wp2_with (go_at_call 32; refine (refBefore _ _ (by omega) (by omega)).mono ?_; rintro e w' ⟨rfl, rfl⟩)
  go_loop [7] (fun t => ∃ k : Int, 1 ≤ k ∧ k ≤ y ∧ t = .int .i64 k) (fun t => (10000 - intOf t).toNat)
  case atStart => exact ⟨_, g0, g1, rfl⟩
  case round =>
    obtain ⟨k, hk1, hk2, rfl⟩ := hrel
    have kb := bg_bd (k + 1) (by omega) (by omega)
    by_cases hlt : k < y
    · have hle : bg (k + 1) + 719162 ≤ n + 719162 := by have := bg_mono (a := k + 1) (b := y) (by omega); omega
      go_wp2_with (go_at_call 32; refine (refBefore _ _ (by omega) (by omega)).mono ?_; rintro e w' ⟨rfl, rfl⟩)
      go_round
      case rel => exact ⟨k + 1, by omega, by omega, rfl⟩
      case measure => simp [intOf]; omega
    · obtain rfl : k = y := by omega
      have hgt : ¬ bg (k + 1) + 719162 ≤ n + 719162 := by omega
      have kb0 := bg_bd k (by omega) (by omega)
      have HS : Hid (n + 719162 - (bg k + 719162) = n - bg k) := Lib.hid (by omega)
      clear hlt hk2 g1 g0
      go_wp2_with (go_at_call 32; refine (refBefore _ _ (by omega) (by omega)).mono ?_; rintro e w' ⟨rfl, rfl⟩)
      rw [HW.out]
      go_loopw [6, 8] (fun r t wr => ∃ j : Int, 1 ≤ j ∧ j ≤ m ∧ t = .int .i64 j ∧ r = .int .i64 (n - bg k - cum k j) ∧ Below W0.heap.size W0 wr) (fun _ t _ => (12 - intOf t).toNat)
      case atStart => exact ⟨1, by omega, by omega, rfl, by rw [cum_1, Int.sub_zero, HS.out], Below.refl _ _⟩
      case round =>
        obtain ⟨j, hj1, hj2, rfl, rfl, hbr⟩ := hrel
        have cb := cum_bd k j (by omega) (by omega)
        have db := dim_bd k j
        have cs := cum_succ k j (by omega) (by omega)
        have hn := HN.out
        by_cases hlm : j < m
        · have hle : dim k j ≤ n - bg k - cum k j := by have := cum_mono k (a := j + 1) (b := m) (by omega) (by omega) (by omega); omega
          clear hn
          go_wp2_with fail
          refine (refLong k j _ (by omega) (by omega) (by omega) (by omega)).mono ?_
          rintro e w2 ⟨rfl, hb2⟩
          have hb3 := hbr.trans (hb2.mono hbr.size)
          go_wp2_with fail
          refine (refLong k j _ (by omega) (by omega) (by omega) (by omega)).mono ?_
          rintro e w3 ⟨rfl, hb4⟩
          have hb5 := hb3.trans (hb4.mono hb3.size)
          go_wp2
          go_roundw
          case rel => exact ⟨j + 1, by omega, by omega, rfl, by rw [cs]; go_num, hb5⟩
          case measure => simp [intOf]; omega
        · obtain rfl : j = m := by omega
          have hgt2 : ¬ dim k j ≤ n - bg k - cum k j := by omega
          have hx : n - bg k - cum k j + 1 = d := by omega
          have HX := Lib.hid hx
          have hlo : 0 ≤ n - bg k - cum k j := by omega
          have hhi : n - bg k - cum k j ≤ 31 := by omega
          clear hn hx hlm hj2
          go_wp2_with fail
          refine (refLong k j _ (by omega) (by omega) (by omega) (by omega)).mono ?_
          rintro e w2 ⟨rfl, hb2⟩
          have hb3 := hbr.trans (hb2.mono hbr.size)
          have hrow := HK.out w2 hb3
          have k0 : w2.cell? ⟨w.heap.size, 0, none⟩ = some (.int .i64 0) := cell_of_row _ _ _ _ _ _ hrow
          have k1 : w2.cell? ⟨w.heap.size, 1, none⟩ = some (.int .i64 0) := cell_of_row _ _ _ _ _ _ hrow
          have k2 : w2.cell? ⟨w.heap.size, 2, none⟩ = some (.int .i64 0) := cell_of_row _ _ _ _ _ _ hrow
          have f0 : w2.frozen? ⟨w.heap.size, 0, none⟩ = false := frozen_of_row _ _ _ _ _ hrow
          have f1 : w2.frozen? ⟨w.heap.size, 1, none⟩ = false := frozen_of_row _ _ _ _ _ hrow
          have f2 : w2.frozen? ⟨w.heap.size, 2, none⟩ = false := frozen_of_row _ _ _ _ _ hrow
          clear hrow
          go_wp2
          rw [HX.out]
          exact bodyPost_ret (v := .tuple #[.agg #[.int .i64 k, .int .i64 j, .int .i64 d], .int .i64 0]) (by simp [results, Tryd.results12, go_sem, k0, k1, k2]) rfl ⟨rfl, (((HB.out.trans (hb3.mono HB.out.size)).setCell (Nat.le_refl _) _).setCell (Nat.le_refl _) _).setCell (Nat.le_refl _) _⟩
end Go.Proofs.YtkkmjadkagpihaaDoor
