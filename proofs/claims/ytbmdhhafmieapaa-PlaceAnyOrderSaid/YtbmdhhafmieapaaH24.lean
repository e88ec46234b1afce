/- Place: PlaceLearns. -/
import Derived.Test.YtbmdhhafmieapaaH23
namespace Go.Proofs.Ytbmdhhafmieapaa
open Go Go.RowKit Go.Maps

theorem play_any (n : Int) (v : Value) (l : List Known) (w : World) (hv : Given w v l) : Calls Try.prog 13 #[.int .i64 n, v] w (Played w n) := by
  by_cases hn : 1 ≤ n ∧ n ≤ 4
  · exact play_good n v l w hv hn
  · exact play_bad n v w hn
set_option maxHeartbeats 800000 in
theorem rseat_nil (w : World) (u : ByteArray) : Calls Try.prog 15 #[.pointer none, .string u] w fun e w' => e = .returned (.tuple #[.agg #[.string ⟨#[]⟩, .int .i64 0, .int .i64 0], .int .i64 1]) ∧ Below w.heap.size w w' := by
  go_enter Try.func15, Try.ntmps15
  go_wp2
  exact bodyPost_ret (v := .tuple #[.agg #[.string ⟨#[]⟩, .int .i64 0, .int .i64 0], .int .i64 1]) (by simp [results, Try.results15, go_sem]) rfl ⟨rfl, by first | exact Below.refl _ _ | exact (Below.refl _ _).alloc (Nat.le_refl _) _⟩
theorem below_alloc (w : World) (o : Obj) : Below w.heap.size w (w.alloc o) := (Below.refl _ w).alloc (Nat.le_refl _) _
set_option maxRecDepth 100000 in
set_option maxHeartbeats 3200000 in
theorem walk_learns (n : Int) (v : Value) (l : List Known) (u : ByteArray) (w : World) (hv : Given w v l) (hu : u.size ≤ 140737488351232) :
    Calls Try.prog 4 #[.int .i64 n, v, .string u] w fun e w' => e = .returned (.bool true) ∧ Below w.heap.size w w' := by
  have HP := Lib.hid (play_any n v l w hv)
  clear hv
  go_enter Try.func4, Try.ntmps4
  go_wp2_with fail
  refine HP.out.mono ?_
  rintro e w1 (⟨hn, rfl, b1⟩ | ⟨hn, p, b, q, k, m, rfl, hk, hB⟩)
  ·
    have B1 := Lib.hid b1
    clear b1 HP hn
    go_wp2_with fail
    refine (seat_nil _ _).mono ?_
    rintro e w2 ⟨rfl, b2⟩
    have B2 := Lib.hid (B1.out.trans (b2.mono B1.out.size))
    clear b2 B1
    go_wp2_with fail
    obtain ⟨k0, k1, k2⟩ := (Three.new w2 35 (.string ⟨#[]⟩) (.int .i64 0) (.int .i64 0)).1
    have B3 := Lib.hid (B2.out.trans ((below_alloc w2 (.cells #[.string ⟨#[]⟩, .int .i64 0, .int .i64 0] 35)).mono B2.out.size))
    obtain ⟨w3, hw3⟩ : ∃ w3, w2.alloc (.cells #[.string ⟨#[]⟩, .int .i64 0, .int .i64 0] 35) = w3 := ⟨_, rfl⟩
    have hz3 : w2.heap.size < w3.heap.size := by rw [← hw3]; simp
    rw [hw3] at B3 k0 k1 k2 ⊢
    clear hw3 B2
    refine (rseat_nil _ _).mono ?_
    rintro e w4 ⟨rfl, b4⟩
    have B4 := Lib.hid (B3.out.trans (b4.mono B3.out.size))
    replace k0 := (b4.cell (p := ⟨w2.heap.size, 0, none⟩) hz3).trans k0
    replace k1 := (b4.cell (p := ⟨w2.heap.size, 1, none⟩) hz3).trans k1
    replace k2 := (b4.cell (p := ⟨w2.heap.size, 2, none⟩) hz3).trans k2
    have hz4 : w2.heap.size < w4.heap.size := by have := b4.size; omega
    clear b4 B3 hz3
    generalize w2.heap.size = g1 at *
    go_wp2_with fail
    have b5 := below_alloc w4 (.cells #[.string ⟨#[]⟩, .int .i64 0, .int .i64 0] 35)
    obtain ⟨j0, j1, j2⟩ := (Three.new w4 35 (.string ⟨#[]⟩) (.int .i64 0) (.int .i64 0)).1
    have B5 := Lib.hid (B4.out.trans (b5.mono B4.out.size))
    obtain ⟨w5, hw5⟩ : ∃ w5, w4.alloc (.cells #[.string ⟨#[]⟩, .int .i64 0, .int .i64 0] 35) = w5 := ⟨_, rfl⟩
    have hz5 : w4.heap.size < w5.heap.size := by rw [← hw5]; simp
    rw [hw5] at b5 B5 j0 j1 j2 ⊢
    replace k0 := (b5.cell (p := ⟨g1, 0, none⟩) hz4).trans k0
    replace k1 := (b5.cell (p := ⟨g1, 1, none⟩) hz4).trans k1
    replace k2 := (b5.cell (p := ⟨g1, 2, none⟩) hz4).trans k2
    clear hw5 B4 b5
    generalize w4.heap.size = g2 at *
    have hz6 : g1 < w5.heap.size := by omega
    refine (live_any _).mono ?_
    rintro e w6 ⟨rfl, b6⟩
    have B6 := Lib.hid (B5.out.trans (b6.mono B5.out.size))
    replace k0 := (b6.cell (p := ⟨g1, 0, none⟩) hz6).trans k0
    replace k1 := (b6.cell (p := ⟨g1, 1, none⟩) hz6).trans k1
    replace k2 := (b6.cell (p := ⟨g1, 2, none⟩) hz6).trans k2
    replace j0 := (b6.cell (p := ⟨g2, 0, none⟩) hz5).trans j0
    replace j1 := (b6.cell (p := ⟨g2, 1, none⟩) hz5).trans j1
    replace j2 := (b6.cell (p := ⟨g2, 2, none⟩) hz5).trans j2
    clear b6 B5 hz4 hz5 hz6
    go_wp2
    go_ret
    exact ⟨rfl, B6.out⟩
  ·
    have hS1 := b_seat hB hn u hu
    have HB := Lib.hid hB
    have HS := Lib.hid (fun W (hW : Below w1.heap.size w1 W) => b_rseat (hB.below hW) hn u hu (by omega))
    clear hB HP hk
    unfold seatV at *
    generalize seatOf m u n = x at *
    have HS1 := Lib.hid hS1
    clear hS1 hn
    go_wp2_with fail
    refine HS1.out.mono ?_
    rintro e w2 ⟨rfl, b2⟩
    have B2 := Lib.hid (HB.out.bel.trans (b2.mono HB.out.bel.size))
    have D2 := Lib.hid b2
    clear b2 HS1
    go_wp2_with fail
    obtain ⟨k0, k1, k2⟩ := (Three.new w2 35 (.string ⟨x.1.toArray⟩) (.int .i64 x.2.1) (.int .i64 x.2.2)).1
    have B3 := Lib.hid (B2.out.trans ((below_alloc w2 (.cells #[.string ⟨x.1.toArray⟩, .int .i64 x.2.1, .int .i64 x.2.2] 35)).mono B2.out.size))
    obtain ⟨w3, hw3⟩ : ∃ w3, w2.alloc (.cells #[.string ⟨x.1.toArray⟩, .int .i64 x.2.1, .int .i64 x.2.2] 35) = w3 := ⟨_, rfl⟩
    have hz3 : w2.heap.size < w3.heap.size := by rw [← hw3]; simp
    have D3 := Lib.hid (D2.out.trans ((below_alloc w2 (.cells #[.string ⟨x.1.toArray⟩, .int .i64 x.2.1, .int .i64 x.2.2] 35)).mono D2.out.size))
    rw [hw3] at B3 D3 k0 k1 k2 ⊢
    clear hw3 B2 D2
    refine (HS.out _ D3.out).mono ?_
    rintro e w4 ⟨rfl, b4⟩
    have B4 := Lib.hid (B3.out.trans (b4.mono B3.out.size))
    replace k0 := (b4.cell (p := ⟨w2.heap.size, 0, none⟩) hz3).trans k0
    replace k1 := (b4.cell (p := ⟨w2.heap.size, 1, none⟩) hz3).trans k1
    replace k2 := (b4.cell (p := ⟨w2.heap.size, 2, none⟩) hz3).trans k2
    have hz4 : w2.heap.size < w4.heap.size := by have := b4.size; omega
    clear b4 B3 hz3 D3 HS
    generalize w2.heap.size = g1 at *
    go_wp2_with fail
    have b5 := below_alloc w4 (.cells #[.string ⟨x.1.toArray⟩, .int .i64 x.2.1, .int .i64 x.2.2] 35)
    obtain ⟨j0, j1, j2⟩ := (Three.new w4 35 (.string ⟨x.1.toArray⟩) (.int .i64 x.2.1) (.int .i64 x.2.2)).1
    have B5 := Lib.hid (B4.out.trans (b5.mono B4.out.size))
    obtain ⟨w5, hw5⟩ : ∃ w5, w4.alloc (.cells #[.string ⟨x.1.toArray⟩, .int .i64 x.2.1, .int .i64 x.2.2] 35) = w5 := ⟨_, rfl⟩
    have hz5 : w4.heap.size < w5.heap.size := by rw [← hw5]; simp
    rw [hw5] at b5 B5 j0 j1 j2 ⊢
    replace k0 := (b5.cell (p := ⟨g1, 0, none⟩) hz4).trans k0
    replace k1 := (b5.cell (p := ⟨g1, 1, none⟩) hz4).trans k1
    replace k2 := (b5.cell (p := ⟨g1, 2, none⟩) hz4).trans k2
    clear hw5 B4 b5
    generalize w4.heap.size = g2 at *
    have hz6 : g1 < w5.heap.size := by omega
    refine (live_any _).mono ?_
    rintro e w6 ⟨rfl, b6⟩
    have B6 := Lib.hid (B5.out.trans (b6.mono B5.out.size))
    replace k0 := (b6.cell (p := ⟨g1, 0, none⟩) hz6).trans k0
    replace k1 := (b6.cell (p := ⟨g1, 1, none⟩) hz6).trans k1
    replace k2 := (b6.cell (p := ⟨g1, 2, none⟩) hz6).trans k2
    replace j0 := (b6.cell (p := ⟨g2, 0, none⟩) hz5).trans j0
    replace j1 := (b6.cell (p := ⟨g2, 1, none⟩) hz5).trans j1
    replace j2 := (b6.cell (p := ⟨g2, 2, none⟩) hz5).trans j2
    clear b6 B5 hz4 hz5 hz6
    go_wp2
    go_ret
    exact ⟨rfl, B6.out⟩
end Go.Proofs.Ytbmdhhafmieapaa
