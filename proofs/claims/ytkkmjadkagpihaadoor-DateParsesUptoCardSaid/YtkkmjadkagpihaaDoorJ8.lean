/- Date: both Heres. -/
import Derived.Test.YtkkmjadkagpihaaDoorJ7
namespace Go.Proofs.YtkkmjadkagpihaaDoor
open Go Go.RowKit

theorem here_yes (sec zone y m d : Int) (w : World) (h : okT sec zone = true) (hr : rt y m d = true) (hn : num y m d = (sec + 60 * zone) / 86400) :
    Calls Tryd.prog 28 #[timeV sec zone] w fun e w' => e = .returned (.tuple #[dayV y m d, .int .i64 0]) ∧ Below w.heap.size w w' := by
  have HT := Lib.hid (fun w => there_yes sec zone w h)
  have HC := Lib.hid (fun w => civil_yes y m d w hr)
  rw [hn] at HC
  clear h hr hn
  unfold dayV at HC ⊢
  unfold timeV at HT ⊢
  obtain ⟨W0, hW⟩ : ∃ W0, (w.alloc (.cells #[.int .i64 sec, .int .i64 zone] 35)).alloc (.cells #[.int .i64 0, .int .i64 0, .int .i64 0] 23) = W0 := ⟨_, rfl⟩
  have hB : Below w.heap.size w W0 := by rw [← hW]; exact bal (bal (Below.refl _ _) _) _
  have hz : w.heap.size + 1 < W0.heap.size := by rw [← hW]; simp
  have hr0 : W0.heap[w.heap.size + 1]? = some (.cells #[.int .i64 0, .int .i64 0, .int .i64 0] 23 (0, 0)) := by
    rw [← hW]; have := heap_alloc_new (w.alloc (.cells #[.int .i64 sec, .int .i64 zone] 35)) (.cells #[.int .i64 0, .int .i64 0, .int .i64 0] 23)
    simpa using this
  have K : ∀ wx, Below W0.heap.size W0 wx → wx.heap[w.heap.size + 1]? = some (.cells #[.int .i64 0, .int .i64 0, .int .i64 0] 23 (0, 0)) := fun wx hb => (hb.block _ hz).trans hr0
  have HW := Lib.hid hW
  have HB := Lib.hid hB
  have HK := Lib.hid K
  clear hB hz K hr0 hW
  go_enter Tryd.func28, Tryd.ntmps28
  go_wp2_with fail
  rw [HW.out]
  refine (HT.out _).mono ?_
  rintro e w1 ⟨rfl, hb1⟩
  go_wp2_with fail
  refine (HC.out _).mono ?_
  rintro e w2 ⟨rfl, hb2⟩
  have hb3 := hb1.trans (hb2.mono hb1.size)
  have hrow := HK.out w2 hb3
  have k0 : w2.cell? ⟨w.heap.size + 1, 0, none⟩ = some (.int .i64 0) := cell_of_row _ _ _ _ _ _ hrow
  have k1 : w2.cell? ⟨w.heap.size + 1, 1, none⟩ = some (.int .i64 0) := cell_of_row _ _ _ _ _ _ hrow
  have k2 : w2.cell? ⟨w.heap.size + 1, 2, none⟩ = some (.int .i64 0) := cell_of_row _ _ _ _ _ _ hrow
  have f0 : w2.frozen? ⟨w.heap.size + 1, 0, none⟩ = false := frozen_of_row _ _ _ _ _ hrow
  have f1 : w2.frozen? ⟨w.heap.size + 1, 1, none⟩ = false := frozen_of_row _ _ _ _ _ hrow
  have f2 : w2.frozen? ⟨w.heap.size + 1, 2, none⟩ = false := frozen_of_row _ _ _ _ _ hrow
  clear hrow
  go_wp2
  exact bodyPost_ret (v := .tuple #[.agg #[.int .i64 y, .int .i64 m, .int .i64 d], .int .i64 0]) (by simp [results, Tryd.results28, go_sem, k0, k1, k2]) rfl ⟨rfl, (((HB.out.trans (hb3.mono HB.out.size)).setCell (Nat.le_succ _) _).setCell (Nat.le_succ _) _).setCell (Nat.le_succ _) _⟩

theorem here_no (sec zone : Int) (w : World) (h : okT sec zone = false) (hs1 : -9223372036854775808 ≤ sec) (hs2 : sec ≤ 9223372036854775807) (hz1 : -9223372036854775808 ≤ zone) (hz2 : zone ≤ 9223372036854775807) :
    Calls Tryd.prog 28 #[timeV sec zone] w fun e w' => e = .returned (.tuple #[dayV 0 0 0, .int .i64 2]) ∧ Below w.heap.size w w' := by
  have HT := Lib.hid (fun w => there_no sec zone w h hs1 hs2 hz1 hz2)
  clear h hs1 hs2 hz1 hz2
  unfold dayV
  unfold timeV at HT ⊢
  obtain ⟨W0, hW⟩ : ∃ W0, (w.alloc (.cells #[.int .i64 sec, .int .i64 zone] 35)).alloc (.cells #[.int .i64 0, .int .i64 0, .int .i64 0] 23) = W0 := ⟨_, rfl⟩
  have hB : Below w.heap.size w W0 := by rw [← hW]; exact bal (bal (Below.refl _ _) _) _
  have hz : w.heap.size + 1 < W0.heap.size := by rw [← hW]; simp
  have hr0 : W0.heap[w.heap.size + 1]? = some (.cells #[.int .i64 0, .int .i64 0, .int .i64 0] 23 (0, 0)) := by
    rw [← hW]; have := heap_alloc_new (w.alloc (.cells #[.int .i64 sec, .int .i64 zone] 35)) (.cells #[.int .i64 0, .int .i64 0, .int .i64 0] 23)
    simpa using this
  have K : ∀ wx, Below W0.heap.size W0 wx → wx.heap[w.heap.size + 1]? = some (.cells #[.int .i64 0, .int .i64 0, .int .i64 0] 23 (0, 0)) := fun wx hb => (hb.block _ hz).trans hr0
  have HW := Lib.hid hW
  have HB := Lib.hid hB
  have HK := Lib.hid K
  clear hB hz K hr0 hW
  go_enter Tryd.func28, Tryd.ntmps28
  go_wp2_with fail
  rw [HW.out]
  refine (HT.out _).mono ?_
  rintro e w1 ⟨rfl, hb1⟩
  have hrow := HK.out w1 hb1
  have k0 : w1.cell? ⟨w.heap.size + 1, 0, none⟩ = some (.int .i64 0) := cell_of_row _ _ _ _ _ _ hrow
  have k1 : w1.cell? ⟨w.heap.size + 1, 1, none⟩ = some (.int .i64 0) := cell_of_row _ _ _ _ _ _ hrow
  have k2 : w1.cell? ⟨w.heap.size + 1, 2, none⟩ = some (.int .i64 0) := cell_of_row _ _ _ _ _ _ hrow
  have f0 : w1.frozen? ⟨w.heap.size + 1, 0, none⟩ = false := frozen_of_row _ _ _ _ _ hrow
  have f1 : w1.frozen? ⟨w.heap.size + 1, 1, none⟩ = false := frozen_of_row _ _ _ _ _ hrow
  have f2 : w1.frozen? ⟨w.heap.size + 1, 2, none⟩ = false := frozen_of_row _ _ _ _ _ hrow
  clear hrow
  go_wp2
  exact bodyPost_ret (v := .tuple #[.agg #[.int .i64 0, .int .i64 0, .int .i64 0], .int .i64 2]) (by simp [results, Tryd.results28, go_sem, k0, k1, k2]) rfl ⟨rfl, (((HB.out.trans (hb1.mono HB.out.size)).setCell (Nat.le_succ _) _).setCell (Nat.le_succ _) _).setCell (Nat.le_succ _) _⟩

theorem refHere_yes (sec zone y m d : Int) (w : World) (h : okT sec zone = true) (hr : rt y m d = true) (hn : num y m d = (sec + 60 * zone) / 86400) :
    Calls Tryd.prog 29 #[timeV sec zone] w fun e w' => e = .returned (.tuple #[dayV y m d, .int .i64 0]) ∧ Below w.heap.size w w' := by
  have HT := Lib.hid (fun w => refThere_yes sec zone w h)
  have HC := Lib.hid (fun w => refCivil_yes y m d w hr)
  rw [hn] at HC
  clear h hr hn
  unfold dayV at HC ⊢
  unfold timeV at HT ⊢
  obtain ⟨W0, hW⟩ : ∃ W0, (w.alloc (.cells #[.int .i64 sec, .int .i64 zone] 35)).alloc (.cells #[.int .i64 0, .int .i64 0, .int .i64 0] 23) = W0 := ⟨_, rfl⟩
  have hB : Below w.heap.size w W0 := by rw [← hW]; exact bal (bal (Below.refl _ _) _) _
  have hz : w.heap.size + 1 < W0.heap.size := by rw [← hW]; simp
  have hr0 : W0.heap[w.heap.size + 1]? = some (.cells #[.int .i64 0, .int .i64 0, .int .i64 0] 23 (0, 0)) := by
    rw [← hW]; have := heap_alloc_new (w.alloc (.cells #[.int .i64 sec, .int .i64 zone] 35)) (.cells #[.int .i64 0, .int .i64 0, .int .i64 0] 23)
    simpa using this
  have K : ∀ wx, Below W0.heap.size W0 wx → wx.heap[w.heap.size + 1]? = some (.cells #[.int .i64 0, .int .i64 0, .int .i64 0] 23 (0, 0)) := fun wx hb => (hb.block _ hz).trans hr0
  have HW := Lib.hid hW
  have HB := Lib.hid hB
  have HK := Lib.hid K
  clear hB hz K hr0 hW
  go_enter Tryd.func29, Tryd.ntmps29
  go_wp2_with fail
  rw [HW.out]
  refine (HT.out _).mono ?_
  rintro e w1 ⟨rfl, hb1⟩
  go_wp2_with fail
  refine (HC.out _).mono ?_
  rintro e w2 ⟨rfl, hb2⟩
  have hb3 := hb1.trans (hb2.mono hb1.size)
  have hrow := HK.out w2 hb3
  have k0 : w2.cell? ⟨w.heap.size + 1, 0, none⟩ = some (.int .i64 0) := cell_of_row _ _ _ _ _ _ hrow
  have k1 : w2.cell? ⟨w.heap.size + 1, 1, none⟩ = some (.int .i64 0) := cell_of_row _ _ _ _ _ _ hrow
  have k2 : w2.cell? ⟨w.heap.size + 1, 2, none⟩ = some (.int .i64 0) := cell_of_row _ _ _ _ _ _ hrow
  have f0 : w2.frozen? ⟨w.heap.size + 1, 0, none⟩ = false := frozen_of_row _ _ _ _ _ hrow
  have f1 : w2.frozen? ⟨w.heap.size + 1, 1, none⟩ = false := frozen_of_row _ _ _ _ _ hrow
  have f2 : w2.frozen? ⟨w.heap.size + 1, 2, none⟩ = false := frozen_of_row _ _ _ _ _ hrow
  clear hrow
  go_wp2
  exact bodyPost_ret (v := .tuple #[.agg #[.int .i64 y, .int .i64 m, .int .i64 d], .int .i64 0]) (by simp [results, Tryd.results29, go_sem, k0, k1, k2]) rfl ⟨rfl, (((HB.out.trans (hb3.mono HB.out.size)).setCell (Nat.le_succ _) _).setCell (Nat.le_succ _) _).setCell (Nat.le_succ _) _⟩

theorem refHere_no (sec zone : Int) (w : World) (h : okT sec zone = false) (hs1 : -9223372036854775808 ≤ sec) (hs2 : sec ≤ 9223372036854775807) (hz1 : -9223372036854775808 ≤ zone) (hz2 : zone ≤ 9223372036854775807) :
    Calls Tryd.prog 29 #[timeV sec zone] w fun e w' => e = .returned (.tuple #[dayV 0 0 0, .int .i64 2]) ∧ Below w.heap.size w w' := by
  have HT := Lib.hid (fun w => refThere_no sec zone w h hs1 hs2 hz1 hz2)
  clear h hs1 hs2 hz1 hz2
  unfold dayV
  unfold timeV at HT ⊢
  obtain ⟨W0, hW⟩ : ∃ W0, (w.alloc (.cells #[.int .i64 sec, .int .i64 zone] 35)).alloc (.cells #[.int .i64 0, .int .i64 0, .int .i64 0] 23) = W0 := ⟨_, rfl⟩
  have hB : Below w.heap.size w W0 := by rw [← hW]; exact bal (bal (Below.refl _ _) _) _
  have hz : w.heap.size + 1 < W0.heap.size := by rw [← hW]; simp
  have hr0 : W0.heap[w.heap.size + 1]? = some (.cells #[.int .i64 0, .int .i64 0, .int .i64 0] 23 (0, 0)) := by
    rw [← hW]; have := heap_alloc_new (w.alloc (.cells #[.int .i64 sec, .int .i64 zone] 35)) (.cells #[.int .i64 0, .int .i64 0, .int .i64 0] 23)
    simpa using this
  have K : ∀ wx, Below W0.heap.size W0 wx → wx.heap[w.heap.size + 1]? = some (.cells #[.int .i64 0, .int .i64 0, .int .i64 0] 23 (0, 0)) := fun wx hb => (hb.block _ hz).trans hr0
  have HW := Lib.hid hW
  have HB := Lib.hid hB
  have HK := Lib.hid K
  clear hB hz K hr0 hW
  go_enter Tryd.func29, Tryd.ntmps29
  go_wp2_with fail
  rw [HW.out]
  refine (HT.out _).mono ?_
  rintro e w1 ⟨xa, xb, rfl, hb1⟩
  have hrow := HK.out w1 hb1
  have k0 : w1.cell? ⟨w.heap.size + 1, 0, none⟩ = some (.int .i64 0) := cell_of_row _ _ _ _ _ _ hrow
  have k1 : w1.cell? ⟨w.heap.size + 1, 1, none⟩ = some (.int .i64 0) := cell_of_row _ _ _ _ _ _ hrow
  have k2 : w1.cell? ⟨w.heap.size + 1, 2, none⟩ = some (.int .i64 0) := cell_of_row _ _ _ _ _ _ hrow
  have f0 : w1.frozen? ⟨w.heap.size + 1, 0, none⟩ = false := frozen_of_row _ _ _ _ _ hrow
  have f1 : w1.frozen? ⟨w.heap.size + 1, 1, none⟩ = false := frozen_of_row _ _ _ _ _ hrow
  have f2 : w1.frozen? ⟨w.heap.size + 1, 2, none⟩ = false := frozen_of_row _ _ _ _ _ hrow
  clear hrow
  go_wp2
  exact bodyPost_ret (v := .tuple #[.agg #[.int .i64 0, .int .i64 0, .int .i64 0], .int .i64 2]) (by simp [results, Tryd.results29, go_sem, k0, k1, k2]) rfl ⟨rfl, (((HB.out.trans (hb1.mono HB.out.size)).setCell (Nat.le_succ _) _).setCell (Nat.le_succ _) _).setCell (Nat.le_succ _) _⟩
end Go.Proofs.YtkkmjadkagpihaaDoor
