/- Date: the document's Right, Days, Civil. -/
import Derived.Test.YtkkmjadkagpihaaDoorJ3
namespace Go.Proofs.YtkkmjadkagpihaaDoor
open Go Go.RowKit

theorem refRight (y m d : Int) (w : World) :
    Calls Tryd.prog 16 #[dayV y m d] w fun e w' => e = .returned (.bool (rt y m d)) ∧ Below w.heap.size w w' := by
  unfold dayV
  have hbad : ¬ (1 ≤ y ∧ y ≤ 9999 ∧ 1 ≤ m ∧ m ≤ 12 ∧ 1 ≤ d) → rt y m d = false := fun h => by
    cases e : rt y m d with
    | false => rfl
    | true => rw [rt_iff] at e; exact absurd ⟨e.1, e.2.1, e.2.2.1, e.2.2.2.1, e.2.2.2.2.1⟩ h
  by_cases h1 : 1 ≤ y
  case neg =>
    rw [hbad (by omega)]
    have g : decide (1 ≤ y) = false := by simpa using h1
    clear hbad
    go_enter Tryd.func16, Tryd.ntmps16
    go_wp2
    go_quiet (fail)
    go_wp2
    go_ret
    exact ⟨rfl, bdn (bal (Below.refl _ _) _) _⟩
  by_cases h2 : y ≤ 9999
  case neg =>
    rw [hbad (by omega)]
    have g : decide (y ≤ 9999) = false := by simpa using h2
    clear hbad
    go_enter Tryd.func16, Tryd.ntmps16
    go_wp2
    go_quiet (fail)
    go_wp2
    go_ret
    exact ⟨rfl, bdn (bal (Below.refl _ _) _) _⟩
  by_cases h3 : 1 ≤ m
  case neg =>
    rw [hbad (by omega)]
    have g : decide (1 ≤ m) = false := by simpa using h3
    clear hbad
    go_enter Tryd.func16, Tryd.ntmps16
    go_wp2
    go_quiet (fail)
    go_wp2
    go_ret
    exact ⟨rfl, bdn (bal (Below.refl _ _) _) _⟩
  by_cases h4 : m ≤ 12
  case neg =>
    rw [hbad (by omega)]
    have g : decide (m ≤ 12) = false := by simpa using h4
    clear hbad
    go_enter Tryd.func16, Tryd.ntmps16
    go_wp2
    go_quiet (fail)
    go_wp2
    go_ret
    exact ⟨rfl, bdn (bal (Below.refl _ _) _) _⟩
  by_cases h5 : 1 ≤ d
  case neg =>
    rw [hbad (by omega)]
    have g : decide (1 ≤ d) = false := by simpa using h5
    clear hbad
    go_enter Tryd.func16, Tryd.ntmps16
    go_wp2
    go_quiet (fail)
    go_wp2
    go_ret
    exact ⟨rfl, bdn (bal (Below.refl _ _) _) _⟩
  have hr : rt y m d = decide (d ≤ dim y m) := by
    rw [Bool.eq_iff_iff, rt_iff]; simp; omega
  rw [hr]
  clear hbad hr
  obtain ⟨W0, hW⟩ : ∃ W0, w.alloc (.cells #[.int .i64 y, .int .i64 m, .int .i64 d] 23) = W0 := ⟨_, rfl⟩
  have hB : Below w.heap.size w W0 := by rw [← hW]; exact bal (Below.refl _ _) _
  have hz : w.heap.size < W0.heap.size := by rw [← hW]; simp
  have K : ∀ wx, Below W0.heap.size W0 wx → wx.cell? ⟨w.heap.size, 0, none⟩ = some (.int .i64 y) ∧ wx.cell? ⟨w.heap.size, 1, none⟩ = some (.int .i64 m) ∧ wx.cell? ⟨w.heap.size, 2, none⟩ = some (.int .i64 d) := fun wx hb => by
    refine ⟨(hb.cell hz).trans ?_, (hb.cell hz).trans ?_, (hb.cell hz).trans ?_⟩ <;> rw [← hW] <;> exact World.cell?_alloc_mark _ _ _ _ _
  have c : ∀ W, Below W0.heap.size W0 W → Calls Tryd.prog 17 #[.int .i64 y, .int .i64 m] W fun e w' => e = .returned (.int .i64 (dim y m)) ∧ Below W0.heap.size W0 w' := fun W hb => (refLong y m W h1 (by omega) h3 h4).mono fun e w' ⟨a, b⟩ => ⟨a, hb.trans (b.mono hb.size)⟩
  have HB := Lib.hid hB
  have HW := Lib.hid hW
  have hb0 := Below.refl W0.heap.size W0
  have hbd := hb0.drew
  have g1 : decide (1 ≤ y) = true := by simpa using h1
  have g2 : decide (y ≤ 9999) = true := by simpa using h2
  have g3 : decide (1 ≤ m) = true := by simpa using h3
  have g4 : decide (m ≤ 12) = true := by simpa using h4
  have g5 : decide (1 ≤ d) = true := by simpa using h5
  clear hB hW hz
  go_enter Tryd.func16, Tryd.ntmps16
  go_wp2_with fail
  rw [HW.out]
  go_region_held3 (fun wx => Below W0.heap.size W0 wx ∧ wx.cell? ⟨w.heap.size, 0, none⟩ = some (.int .i64 y) ∧ wx.cell? ⟨w.heap.size, 1, none⟩ = some (.int .i64 m) ∧ wx.cell? ⟨w.heap.size, 2, none⟩ = some (.int .i64 d)) (first | exact ⟨by assumption, K _ (by assumption)⟩) (first
      | (go_at_call 17; ((with_reducible refine (c _ (by assumption)).mono ?_); rintro e wn ⟨rfl, hBn⟩)))
  go_wp2
  go_ret
  exact ⟨rfl, HB.out.trans (hBn.mono HB.out.size)⟩
end Go.Proofs.YtkkmjadkagpihaaDoor
