/- The statement AddrSames, walked. -/
import Derived.Test.YtmolifgjghbfaaaDoorR6
import Derived.Deep.RegionHeld3
namespace Go.Proofs.YtmolifgjghbfaaaDoor
open Go.RowKit

theorem sameA_self (x d : ByteArray) : sameA x d x d = true := by unfold sameA; simp

set_option maxHeartbeats 4000000 in
set_option maxRecDepth 100000 in
theorem lawSames (x d y f : ByteArray) (w : World) (hT : Tabs w) (hx : x.size ≤ 9223372036854775807) (hd : d.size ≤ 9223372036854775807) (hf : f.size ≤ 9223372036854775807) :
    Calls Tryd.prog 7 #[.agg #[.string x, .string d], .agg #[.string y, .string f]] w fun e w' => e = .returned (.bool true) ∧ Below w.heap.size w w' := by
  have hW : ∃ W0 : World, W0 = (w.alloc (.cells #[.string x, .string d] 23)).alloc (.cells #[.string y, .string f] 23) := ⟨_, rfl⟩
  obtain ⟨W0, hW⟩ := hW
  have hBW : Below w.heap.size w W0 := by rw [hW]; exact ((Below.refl _ w).alloc (Nat.le_refl _) _).alloc (by simp) _
  have hzW : W0.heap.size = w.heap.size + 2 := by rw [hW]; simp
  have ta : Two W0 w.heap.size (.string x) (.string d) := by rw [hW]; exact (Two.new w _ _ _).alloc (by simp) _
  have tb : Two W0 (w.heap.size + 1) (.string y) (.string f) := by
    rw [hW]
    have := Two.new (w.alloc (.cells #[.string x, .string d] 23)) 23 (.string y) (.string f)
    rw [show (w.alloc (.cells #[.string x, .string d] 23)).heap.size = w.heap.size + 1 by simp] at this
    exact this
  have K : ∀ wx, Below W0.heap.size W0 wx → wx.cell? ⟨w.heap.size, 0, none⟩ = some (.string x) ∧ wx.cell? ⟨w.heap.size, 1, none⟩ = some (.string d) ∧ wx.cell? ⟨w.heap.size + 1, 0, none⟩ = some (.string y) ∧ wx.cell? ⟨w.heap.size + 1, 1, none⟩ = some (.string f) := by
    intro wx hb
    have h1 := ta.below hb (by omega)
    have h2 := tb.below hb (by omega)
    exact ⟨h1.1, h1.2.1, h2.1, h2.2.1⟩
  have cR : ∀ (u : ByteArray) W, u.size ≤ 9223372036854775807 → Below W0.heap.size W0 W → Calls Tryd.prog 16 #[.string u] W fun e w' => e = .returned (.string ⟨(low u.data.toList).toArray⟩) ∧ Below W0.heap.size W0 w' := fun u W hu hb => (refLower u W hu).mono fun e w' ⟨h1, h2⟩ => ⟨h1, hb.trans (h2.mono hb.size)⟩
  have cU : ∀ W, Below W0.heap.size W0 W → Calls Tryd.prog 18 #[.agg #[.string x, .string d]] W fun e w' => e = .returned (.string ⟨(low x.data.toList).toArray⟩) ∧ Below W0.heap.size W0 w' := fun W hb => (user_any x d W).mono fun e w' ⟨h1, h2⟩ => ⟨h1, hb.trans (h2.mono hb.size)⟩
  have cS : ∀ W, Below W0.heap.size W0 W → Calls Tryd.prog 17 #[.agg #[.string x, .string d], .agg #[.string x, .string d]] W fun e w' => e = .returned (.bool true) ∧ Below W0.heap.size W0 w' := fun W hb => (sameA_any x d x d W).mono fun e w' ⟨h1, h2⟩ => ⟨by rw [h1, sameA_self], hb.trans (h2.mono hb.size)⟩
  have cL : ∀ W, Below W0.heap.size W0 W → Calls Tryd.prog 11 #[] W fun e w' => e = .returned (.bool true) ∧ Below W0.heap.size W0 w' := fun W hb => (live_any W ((hT.below hBW (Nat.le_refl _)).below hb (Nat.le_refl _))).mono fun e w' ⟨h1, h2⟩ => ⟨h1, hb.trans (h2.mono hb.size)⟩
  have fin : ∀ wx, Below W0.heap.size W0 wx → Below w.heap.size w wx := fun wx hb => hBW.trans (hb.mono hBW.size)
  have bd : Below W0.heap.size W0 W0.drew := (Below.refl _ W0).drew
  by_cases hxy : x.data.toList = y.data.toList
  · have e1 : (x.toList == y.toList) = true := by rw [Lib.toList_data, Lib.toList_data, beq_iff_eq]; exact hxy
    have cB : ∀ W, Below W0.heap.size W0 W → Calls Tryd.prog 17 #[.agg #[.string x, .string d], .agg #[.string y, .string f]] W fun e w' => e = .returned (.bool (low d.data.toList == low f.data.toList)) ∧ Below W0.heap.size W0 w' := fun W hb => (sameA_any x d y f W).mono fun e w' ⟨h1, h2⟩ => ⟨by rw [h1]; unfold sameA; rw [hxy]; simp, hb.trans (h2.mono hb.size)⟩
    clear hxy
    go_enter Tryd.func7, Tryd.ntmps7
    go_wp2_with fail
    rw [← hW]
    clear hW
    go_region_held3 (fun wx => Below W0.heap.size W0 wx ∧ wx.cell? ⟨w.heap.size, 0, none⟩ = some (.string x) ∧ wx.cell? ⟨w.heap.size, 1, none⟩ = some (.string d) ∧ wx.cell? ⟨w.heap.size + 1, 0, none⟩ = some (.string y) ∧ wx.cell? ⟨w.heap.size + 1, 1, none⟩ = some (.string f)) (first | exact ⟨by assumption, K _ (by assumption)⟩) (first
      | (go_at_call 16; ((with_reducible refine (cR _ _ (by assumption) (by assumption)).mono ?_); rintro e wn ⟨rfl, hBn⟩))
      | (go_at_call 11; ((with_reducible refine (cL _ (by assumption)).mono ?_); rintro e wn ⟨rfl, hBn⟩))
      | (go_at_call 17; ((with_reducible refine (cB _ (by assumption)).mono ?_); rintro e wn ⟨rfl, hBn⟩))
      | (go_at_call 17; ((with_reducible refine (cS _ (by assumption)).mono ?_); rintro e wn ⟨rfl, hBn⟩))
      | (go_at_call 18; ((with_reducible refine (cU _ (by assumption)).mono ?_); rintro e wn ⟨rfl, hBn⟩)))
    have bd2 := hBn.drew
    clear hBn bd
    go_wp2_with fail
    go_region_held3 (fun wx => Below W0.heap.size W0 wx ∧ wx.cell? ⟨w.heap.size, 0, none⟩ = some (.string x) ∧ wx.cell? ⟨w.heap.size, 1, none⟩ = some (.string d) ∧ wx.cell? ⟨w.heap.size + 1, 0, none⟩ = some (.string y) ∧ wx.cell? ⟨w.heap.size + 1, 1, none⟩ = some (.string f)) (first | exact ⟨by assumption, K _ (by assumption)⟩) (first
      | (go_at_call 16; ((with_reducible refine (cR _ _ (by assumption) (by assumption)).mono ?_); rintro e wn ⟨rfl, hBn⟩))
      | (go_at_call 11; ((with_reducible refine (cL _ (by assumption)).mono ?_); rintro e wn ⟨rfl, hBn⟩))
      | (go_at_call 17; ((with_reducible refine (cB _ (by assumption)).mono ?_); rintro e wn ⟨rfl, hBn⟩))
      | (go_at_call 17; ((with_reducible refine (cS _ (by assumption)).mono ?_); rintro e wn ⟨rfl, hBn⟩))
      | (go_at_call 18; ((with_reducible refine (cU _ (by assumption)).mono ?_); rintro e wn ⟨rfl, hBn⟩)))
    go_wp2
    go_ret
    exact ⟨ret_b (by simp), fin _ hBn⟩
  · have e1 : (x.toList == y.toList) = false := by rw [Lib.toList_data, Lib.toList_data, beq_eq_false_iff_ne]; exact hxy
    have cB : ∀ W, Below W0.heap.size W0 W → Calls Tryd.prog 17 #[.agg #[.string x, .string d], .agg #[.string y, .string f]] W fun e w' => e = .returned (.bool false) ∧ Below W0.heap.size W0 w' := fun W hb => (sameA_any x d y f W).mono fun e w' ⟨h1, h2⟩ => ⟨by rw [h1]; unfold sameA; rw [show (x.data.toList == y.data.toList) = false by rw [beq_eq_false_iff_ne]; exact hxy]; simp, hb.trans (h2.mono hb.size)⟩
    clear hxy
    go_enter Tryd.func7, Tryd.ntmps7
    go_wp2_with fail
    rw [← hW]
    clear hW
    obtain ⟨k0, k1, k2, k3⟩ := K W0 (Below.refl _ _)
    go_quiet (fail)
    clear k0 k1 k2 k3
    have bq := bel_draws (Below.refl W0.heap.size W0) nq
    generalize W0.drewN nq = wq at bq ⊢
    have bd2 := bq.drew
    clear bd bq
    go_wp2_with fail
    go_region_held3 (fun wx => Below W0.heap.size W0 wx ∧ wx.cell? ⟨w.heap.size, 0, none⟩ = some (.string x) ∧ wx.cell? ⟨w.heap.size, 1, none⟩ = some (.string d) ∧ wx.cell? ⟨w.heap.size + 1, 0, none⟩ = some (.string y) ∧ wx.cell? ⟨w.heap.size + 1, 1, none⟩ = some (.string f)) (first | exact ⟨by assumption, K _ (by assumption)⟩) (first
      | (go_at_call 16; ((with_reducible refine (cR _ _ (by assumption) (by assumption)).mono ?_); rintro e wn ⟨rfl, hBn⟩))
      | (go_at_call 11; ((with_reducible refine (cL _ (by assumption)).mono ?_); rintro e wn ⟨rfl, hBn⟩))
      | (go_at_call 17; ((with_reducible refine (cB _ (by assumption)).mono ?_); rintro e wn ⟨rfl, hBn⟩))
      | (go_at_call 17; ((with_reducible refine (cS _ (by assumption)).mono ?_); rintro e wn ⟨rfl, hBn⟩))
      | (go_at_call 18; ((with_reducible refine (cU _ (by assumption)).mono ?_); rintro e wn ⟨rfl, hBn⟩)))
    go_wp2
    go_ret
    exact ⟨ret_b (by simp), fin _ hBn⟩
end Go.Proofs.YtmolifgjghbfaaaDoor
