/- Box: what both Sets tell, and BoxSets. -/
import Derived.Test.YtpmakbjchepkmaaDoorCZ
import Derived.Deep.RegionHeld3
namespace Go.Proofs.YtpmakbjchepkmaaDoor
open Go Go.RowKit

theorem errE {s : ByteArray} {most : Int} (h0 : ¬ (most < 0 ∨ 4294967295 < most)) (he : (partsF s (s.size + 1) 0 []).2.2 = 0) (hl : (partsF s (s.size + 1) 0 []).1.length ≤ 32) : refE s most = errL most (partsF s (s.size + 1) 0 []).1 := by
  unfold refE errL
  rw [if_neg h0, if_neg (fun h => h he), if_neg (by omega)]
theorem refSet_any (w : World) (s : ByteArray) (most : Int) (hT : Tabs w) (hs : s.size ≤ 4294967296) :
    Calls Tryd.prog 6 #[.string s, .int .i64 most] w (SetT w (refE s most) (refL s most)) := by
  by_cases h0 : most < 0 ∨ 4294967295 < most
  · refine (refSet_arg w s most h0).mono fun e w' h => ?_
    have e0 : refE s most = (0, 2) := by unfold refE; rw [if_pos h0]
    unfold refL
    rw [e0, if_neg (by decide)]
    rw [e0] at h
    exact ⟨_, h.1, PrsN.nil _, h.2⟩
  · by_cases h1 : (partsF s (s.size + 1) 0 []).2.2 ≠ 0 ∨ 32 < (partsF s (s.size + 1) 0 []).1.length
    · refine (refSet_early w s most hT hs h0 h1).mono fun e w' h => ?_
      have e0 : (refE s most).2 ≠ 0 := by
        unfold refE
        rw [if_neg h0]
        by_cases h2 : (partsF s (s.size + 1) 0 []).2.2 = 0
        · rw [if_neg (fun h => h h2), if_pos (by rcases h1 with h | h; exact absurd h2 h; exact h)]; decide
        · rw [if_pos h2]; simp only; omega
      unfold refL
      rw [if_neg e0]
      exact ⟨_, h.1, PrsN.nil _, h.2⟩
    · have he : (partsF s (s.size + 1) 0 []).2.2 = 0 := by
        rcases Nat.eq_zero_or_pos (partsF s (s.size + 1) 0 []).2.2 with h | h
        · exact h
        · exact absurd (Or.inl (by omega)) h1
      have hl : (partsF s (s.size + 1) 0 []).1.length ≤ 32 := by
        rcases Nat.lt_or_ge 32 (partsF s (s.size + 1) 0 []).1.length with h | h
        · exact absurd (Or.inr h) h1
        · exact h
      refine (refSet_good w s most hT hs h0 he hl).mono fun e w' h => ?_
      rw [errE h0 he hl]
      unfold refL
      rw [errE h0 he hl]
      rcases h with ⟨hx, h⟩ | ⟨hx, h⟩
      · rw [hx, if_neg (by decide)]; exact h
      · rw [hx, if_pos rfl]; exact h
/-- The code's Set tells the same. -/
theorem codeSet_any (w : World) (s : ByteArray) (most : Int) (hs : s.size ≤ 2000000) :
    Calls Tryd.prog 5 #[.string s, .int .i64 most] w (SetT w (refE s most) (refL s most)) := by
  refine (set_any s most w hs).mono fun e w' h => ?_
  obtain ⟨hb, h1, h2⟩ := h
  have hse := (set_same s most).1
  rw [hse] at h1 h2
  by_cases h0 : (refE s most).2 = 0
  · obtain ⟨v, l', x, t, he, hl', hp, hs', hv⟩ := h2 h0
    subst hl'
    have hz : refE s most = (0, 0) ∧ (partsF s (s.size + 1) 0 []).2.2 = 0 := by
      unfold refE at h0 ⊢
      split at h0
      · cases h0
      · rename_i a1
        split at h0
        · simp only at h0; omega
        · rename_i a2
          rw [if_neg a1, if_neg a2]
          split at h0
          · cases h0
          · rename_i a3
            rw [if_neg a3]
            split at h0
            · cases h0
            · rename_i a4
              rw [if_neg a4]
              exact ⟨rfl, by omega⟩
    unfold refL
    rw [hz.1, if_pos rfl]
    have hr := set_ranges s most hz.2 hp hs'
    unfold mergesTo
    rw [List.take_length, ← hr]
    exact ⟨v, he, PrsN.of hv, hb⟩
  · unfold refL
    rw [if_neg h0]
    exact ⟨_, h1 h0, PrsN.nil _, hb⟩
theorem refL_len (s : ByteArray) (most : Int) (hs : s.size ≤ 2000000) : (refL s most).length ≤ 1000000 := by
  unfold refL
  split
  · rename_i h0
    have hz : ¬ (most < 0 ∨ 4294967295 < most) ∧ (partsF s (s.size + 1) 0 []).1.length ≤ 32 := by
      unfold refE at h0
      split at h0
      · cases h0
      · rename_i a1
        split at h0
        · simp only at h0; omega
        · split at h0
          · cases h0
          · rename_i a3
            exact ⟨a1, by omega⟩
    have hf := parts_fine s (s.size + 1) 0 [] (fun p hp => by cases hp)
    have := (merges_bd (most := most) ⟨by omega, by omega⟩ _ hf (partsF s (s.size + 1) 0 []).1.length).2
    omega
  · simp

set_option maxHeartbeats 8000000 in
set_option maxRecDepth 100000 in
theorem walk_sets (s : ByteArray) (most : Int) (w : World) (hT : Tabs w) (hM : Ml w) (hs : s.size ≤ 1048576) :
    Calls Tryd.prog 3 #[.string s, .int .i64 most] w fun e w' => e = .returned (.bool true) ∧ Below w.heap.size w w' := by
  have H1 := Lib.hid (codeSet_any w s most (by omega))
  have H2 := Lib.hid (fun W (hb : Below w.heap.size w W) => refSet_any W s most (hT.below hb (Nat.le_refl _)) (by omega))
  have H3 := Lib.hid (fun W (hb : Below w.heap.size w W) => live_any W (hM.below hb))
  have HL := Lib.hid (refL_len s most (by omega))
  obtain ⟨X, hX⟩ : ∃ X, refE s most = X := ⟨_, rfl⟩
  obtain ⟨l, hl⟩ : ∃ l, refL s most = l := ⟨_, rfl⟩
  rw [hX, hl] at H1 H2
  rw [hl] at HL
  clear hX hl hT hM
  obtain ⟨x, y⟩ := X
  go_enter Tryd.func3, Tryd.ntmps3
  go_wp2_with fail
  refine H1.out.mono ?_
  rintro e w1 ⟨u, rfl, hu, b1⟩
  have HU := Lib.hid hu
  have B1 := Lib.hid b1
  have HR := Lib.hid (H2.out w1 b1)
  clear hu b1 H1 H2
  go_wp2_with fail
  refine HR.out.mono ?_
  rintro e w2 ⟨v, rfl, hv, b2⟩
  have HU2 := Lib.hid (HU.out.below b2)
  have HV := Lib.hid hv
  have B2 := Lib.hid (B1.out.trans (b2.mono B1.out.size))
  have HLV := Lib.hid (H3.out w2 B2.out)
  clear hv b2 HU B1 HR H3
  go_wp2_with fail
  refine HLV.out.mono ?_
  rintro e w3 ⟨rfl, b3⟩
  have HS := Lib.hid (sameP_any w3 u v l (HU2.out.below b3) (HV.out.below b3) HL.out)
  have B3 := Lib.hid (B2.out.trans (b3.mono B2.out.size))
  clear b3 HLV
  go_wp2_with fail
  refine HS.out.mono ?_
  rintro e w4 ⟨rfl, b4⟩
  have B4 := Lib.hid (B3.out.trans (b4.mono B3.out.size))
  clear b4 HS
  go_wp2
  go_ret
  exact ⟨ret_bool (by simp), B4.out⟩
end Go.Proofs.YtpmakbjchepkmaaDoor
