/- The reference's Print. -/
import Derived.Test.YtmolifgjghbfaaaDoorP4
import Derived.Deep.RegionHeld3
namespace Go.Proofs.YtmolifgjghbfaaaDoor
open Go.RowKit

theorem all_step (x : ByteArray) (k : Nat) (h : k < x.size) : ((x.data.toList.drop k).all fun b => printR b.toNat) = (printR (x[k]'h).toNat && ((x.data.toList.drop (k + 1)).all fun b => printR b.toNat)) := by
  rw [list_at x k h, List.all_cons]
theorem loc_start (x : ByteArray) : (decide (0 < x.size) && ((x.data.toList.drop 0).all fun b => printR b.toNat)) = locF x.data.toList := by
  unfold locF
  rw [List.drop_zero]
  congr 1
  rw [Lib.size_eq]
  cases x.data.toList <;> simp

set_option maxHeartbeats 4000000 in
set_option maxRecDepth 100000 in
theorem refPrint (x d : ByteArray) (w : World) (hT : Tabs w) (hx : x.size ≤ 1048576) (hd : d.size ≤ 1048576) :
    Calls Tryd.prog 13 #[.agg #[.string x, .string d]] w fun e w' => e = .returned (res2 (printF x.data.toList d.data.toList)) ∧ Below w.heap.size w w' := by
  generalize hF : printF x.data.toList d.data.toList = F
  unfold printF at hF
  generalize hLF : locF x.data.toList = LF at hF
  have hst := loc_start x
  rw [hLF] at hst
  have HST := Lib.hid hst
  have HF := Lib.hid hF
  have hW : ∃ W0 : World, W0 = w.alloc (.cells #[.string x, .string d] 23) := ⟨_, rfl⟩
  obtain ⟨W0, hW⟩ := hW
  have hBW : Below w.heap.size w W0 := by rw [hW]; exact (Below.refl _ w).alloc (Nat.le_refl _) _
  have hzW : W0.heap.size = w.heap.size + 1 := by rw [hW]; simp
  have ta : Two W0 w.heap.size (.string x) (.string d) := by rw [hW]; exact Two.new w _ _ _
  have HW := Lib.hid hW
  obtain ⟨c0, c1, f0, f1⟩ := id ta
  clear hF hLF hst hW
  go_enter Tryd.func13, Tryd.ntmps13
  go_wp2_with fail
  rw [← HW.out]
  go_wp2_with fail
  go_loop [4, 5] (fun pv iv => ∃ (k : Nat) (pb : Bool), iv = .int .i64 k ∧ k ≤ x.size ∧ pv = .bool pb ∧ (pb && ((x.data.toList.drop k).all fun b => printR b.toNat)) = LF) (fun _ iv => x.size - (intOf iv).toNat)
  case atStart => exact ⟨0, _, rfl, Nat.zero_le _, rfl, HST.out⟩
  case round =>
    obtain ⟨k, pb, rfl, hk, rfl, hgo⟩ := hrel
    by_cases hlt : k < x.size
    · rw [all_step x k hlt] at hgo
      unfold printR at hgo
      cases pb with
      | false =>
        have HG := Lib.hid hgo
        clear hgo
        go_wp2
        go_round
        case rel => exact ⟨k + 1, false, by go_num, by omega, rfl, by have := HG.out; simpa using this⟩
        case measure => simp [intOf]; omega
      | true =>
        by_cases h1 : 32 ≤ (x[k]'hlt).toNat
        · by_cases h2 : (x[k]'hlt).toNat ≤ 126
          · rw [decide_eq_true h1, decide_eq_true h2] at hgo
            have HG := Lib.hid hgo
            clear hgo
            go_wp2
            go_round
            case rel => exact ⟨k + 1, true, by go_num, by omega, by simp; omega, by have := HG.out; simpa [printR] using this⟩
            case measure => simp [intOf]; omega
          · rw [decide_eq_true h1, decide_eq_false h2] at hgo
            have HG := Lib.hid hgo
            clear hgo
            go_wp2
            go_round
            case rel => exact ⟨k + 1, false, by go_num, by omega, by simp; omega, by have := HG.out; simpa using this⟩
            case measure => simp [intOf]; omega
        · rw [decide_eq_false h1] at hgo
          have HG := Lib.hid hgo
          clear hgo
          go_wp2
          go_round
          case rel => exact ⟨k + 1, false, by go_num, by omega, by simp, by have := HG.out; simpa using this⟩
          case measure => simp [intOf]; omega
    · have hdn : x.data.toList.drop k = [] := List.drop_eq_nil_of_le (by rw [← Lib.size_eq]; omega)
      rw [hdn, List.all_nil, Bool.and_true] at hgo
      subst hgo
      clear hdn
      go_wp2_with fail
      refine (letters_any d _ (hT.below hBW (Nat.le_refl _)) (by omega)).mono ?_
      rintro e w2 ⟨v, rfl, hown, hb⟩
      have B2 := hBW.trans (hb.mono hBW.size)
      have t2 := ta.below hb (by omega)
      obtain ⟨d0, d1, g0, g1⟩ := id t2
      rw [letV_length] at hown
      have hn := lets_len0 d
      generalize hL : (lets d 0).length = n at *
      have HL := Lib.hid hL
      obtain ⟨va, cap, rfl⟩ := own_shape hown
      have HOWN := Lib.hid hown
      have hz2 := hb.size
      clear hown hL hb
      cases pb with
      | false =>
        have hF := HF.out
        rw [if_pos rfl] at hF
        have HG := Lib.hid hF
        clear hF
        go_wp2_with fail
        go_quiet (fail)
        go_wp2
        go_ret2
        exact ⟨ret_res2s (by rw [← HG.out]) (by rw [← HG.out]), bel_draws B2 _⟩
      | true =>
        have hF := HF.out
        rw [if_neg (by simp)] at hF
        by_cases hd0 : d.size = 0
        · have hdl : d.data.toList = [] := List.eq_nil_of_length_eq_zero (by rw [← Lib.size_eq]; exact hd0)
          have hdf : domF d.data.toList = false := by rw [hdl]; rfl
          rw [if_pos hdf] at hF
          have HG := Lib.hid hF
          have hn0 : ((n : Int) == 0) = true := by rw [beq_iff_eq]; omega
          clear hF hdl hdf hd0
          go_wp2_with fail
          go_quiet (fail)
          go_wp2
          go_ret2
          exact ⟨ret_res2s (by rw [← HG.out]) (by rw [← HG.out]), bel_draws B2 _⟩
        have hnpos : 0 < n := by have := (run_next d 0 (run_zero d) (by omega)).1; rw [HL.out] at this; exact this
        have hn0 : ((n : Int) == 0) = false := by rw [beq_eq_false_iff_ne]; omega
        obtain ⟨g, cap', hv, hg, hcells⟩ := own_cells HOWN.out hnpos
        injection hv with hva hvn hvc
        subst hva hvc
        have hcc : Cells d w2 g := fun i hi => hcells i (by rw [HL.out] at hi; exact hi)
        have hgw := hg
        have cD : ∀ W, Below w2.heap.size w2 W → Calls Tryd.prog 23 #[.slice (some ⟨g, 0, none⟩) n cap, .int .i64 0] W fun e w' => e = .returned (.int .i64 (domRes d 0)) ∧ W = w' := by
          intro W hb
          have := refDomain d g cap 0 W (by omega) (hcc.below hb hg) (run_zero d)
          rw [HL.out] at this; exact this
        have hdz := dom_zero d (by rw [HL.out]; exact hnpos)
        rw [HL.out] at hdz
        unfold domF at hF
        by_cases h7 : (readF d.data.toList 6 0 0).1 = 7
        · rw [decide_eq_true h7, Bool.true_and] at hF
          have hde := hdz.2 h7
          rw [hde] at cD
          have K : ∀ wx, Below w2.heap.size w2 wx → wx.cell? ⟨w.heap.size, 0, none⟩ = some (.string x) ∧ wx.cell? ⟨w.heap.size, 1, none⟩ = some (.string d) := fun wx hb => by
            have h1 := t2.below hb (by omega)
            exact ⟨h1.1, h1.2.1⟩
          have cR : ∀ W, Below w2.heap.size w2 W → Calls Tryd.prog 16 #[.string d] W fun e w' => e = .returned (.string ⟨(low d.data.toList).toArray⟩) ∧ Below w2.heap.size w2 w' := fun W hb => (refLower d W (by omega)).mono fun e w' ⟨h1, h2⟩ => ⟨h1, hb.trans (h2.mono hb.size)⟩
          have bd : Below w2.heap.size w2 w2.drew := (Below.refl _ w2).drew
          have K2 := Lib.hid K
          clear h7 hdz hde hcc hcells hvn d0 d1 g0 g1
          by_cases hlw : low d.data.toList = d.data.toList
          · have el : ((⟨(low d.data.toList).toArray⟩ : ByteArray).toList == d.toList) = true := by rw [Lib.toList_data, Lib.toList_data, beq_iff_eq]; exact hlw
            rw [if_neg (by rw [hlw]; simp)] at hF
            rw [hlw, Lib.mk_data] at cR
            clear hlw el
            go_wp2_with fail
            go_region_held3 (fun wx => Below w2.heap.size w2 wx ∧ wx.cell? ⟨w.heap.size, 0, none⟩ = some (.string x) ∧ wx.cell? ⟨w.heap.size, 1, none⟩ = some (.string d)) (first | exact ⟨by assumption, K _ (by assumption)⟩) (first
            | (go_at_call 23; ((with_reducible refine (cD _ (by assumption)).mono ?_); rintro e wn ⟨rfl, rfl⟩))
            | (go_at_call 16; ((with_reducible refine (cR _ (by assumption)).mono ?_); rintro e wn ⟨rfl, hBn⟩)))
            have Bn := B2.trans (hBn.mono (by have := B2.size; omega))
            obtain ⟨e0, e1, h0, h1⟩ := t2.below hBn (by omega)
            clear K bd cD cR
            by_cases hlim : 64 < x.size ∨ 255 < d.size
            · rw [← Lib.size_eq, ← Lib.size_eq, if_pos hlim] at hF
              have HG := Lib.hid hF
              have hlc : 64 < x.size ∨ (¬ 64 < x.size ∧ 255 < d.size) := by omega
              clear hF hlim
              rcases hlc with l1 | ⟨l1, l2⟩
              · go_wp2
                go_ret2
                exact ⟨ret_res2s (by rw [← HG.out]) (by rw [← HG.out]), Bn⟩
              · go_wp2
                go_ret2
                exact ⟨ret_res2s (by rw [← HG.out]) (by rw [← HG.out]), Bn⟩
            · rw [← Lib.size_eq, ← Lib.size_eq, if_neg hlim] at hF
              have l1 : ¬ 64 < x.size := by omega
              have l2 : ¬ 255 < d.size := by omega
              have hTl : (x ++ ⟨#[64, 97]⟩ : ByteArray).data.toList = x.data.toList ++ [64, 97] := by simp
              have hTe : (⟨(x.data.toList ++ [64, 97]).toArray⟩ : ByteArray) = x ++ ⟨#[64, 97]⟩ := by rw [← hTl, Lib.mk_data]
              have hTz : (x ++ ⟨#[64, 97]⟩ : ByteArray).size ≤ 1000 := by rw [Lib.size_eq, hTl, List.length_append, ← Lib.size_eq]; simp; omega
              have hstands := stands x.data.toList (by rw [← Lib.size_eq]; omega)
              rw [hTe] at hstands
              have hR := refParse (x ++ ⟨#[64, 97]⟩) wn (hT.below Bn (Nat.le_refl _)) (by omega)
              unfold resA at hR
              generalize parseF (x ++ ⟨#[64, 97]⟩) = G at *
              clear hTl hTe hTz hlim
              unfold outF at hF
              rw [Lib.mk_data] at hF
              by_cases h1w : (readF x.data.toList 0 0 0).1 = 1
              · rw [if_pos h1w] at hF
                obtain ⟨s1, s2⟩ := hstands.2 h1w
                rw [s1, s2, Lib.mk_data] at hR
                have HG := Lib.hid hF
                clear hF h1w hstands s1 s2
                go_wp2_with fail
                refine hR.mono ?_
                rintro e wp ⟨rfl, hbp⟩
                have tp := (Two.below ⟨e0, e1, h0, h1⟩ hbp (by have := hBn.size; omega)).alloc (by have := hBn.size; have := hbp.size; omega) (.cells #[.string x, .string ⟨G.2.1.toArray⟩] 23)
                obtain ⟨m0, m1, n0', n1'⟩ := tp
                have Bp := (Bn.trans (hbp.mono Bn.size)).alloc (Bn.trans (hbp.mono Bn.size)).size (.cells #[.string x, .string ⟨G.2.1.toArray⟩] 23)
                go_wp2
                go_ret2
                exact ⟨ret_res2s (by rw [← HG.out]; simp) (by rw [← HG.out]), Bp⟩
              · rw [if_neg h1w] at hF
                have hql : (quoteF x).1.length ≤ 1000000 := quote_len x (by omega)
                have hQ := fun W hT => refQuote x W hT
                unfold res3 at hQ
                generalize (quoteF x).1 = q at *
                generalize (quoteF x).2.1 = q1 at *
                generalize (quoteF x).2.2 = q2 at *
                have hqs : (⟨q.toArray⟩ : ByteArray).size ≤ 1000000 := by simp [ByteArray.size]; exact hql
                have hGb : ((G.2.2.2 : Int) == 0) = false ∨ (((G.2.2.2 : Int) == 0) = true ∧ ((⟨G.1.toArray⟩ : ByteArray).toList == x.toList) = false ∧ (G.1 == x.toList) = false) := by
                  by_cases hz : G.2.2.2 = 0
                  · have hne : G.1 ≠ x.toList := by
                      rw [Lib.toList_data]
                      intro h
                      exact h1w (hstands.1 ⟨hz, h⟩)
                    refine Or.inr ⟨by rw [hz]; rfl, ?_, by rw [beq_eq_false_iff_ne]; exact hne⟩
                    rw [Lib.toList_data ⟨G.1.toArray⟩, beq_eq_false_iff_ne]
                    exact hne
                  · exact Or.inl (by rw [beq_eq_false_iff_ne]; omega)
                have HG := Lib.hid hF
                clear hF h1w hstands
                rcases hGb with k0 | ⟨k0, k1, k2⟩
                all_goals
                  go_wp2_with fail
                  refine hR.mono ?_
                  rintro e wp ⟨rfl, hbp⟩
                  have tp := (Two.below ⟨e0, e1, h0, h1⟩ hbp (by have := hBn.size; omega)).alloc (by have := hBn.size; have := hbp.size; omega) (.cells #[.string ⟨G.1.toArray⟩, .string ⟨G.2.1.toArray⟩] 23)
                  obtain ⟨m0, m1, n0', n1'⟩ := id tp
                  have Bp := (Bn.trans (hbp.mono Bn.size)).alloc (Bn.trans (hbp.mono Bn.size)).size (.cells #[.string ⟨G.1.toArray⟩, .string ⟨G.2.1.toArray⟩] 23)
                  have hzp := hbp.size
                  have hzn := hBn.size
                  go_wp2_with fail
                  refine (hQ _ (hT.below Bp (Nat.le_refl _))).mono ?_
                  rintro e wq ⟨rfl, hbq⟩
                  obtain ⟨k0', k1', l0', l1'⟩ := tp.below hbq (by simp; omega)
                  go_wp2
                  go_ret2
                  exact ⟨ret_res2s (by rw [← HG.out]; simp) (by rw [← HG.out]), Bp.trans (hbq.mono Bp.size)⟩
          · have el : ((⟨(low d.data.toList).toArray⟩ : ByteArray).toList == d.toList) = false := by rw [Lib.toList_data, Lib.toList_data, beq_eq_false_iff_ne]; exact hlw
            have el2 : (low d.data.toList == d.toList) = false := by rw [Lib.toList_data, beq_eq_false_iff_ne]; exact hlw
            rw [if_pos (by rw [beq_eq_false_iff_ne]; exact hlw)] at hF
            have HG := Lib.hid hF
            clear hlw hF
            go_wp2_with fail
            go_region_held3 (fun wx => Below w2.heap.size w2 wx ∧ wx.cell? ⟨w.heap.size, 0, none⟩ = some (.string x) ∧ wx.cell? ⟨w.heap.size, 1, none⟩ = some (.string d)) (first | exact ⟨by assumption, K _ (by assumption)⟩) (first
              | (go_at_call 23; ((with_reducible refine (cD _ (by assumption)).mono ?_); rintro e wn ⟨rfl, rfl⟩))
              | (go_at_call 16; ((with_reducible refine (cR _ (by assumption)).mono ?_); rintro e wn ⟨rfl, hBn⟩)))
            have Bn := B2.trans (hBn.mono (by have := B2.size; omega))
            go_wp2
            go_ret2
            exact ⟨ret_res2s (by rw [← HG.out]) (by rw [← HG.out]), Bn⟩
        · have hne : (domRes d 0 != (n : Int)) = true := by rw [bne_iff_ne]; intro h; exact h7 (hdz.1 h)
          rw [if_pos (by rw [decide_eq_false h7]; rfl)] at hF
          have HG := Lib.hid hF
          generalize domRes d 0 = dr at *
          have cD2 : ∀ m, Calls Tryd.prog 23 #[.slice (some ⟨g, 0, none⟩) n cap, .int .i64 0] (w2.drewN m) fun e w' => e = .returned (.int .i64 dr) ∧ w' = w2.drewN m := fun m => (cD _ (bel_draws (Below.refl _ _) m)).mono fun e w' ⟨h1, h2⟩ => ⟨h1, h2.symm⟩
          clear hF h7 hdz hcc hcells cD hvn
          go_wp2_with fail
          go_quiet ((go_at_call 23; exact Calls.quiet_of_same (cD2 _)))
          go_wp2
          go_ret2
          exact ⟨ret_res2s (by rw [← HG.out]) (by rw [← HG.out]), bel_draws B2 _⟩
end Go.Proofs.YtmolifgjghbfaaaDoor
