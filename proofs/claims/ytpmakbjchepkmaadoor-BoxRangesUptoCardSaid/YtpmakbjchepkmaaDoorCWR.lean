/- Box: BoxRanges walked. -/
import Derived.Test.YtpmakbjchepkmaaDoorCI
namespace Go.Proofs.YtpmakbjchepkmaaDoor
open Go Go.RowKit

set_option maxHeartbeats 8000000 in
set_option maxRecDepth 100000 in
theorem ranges_bad (s : ByteArray) (most n : Int) (w : World) (hM : Ml w) (hs : s.size ≤ 1048576) (h0 : (refE s most).2 ≠ 0) :
    Calls Tryd.prog 4 #[.string s, .int .i64 most, .int .i64 n] w fun e w' => e = .returned (.bool true) ∧ Below w.heap.size w w' := by
  have H1 := Lib.hid (codeSet_any w s most (by omega))
  have H3 := Lib.hid (fun W (hb : Below w.heap.size w W) => live_any W (hM.below hb))
  have hl : refL s most = [] := by unfold refL; rw [if_neg h0]
  rw [hl] at H1
  obtain ⟨X, hX⟩ : ∃ X, refE s most = X := ⟨_, rfl⟩
  rw [hX] at H1 h0
  obtain ⟨x, y⟩ := X
  have hy : (y != 0) = true := by simpa using h0
  clear hX hM hl h0
  go_enter Tryd.func4, Tryd.ntmps4
  go_wp2_with fail
  refine H1.out.mono ?_
  rintro e w1 ⟨u, rfl, hu, b1⟩
  have HU := Lib.hid hu
  have B1 := Lib.hid b1
  obtain ⟨ua, uc, rfl, _⟩ := hu
  have HLV := Lib.hid (H3.out w1 b1)
  clear b1 H1 H3
  go_wp2_with fail
  refine HLV.out.mono ?_
  rintro e w2 ⟨rfl, b2⟩
  have HI := Lib.hid (in_any n _ [] w2 (HU.out.below b2) (by simp))
  have B2 := Lib.hid (B1.out.trans (b2.mono B1.out.size))
  clear b2 HLV
  go_wp2_with fail
  refine HI.out.mono ?_
  rintro e w3 ⟨rfl, b3⟩
  have B3 := Lib.hid (B2.out.trans (b3.mono B2.out.size))
  clear b3 HI
  go_wp2
  go_ret
  exact ⟨ret_bool (by simp), B3.out⟩

set_option maxHeartbeats 16000000 in
set_option maxRecDepth 100000 in
theorem ranges_good (s : ByteArray) (most n : Int) (w : World) (hT : Tabs w) (hM : Ml w) (hs : s.size ≤ 1048576) (h0 : (refE s most).2 = 0) :
    Calls Tryd.prog 4 #[.string s, .int .i64 most, .int .i64 n] w fun e w' => e = .returned (.bool true) ∧ Below w.heap.size w w' := by
  obtain ⟨hE, hm, L, hP, hL32, hG, hnz⟩ := ref_ok h0
  have hposy := (parts_all (s := s) (s.size + 1) 0 [] hP (by omega) (by omega) (fun p hp => by cases hp)).1
  have hright := ranges_right (most := most) L (fun p hp => map_pos hm (hposy p hp) (hnz p hp))
  have hfine := parts_fine s (s.size + 1) 0 [] (fun p hp => by cases hp)
  rw [hP] at hfine
  have hbd := merges_bd (most := most) ⟨by omega, by omega⟩ L hfine L.length
  have H1 := Lib.hid (codeSet_any w s most (by omega))
  have H2 := Lib.hid (fun (t : ByteArray) W (hb : Below w.heap.size w W) (ht : t.size ≤ 1048576) => refSet_any W t most (hT.below hb (Nat.le_refl _)) (by omega))
  have H3 := Lib.hid (fun W (hb : Below w.heap.size w W) => live_any W (hM.below hb))
  rw [hE, hG] at H1
  obtain ⟨hg1, hg2, hg3⟩ := hright
  generalize mergesTo most L L.length = G at *
  have HG1 := Lib.hid hg1
  have HG2 := Lib.hid hg2
  have HG3 := Lib.hid (hg3 n)
  have HBD := Lib.hid hbd.1
  have hGl : G.length ≤ 32 := by have := hbd.2; omega
  have HRUN : Hid (RunR s L most n 0 0 false) := Lib.hid (RunR.mk hP (by omega) (by omega) rfl)
  have HNZ := Lib.hid hnz
  have HM := Lib.hid hm
  clear hM hT hE hm hP hL32 hG hnz hposy hfine hbd hg1 hg2 hg3 h0
  go_enter Tryd.func4, Tryd.ntmps4
  go_wp2_with fail
  refine H1.out.mono ?_
  rintro e w1 ⟨u, rfl, hu, b1⟩
  have HU := Lib.hid hu
  have B1 := Lib.hid b1
  obtain ⟨ua, uc, rfl, _⟩ := hu
  clear b1 H1
  simp only
  go_wp2_with fail
  go_loopw [10] (fun iv wr => ∃ k : Nat, k ≤ G.length ∧ iv = .int .i64 (k : Int) ∧ Hid (Below w1.heap.size w1 wr)) (fun iv _ => G.length - (intOf iv).toNat)
  case atStart => exact ⟨0, Nat.zero_le _, rfl, Lib.hid (Below.refl _ _)⟩
  case round =>
    obtain ⟨k, hk, rfl, hB⟩ := hrel
    by_cases hlt : k < G.length
    · obtain ⟨⟨x, y⟩, hp⟩ : ∃ p, G[k]? = some p := ⟨_, List.getElem?_eq_getElem hlt⟩
      obtain ⟨_, _, e1, h1⟩ := HU.out.below hB.out
      cases e1
      obtain ⟨g, rfl, hgz, d0, d1⟩ := h1 k _ hp
      have hxy : x ≤ y := HG1.out.1 _ (List.mem_of_getElem? hp)
      have hx1 : 1 ≤ x := HG2.out _ (List.mem_of_getElem? hp)
      have q1 : decide (y < x) = false := decide_eq_false (by omega)
      have q2 : decide (x < 1) = false := decide_eq_false (by omega)
      simp only at d0 d1
      have hlt' : (k : Int) < (G.length : Int) := by omega
      cases k with
      | zero =>
        have hlt0 : 0 < (G.length : Int) := by omega
        have hlt00 : 0 < G.length := hlt
        clear h1 hp
        go_wp2_with fail
        go_quiet (fail)
        have HB2 := Lib.hid (hB.out.trans (bdrew _ wr nq))
        clear hB d0 d1 q1 q2
        go_wp2_with fail
        go_roundw
        case rel => exact ⟨1, by omega, by go_num, HB2⟩
        case measure => simp [intOf]; omega
      | succ m =>
        obtain ⟨⟨x0, y0⟩, hp0⟩ : ∃ p, G[m]? = some p := ⟨_, List.getElem?_eq_getElem (by omega)⟩
        obtain ⟨g', e2, _, _, c1⟩ := h1 m _ hp0
        cases e2
        have hgap : y0 + 1 < x := gaps_at HG1.out hp0 hp
        have hby : (0 ≤ y0 ∧ y0 ≤ 4294967295) := (HBD.out _ (List.mem_of_getElem? hp0)).2
        have q3 : decide (x ≤ y0 + 1) = false := decide_eq_false (by omega)
        have q4 : IntKind.i64.wrap (y0 + 1) = y0 + 1 := IntWalk.i64_in _ (by omega)
        have q5 : IntKind.i64.wrap ((m : Int) + 1 - 1) = (m : Int) := by rw [show (m : Int) + 1 - 1 = (m : Int) by omega]; exact IntWalk.i64_in _ (by omega)
        have q6 : decide ((0 : Int) < (m : Int) + 1) = true := decide_eq_true (by omega)
        simp only at c1
        clear h1 hp hp0
        go_wp2_with fail
        go_quiet (fail)
        have HB2 := Lib.hid (hB.out.trans (bdrew _ wr nq))
        clear hB d0 d1 c1 q1 q2 q3 q4 q5 q6
        go_wp2_with fail
        go_roundw
        case rel => exact ⟨m + 1 + 1, by omega, by go_num, HB2⟩
        case measure => simp [intOf]; omega
    · have hkG : k = G.length := by omega
      subst hkG
      have BR := Lib.hid (B1.out.trans (hB.out.mono B1.out.size))
      have HUR := Lib.hid (HU.out.below hB.out)
      clear hB
      go_wp2_with fail
      obtain ⟨wo, rfl⟩ : ∃ wo : World, wo = wr := ⟨_, rfl⟩
      go_loopw [11, 12, 13] (fun sv fv iv wr => ∃ (i frm : Nat) (is : Bool), sv = .bool is ∧ fv = .int .i64 (frm : Int) ∧ iv = .int .i64 (i : Int) ∧ Hid (RunR s L most n i frm is ∧ Below wo.heap.size wo wr)) (fun _ _ iv _ => s.size + 1 - (intOf iv).toNat)
      case atStart => exact ⟨0, 0, false, rfl, rfl, rfl, Lib.hid ⟨HRUN.out, Below.refl _ _⟩⟩
      case round =>
        obtain ⟨i, frm, is, rfl, rfl, rfl, hH⟩ := hrel
        by_cases hi : i ≤ s.size
        · have hi' : (i : Int) ≤ (s.size : Int) := by omega
          rcases hH.out.1.step hi HM.out HNZ.out with ⟨hlt2, h44, hr⟩ | ⟨hfi, h44, p, hr1, hr2, hr3⟩
          · have HR := Lib.hid hr
            have hne : ((s[i]'hlt2).toNat : Int) ≠ 44 := by
              intro e
              refine absurd h44 ?_
              rw [Bool.not_eq_false]
              refine decide_eq_true ⟨hlt2, ?_⟩
              apply UInt8.toNat.inj
              have : (s[i]'hlt2).toNat = 44 := by omega
              rw [this]; rfl
            have e44 : (((s[i]'hlt2).toNat : Int) != 44) = true := by rw [bne_iff_ne]; exact hne
            have hlt2' : (i : Int) < (s.size : Int) := by omega
            have HB := Lib.hid hH.out.2
            clear hr hne h44 hH
            go_wp2
            go_roundw
            case rel => exact ⟨i + 1, frm, is, rfl, rfl, by go_num, Lib.hid ⟨HR.out, HB.out⟩⟩
            case measure => simp [intOf]; omega
          · have hfi' : (frm : Int) ≤ (i : Int) := by omega
            by_cases hlt2 : i < s.size
            · obtain ⟨_, hcc⟩ := isAt_lt (h44 hlt2)
              have e44 : (((s[i]'hlt2).toNat : Int) != 44) = false := by rw [hcc]; decide
              have hlt2' : (i : Int) < (s.size : Int) := by omega
              clear hcc h44
              have HR := Lib.hid (H2.out (s.extract frm i) wr (BR.out.trans (hH.out.2.mono BR.out.size)) (by rw [ByteArray.size_extract]; omega))
              rw [hr1, hr2] at HR
              have HN := Lib.hid hr3
              have HB := Lib.hid hH.out.2
              clear hr1 hr2 hr3 hH
              go_wp2_with fail
              refine HR.out.mono ?_
              rintro e w5 ⟨v, rfl, hv, b5⟩
              obtain ⟨va, vc, rfl, hcell⟩ := hv
              obtain ⟨g5, rfl, _, c0, c1⟩ := hcell 0 p rfl
              have HB5 := Lib.hid (HB.out.trans (b5.mono HB.out.size))
              clear b5 hcell HR
              obtain ⟨px, py⟩ := p
              simp only [Nat.zero_mul, Nat.zero_add] at c0 c1
              rw [show ([(px, py)] : List Rg).length = 1 from rfl]
              have hsp : is = true ∨ (is = false ∧ ¬ px ≤ n) ∨ (is = false ∧ px ≤ n ∧ n ≤ py) ∨ (is = false ∧ px ≤ n ∧ ¬ n ≤ py) := by
                cases is
                · right; rcases Decidable.em (px ≤ n) with h | h
                  · rcases Decidable.em (n ≤ py) with h' | h'
                    · exact Or.inr (Or.inl ⟨rfl, h, h'⟩)
                    · exact Or.inr (Or.inr ⟨rfl, h, h'⟩)
                  · exact Or.inl ⟨rfl, h⟩
                · exact Or.inl rfl
              rcases hsp with rfl | ⟨rfl, h⟩ | ⟨rfl, h, h'⟩ | ⟨rfl, h, h'⟩
              · have HN2 : Hid (RunR s L most n (i + 1) (i + 1) true) := Lib.hid (by have := HN.out; rwa [Bool.true_or] at this)
                clear HN c0 c1
                go_wp2
                go_roundw
                case rel => exact ⟨i + 1, i + 1, true, rfl, by go_num, by go_num, Lib.hid ⟨HN2.out, HB5.out⟩⟩
                case measure => simp [intOf]; omega
              · have HN2 : Hid (RunR s L most n (i + 1) (i + 1) false) := Lib.hid (by have := HN.out; unfold inB at this; rwa [decide_eq_false (show ¬ (px, py).1 ≤ n from h), Bool.false_and, Bool.or_false] at this)
                clear HN c1
                go_wp2
                go_roundw
                case rel => exact ⟨i + 1, i + 1, false, rfl, by go_num, by go_num, Lib.hid ⟨HN2.out, HB5.out⟩⟩
                case measure => simp [intOf]; omega
              · have HN2 : Hid (RunR s L most n (i + 1) (i + 1) true) := Lib.hid (by have := HN.out; unfold inB at this; rwa [decide_eq_true (show (px, py).1 ≤ n from h), decide_eq_true (show n ≤ (px, py).2 from h')] at this)
                clear HN
                go_wp2
                go_roundw
                case rel => exact ⟨i + 1, i + 1, true, rfl, by go_num, by go_num, Lib.hid ⟨HN2.out, HB5.out⟩⟩
                case measure => simp [intOf]; omega
              · have HN2 : Hid (RunR s L most n (i + 1) (i + 1) false) := Lib.hid (by have := HN.out; unfold inB at this; rwa [decide_eq_true (show (px, py).1 ≤ n from h), decide_eq_false (show ¬ n ≤ (px, py).2 from h')] at this)
                clear HN
                go_wp2
                go_roundw
                case rel => exact ⟨i + 1, i + 1, false, congrArg Value.bool (decide_eq_false (by omega)), by go_num, by go_num, Lib.hid ⟨HN2.out, HB5.out⟩⟩
                case measure => simp [intOf]; omega
            · have hlt2' : ¬ (i : Int) < (s.size : Int) := by omega
              clear h44
              have HR := Lib.hid (H2.out (s.extract frm i) wr (BR.out.trans (hH.out.2.mono BR.out.size)) (by rw [ByteArray.size_extract]; omega))
              rw [hr1, hr2] at HR
              have HN := Lib.hid hr3
              have HB := Lib.hid hH.out.2
              clear hr1 hr2 hr3 hH
              go_wp2_with fail
              refine HR.out.mono ?_
              rintro e w5 ⟨v, rfl, hv, b5⟩
              obtain ⟨va, vc, rfl, hcell⟩ := hv
              obtain ⟨g5, rfl, _, c0, c1⟩ := hcell 0 p rfl
              have HB5 := Lib.hid (HB.out.trans (b5.mono HB.out.size))
              clear b5 hcell HR
              obtain ⟨px, py⟩ := p
              simp only [Nat.zero_mul, Nat.zero_add] at c0 c1
              rw [show ([(px, py)] : List Rg).length = 1 from rfl]
              have hsp : is = true ∨ (is = false ∧ ¬ px ≤ n) ∨ (is = false ∧ px ≤ n ∧ n ≤ py) ∨ (is = false ∧ px ≤ n ∧ ¬ n ≤ py) := by
                cases is
                · right; rcases Decidable.em (px ≤ n) with h | h
                  · rcases Decidable.em (n ≤ py) with h' | h'
                    · exact Or.inr (Or.inl ⟨rfl, h, h'⟩)
                    · exact Or.inr (Or.inr ⟨rfl, h, h'⟩)
                  · exact Or.inl ⟨rfl, h⟩
                · exact Or.inl rfl
              rcases hsp with rfl | ⟨rfl, h⟩ | ⟨rfl, h, h'⟩ | ⟨rfl, h, h'⟩
              · have HN2 : Hid (RunR s L most n (i + 1) (i + 1) true) := Lib.hid (by have := HN.out; rwa [Bool.true_or] at this)
                clear HN c0 c1
                go_wp2
                go_roundw
                case rel => exact ⟨i + 1, i + 1, true, rfl, by go_num, by go_num, Lib.hid ⟨HN2.out, HB5.out⟩⟩
                case measure => simp [intOf]; omega
              · have HN2 : Hid (RunR s L most n (i + 1) (i + 1) false) := Lib.hid (by have := HN.out; unfold inB at this; rwa [decide_eq_false (show ¬ (px, py).1 ≤ n from h), Bool.false_and, Bool.or_false] at this)
                clear HN c1
                go_wp2
                go_roundw
                case rel => exact ⟨i + 1, i + 1, false, rfl, by go_num, by go_num, Lib.hid ⟨HN2.out, HB5.out⟩⟩
                case measure => simp [intOf]; omega
              · have HN2 : Hid (RunR s L most n (i + 1) (i + 1) true) := Lib.hid (by have := HN.out; unfold inB at this; rwa [decide_eq_true (show (px, py).1 ≤ n from h), decide_eq_true (show n ≤ (px, py).2 from h')] at this)
                clear HN
                go_wp2
                go_roundw
                case rel => exact ⟨i + 1, i + 1, true, rfl, by go_num, by go_num, Lib.hid ⟨HN2.out, HB5.out⟩⟩
                case measure => simp [intOf]; omega
              · have HN2 : Hid (RunR s L most n (i + 1) (i + 1) false) := Lib.hid (by have := HN.out; unfold inB at this; rwa [decide_eq_true (show (px, py).1 ≤ n from h), decide_eq_false (show ¬ n ≤ (px, py).2 from h')] at this)
                clear HN
                go_wp2
                go_roundw
                case rel => exact ⟨i + 1, i + 1, false, congrArg Value.bool (decide_eq_false (by omega)), by go_num, by go_num, Lib.hid ⟨HN2.out, HB5.out⟩⟩
                case measure => simp [intOf]; omega
        · have HLS := Lib.hid (hH.out.1.last hi)
          have hi' : ¬ (i : Int) ≤ (s.size : Int) := by omega
          have HBE := Lib.hid (BR.out.trans (hH.out.2.mono BR.out.size))
          have HUE := Lib.hid (HUR.out.below hH.out.2)
          have HLV := Lib.hid (H3.out wr HBE.out)
          clear hH
          have hgis : G.any (inB n) = is := HG3.out.trans HLS.out.symm
          go_wp2_with fail
          refine HLV.out.mono ?_
          rintro e w6 ⟨rfl, b6⟩
          have HI := Lib.hid (in_any n _ G w6 (HUE.out.below b6) (by omega))
          rw [hgis] at HI
          have B6 := Lib.hid (HBE.out.trans (b6.mono HBE.out.size))
          clear b6 HLV hgis
          go_wp2_with fail
          refine HI.out.mono ?_
          rintro e w7 ⟨rfl, b7⟩
          have B7 := Lib.hid (B6.out.trans (b7.mono B6.out.size))
          clear b7 HI
          go_wp2
          go_ret
          exact ⟨ret_bool (by simp), B7.out⟩
theorem walk_ranges (s : ByteArray) (most n : Int) (w : World) (hT : Tabs w) (hM : Ml w) (hs : s.size ≤ 1048576) :
    Calls Tryd.prog 4 #[.string s, .int .i64 most, .int .i64 n] w fun e w' => e = .returned (.bool true) ∧ Below w.heap.size w w' := by
  by_cases h0 : (refE s most).2 = 0
  · exact ranges_good s most n w hT hM hs h0
  · exact ranges_bad s most n w hM hs h0
end Go.Proofs.YtpmakbjchepkmaaDoor
