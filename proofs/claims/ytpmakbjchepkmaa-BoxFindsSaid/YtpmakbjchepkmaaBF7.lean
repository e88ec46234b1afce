/- Box: the document's Find, where the box is right. -/
import Derived.Test.YtpmakbjchepkmaaBF6
namespace Go.Proofs.Ytpmakbjchepkmaa
open Go Go.RowKit

/-- A term of the call's own in block b. -/
structure QryW (w : World) (b : Nat) (q : Qry) : Prop where
  c0 : w.cell? ⟨b, 0, none⟩ = some (.int .i64 q.ask)
  c1 : w.cell? ⟨b, 1, none⟩ = some (.int .u8 (q.flags.toNat : Int))
  c2 : w.cell? ⟨b, 2, none⟩ = some (.int .i64 q.n)
  c3 : w.cell? ⟨b, 3, none⟩ = some (.int .i64 q.m)
  c4 : w.cell? ⟨b, 4, none⟩ = some (.string q.text)
theorem QryW.new (w : World) (q : Qry) (t : TypeId) : QryW (w.alloc (.cells #[.int .i64 q.ask, .int .u8 (q.flags.toNat : Int), .int .i64 q.n, .int .i64 q.m, .string q.text] t)) w.heap.size q :=
  ⟨World.cell?_alloc_new _ _ _ _, World.cell?_alloc_new _ _ _ _, World.cell?_alloc_new _ _ _ _, World.cell?_alloc_new _ _ _ _, World.cell?_alloc_new _ _ _ _⟩
theorem QryW.lt {w : World} {b : Nat} {q : Qry} (h : QryW w b q) : b < w.heap.size := World.block_lt_of_cell? w _ h.c0

set_option maxHeartbeats 8000000 in
set_option maxRecDepth 100000 in
theorem rfind_ok (name : ByteArray) (valid next : Int) (sv qv : Value) (ps : List LV) (qs : List Qry) (w : World) (h : Lets w sv ps) (hq : Qrys w qv qs) (hqt : ∀ q ∈ qs, q.text.size ≤ 9223372036854775807)
    (hck : chk valid next (ps.map (·.1)) = 0) (hql : qs.length ≤ 16) :
    Calls Try.prog 23 #[boxV name valid next sv, qv] w (FindR w valid next ps qs) := by
  obtain ⟨hv1, hn1, hl32, hright⟩ := chk_ok hck
  rw [List.length_map] at hl32
  have hb0 : Below w.heap.size w (w.alloc (.cells #[.string name, .int .i64 valid, .int .i64 next, sv] 24)) := (Below.refl _ w).alloc (Nat.le_refl _) _
  have hcc := refCheck name valid next sv ps _ (h.below hb0) (by omega)
  rw [hck] at hcc
  have HCK := Lib.hid hcc
  obtain ⟨qa, qc, rfl⟩ := hq.shape
  obtain ⟨a, cap, hsv, g, off, hg, hc⟩ := h.opened
  subst hsv
  have HL := Lib.hid h
  have HQ := Lib.hid hq
  have HQT := Lib.hid hqt
  have HB0 := Lib.hid hb0
  have HBX := Lib.hid (BoxW.new w name valid next (.slice a ps.length cap) 24)
  have HBY := Lib.hid (show ∀ p ∈ ps, p.1.bytes.length ≤ 1000000 from fun p hp => by have := hright.bytes p.1 (List.mem_map.2 ⟨p, hp, rfl⟩); omega)
  have HE : Hid (findE valid next (ps.map (·.1)) qs = if askOk qs = false then 14 else 0) := Lib.hid (by unfold findE; rw [if_neg (by simp [hck]), if_neg (by omega)])
  have HG := Lib.hid hg
  have HC := Lib.hid hc
  generalize hR : askOk qs = R at *
  have HR := Lib.hid hR
  clear h hq hqt hb0 hcc hck hright hv1 hn1 hc hg hR
  unfold boxV at HCK ⊢
  go_enter Try.func23, Try.ntmps23
  go_wp2_with fail
  refine HCK.out.mono ?_
  rintro e w1 ⟨rfl, hb1⟩
  have hbb := HB0.out.trans (hb1.mono HB0.out.size)
  have hsz : w.heap.size + 1 ≤ w1.heap.size := by have := hb1.size; simpa using this
  have HB1 := Lib.hid (HBX.out.below hb1 (by simp))
  have HBB := Lib.hid hbb
  have HQ1 := Lib.hid (HQ.out.below hbb)
  clear hb1 hbb HCK HB0 HBX
  go_wp2
  go_loop [7] (fun i => ∃ k : Nat, k ≤ qs.length ∧ i = .int .i64 k ∧ askOk (qs.drop k) = R) (fun i => qs.length - (intOf i).toNat)
  case atStart => exact ⟨0, Nat.zero_le _, rfl, HR.out⟩
  case round =>
    obtain ⟨k, hk, rfl, hgo⟩ := hrel
    by_cases hlt : k < qs.length
    · have hp := List.getElem?_eq_getElem hlt
      generalize qs[k] = q at hp
      rw [drop_at hp] at hgo
      obtain ⟨g2, off2, cap2, he, hg2, a0, a1, a2, a3, a4⟩ := HQ1.out.at k q hp
      cases he
      have hgo2 : (decide (1 ≤ q.ask ∧ q.ask ≤ 7) && askOk (qs.drop (k + 1))) = R := hgo
      clear hp hgo
      by_cases h1 : q.ask < 1
      · have hRf : R = false := by rw [← hgo2, decide_eq_false (by omega)]; rfl
        subst hRf
        have HX := Lib.hid (HE.out.trans (if_pos rfl))
        clear hgo2 HE
        go_wp2
        go_ret2
        exact FindR.bad HX.out (by decide) HBB.out
      · by_cases h7 : 7 < q.ask
        · have hRf : R = false := by rw [← hgo2, decide_eq_false (by omega)]; rfl
          subst hRf
          have HX := Lib.hid (HE.out.trans (if_pos rfl))
          clear hgo2 HE
          go_wp2
          go_ret2
          exact FindR.bad HX.out (by decide) HBB.out
        · have hgo3 : askOk (qs.drop (k + 1)) = R := by rw [← hgo2, decide_eq_true (by omega)]; rfl
          have HGo := Lib.hid hgo3
          clear hgo2 hgo3
          go_wp2
          go_round
          case rel => exact ⟨k + 1, by omega, by go_num, HGo.out⟩
          case measure => simp [intOf]; omega
    · have hk : k = qs.length := by omega
      subst hk
      rw [List.drop_of_length_le (Nat.le_refl _)] at hgo
      obtain rfl : true = R := hgo
      have HX := Lib.hid (HE.out.trans (if_neg (by simp)))
      obtain ⟨W2, hW2⟩ : ∃ W2, W2 = w1.alloc (.cells #[] 3) := ⟨_, rfl⟩
      have hy2 : Below w1.heap.size w1 W2 := by rw [hW2]; exact (Below.refl _ w1).alloc (Nat.le_refl _) _
      have HO2 := Lib.hid (show OwnsI (w.heap.size + 1) W2 (.slice (some ⟨w1.heap.size, 0, none⟩) 0 0) [] by rw [hW2]; exact ownsI_lit _ w1 (by omega))
      have HB2 := Lib.hid (HBB.out.trans (hy2.mono HBB.out.size))
      have HX2 := Lib.hid (HB1.out.below hy2 HB1.out.lt)
      have HW2 := Lib.hid hW2
      clear HE HB1 HBB HQ1 hW2 hy2
      go_wp2_with (first | rw [← HW2.out])
      have hz0 : w.heap.size + 1 ≤ W2.heap.size := HX2.out.lt
      clear HW2
      go_loopw [8, 9] (fun fv i wr => ∃ (k : Nat) (fa : Option Addr) (fc : Nat), k ≤ ps.length ∧ i = .int .i64 k ∧ fv = .slice fa (findL qs ((ps.map (·.1)).take k)).length fc ∧ OwnsI (w.heap.size + 1) wr (.slice fa (findL qs ((ps.map (·.1)).take k)).length fc) (findL qs ((ps.map (·.1)).take k)) ∧ Below w.heap.size w wr ∧ BoxW wr w.heap.size name valid next (.slice a ps.length cap)) (fun _ i _ => ps.length - (intOf i).toNat)
      case atStart => exact ⟨0, _, 0, Nat.zero_le _, rfl, rfl, HO2.out, HB2.out, HX2.out⟩
      case round =>
        obtain ⟨k, fa, fc, hk, rfl, rfl, hown, hb, hbx⟩ := hrel
        clear HO2 HB2 HX2 hz0 hsz
        have HBXR := Lib.hid hbx
        obtain ⟨b0, b1, b2, b3, _⟩ := hbx
        by_cases hlt : k < ps.length
        · have hp := List.getElem?_eq_getElem hlt
          generalize ps[k] = p at hp
          have hne : ps ≠ [] := fun e => by subst e; simp at hlt
          obtain ⟨rfl, hgl⟩ := HG.out hne
          obtain ⟨c0, c1, c2⟩ := HC.out k p hp
          have hz := hb.size
          have d0 := (hb.cell (p := ⟨g, off + k * 3, none⟩) hgl).trans c0
          have d1 := (hb.cell (p := ⟨g, off + k * 3 + 1, none⟩) hgl).trans c1
          have d2 := (hb.cell (p := ⟨g, off + k * 3 + 2, none⟩) hgl).trans c2
          have hpm := List.mem_of_getElem? hp
          have hby := HL.out.bytes p hpm
          obtain ⟨⟨ba, bc, hbv⟩, _⟩ := id hby
          rw [hbv] at d2 hby
          have hbl : Below wr.heap.size wr (wr.alloc (.cells #[.int .i64 p.1.uid, .int .u8 (p.1.flags.toNat : Int), .slice ba p.1.bytes.length bc] 44)) := (Below.refl _ wr).alloc (Nat.le_refl _) _
          have hin : LetIn (wr.alloc (.cells #[.int .i64 p.1.uid, .int .u8 (p.1.flags.toNat : Int), .slice ba p.1.bytes.length bc] 44)) wr.heap.size p.1 (.slice ba p.1.bytes.length bc) :=
            ⟨World.cell?_alloc_new _ _ _ _, World.cell?_alloc_new _ _ _ _, World.cell?_alloc_new _ _ _ _⟩
          obtain ⟨WL, hWL⟩ : ∃ WL, WL = wr.alloc (.cells #[.int .i64 p.1.uid, .int .u8 (p.1.flags.toNat : Int), .slice ba p.1.bytes.length bc] 44) := ⟨_, rfl⟩
          rw [← hWL] at hin hbl
          have HWL := Lib.hid hWL
          have hsn := findL_snoc qs ((ps.map (·.1)).take k) p.1
          have htk : (ps.map (·.1)).take (k + 1) = (ps.map (·.1)).take k ++ [p.1] := by rw [List.take_add_one, List.getElem?_map, hp]; rfl
          rw [← htk] at hsn
          have hlk : (findL qs ((ps.map (·.1)).take k)).length ≤ 32 := by
            unfold findL
            rw [List.length_map]
            refine Nat.le_trans (List.length_filter_le _ _) ?_
            rw [List.length_take]; omega
          have HSN := Lib.hid hsn
          have HIN := Lib.hid hin
          have HBLW := Lib.hid (hb.trans (hbl.mono hb.size))
          have HQL := Lib.hid (HQ.out.below (hb.trans (hbl.mono hb.size)))
          have HBYL := Lib.hid (hby.below (hb.trans (hbl.mono hb.size)))
          have HBYN := Lib.hid (HBY.out p hpm)
          have HOWN := Lib.hid (hown.below hbl)
          have HBXL := Lib.hid (HBXR.out.below hbl HBXR.out.lt)
          have hgr : wr.heap.size < WL.heap.size := by rw [hWL]; simp
          clear hsn htk hin hown hby hbl hpm hp hne c0 c1 c2 hbv hWL
          generalize hF : findL qs ((ps.map (·.1)).take k) = F at *
          generalize hF2 : findL qs ((ps.map (·.1)).take (k + 1)) = F2 at *
          have HF2 := Lib.hid hF2
          clear hF hF2
          go_wp2_with (first | rw [← HWL.out])
          clear HWL b0 b1 b2 b3 d0 d1 d2
          obtain ⟨wo, rfl⟩ : ∃ wo : World, wo = wr := ⟨_, rfl⟩
          go_loopw [11, 12] (fun al i wj => ∃ j : Nat, j ≤ qs.length ∧ i = .int .i64 j ∧ al = .bool (trueOf (qs.take j) p.1) ∧ Below WL.heap.size WL wj) (fun _ i _ => qs.length - (intOf i).toNat)
          case atStart => exact ⟨0, Nat.zero_le _, rfl, rfl, Below.refl _ _⟩
          case round =>
            obtain ⟨j, hj, rfl, rfl, hbj⟩ := hrel
            by_cases hjl : j < qs.length
            · have hq := List.getElem?_eq_getElem hjl
              generalize qs[j] = q at hq
              obtain ⟨g2, off2, cap2, he, hg2, a0, a1, a2, a3, a4⟩ := (HQL.out.below hbj).at j q hq
              cases he
              have hask := askOk_at HR.out hq
              have hqt := HQT.out q (List.mem_of_getElem? hq)
              have hzj := hbj.size
              have hy : Below WL.heap.size WL (wr.alloc (.cells #[.int .i64 q.ask, .int .u8 (q.flags.toNat : Int), .int .i64 q.n, .int .i64 q.m, .string q.text] 53)) := hbj.alloc hbj.size _
              have hqw := QryW.new wr q 53
              obtain ⟨WQ, hWQ⟩ : ∃ WQ, WQ = wr.alloc (.cells #[.int .i64 q.ask, .int .u8 (q.flags.toNat : Int), .int .i64 q.n, .int .i64 q.m, .string q.text] 53) := ⟨_, rfl⟩
              rw [← hWQ] at hy hqw
              have HWQ := Lib.hid hWQ
              obtain ⟨x0, x1, x2⟩ := HIN.out.below hy
              obtain ⟨y0, y1, y2, y3, y4⟩ := id hqw
              have HQW := Lib.hid hqw
              have HTK := Lib.hid (show trueOf (qs.take (j + 1)) p.1 = (trueOf (qs.take j) p.1 && holdB q p.1) by rw [List.take_add_one, hq, Option.toList_some, trueOf_snoc])
              have HBQ := Lib.hid hy
              have HBYQ := Lib.hid (HBYL.out.below hy)
              have HK1 := Lib.hid (fun (wx : World) (hx : Below WQ.heap.size WQ wx) => hy.trans (hx.mono hy.size))
              clear hq hWQ hy hqw hbj
              generalize trueOf (qs.take j) p.1 = A at *
              by_cases h6 : q.ask = 6
              · obtain ⟨ask, fl, n, m, tx⟩ := q
                simp only at *
                subst h6
                have hh6 : holdB ⟨6, fl, n, m, tx⟩ p.1 = Lib.contains (low p.1.bytes) (low tx.data.toList) := by simp [holdB]
                have HTK6 := Lib.hid (show trueOf (qs.take (j + 1)) p.1 = (A && Lib.contains (low p.1.bytes) (low tx.data.toList)) by rw [HTK.out, hh6])
                have hlx : p.1.bytes.length ≤ 1000000 := HBYN.out
                have K : ∀ W, Below WQ.heap.size WQ W → W.cell? ⟨wr.heap.size, 4, none⟩ = some (.string tx) ∧ W.cell? ⟨wo.heap.size, 2, none⟩ = some (.slice ba p.1.bytes.length bc) ∧ (convert 30 9 (.slice ba p.1.bytes.length bc)).run Try.prog W = .ok (.string ⟨p.1.bytes.toArray⟩) W := fun W hW =>
                  ⟨(hW.cell (p := ⟨wr.heap.size, 4, none⟩) HQW.out.lt).trans y4, (hW.cell (p := ⟨wo.heap.size, 2, none⟩) (World.block_lt_of_cell? WQ _ x2)).trans x2, run_byz_string W _ _ 5 Try.underlying30 Try.underlying5 Try.underlying9 (HBYQ.out.below hW)⟩
                have L1 : ∀ W, Below WQ.heap.size WQ W → Calls Try.prog 37 #[.string ⟨p.1.bytes.toArray⟩] W fun e w' => e = .returned (.string ⟨(low p.1.bytes).toArray⟩) ∧ Below WQ.heap.size WQ w' := fun W hW => (refLower ⟨p.1.bytes.toArray⟩ W (by show p.1.bytes.toArray.size ≤ _; rw [List.size_toArray]; omega)).mono fun e w' ⟨h1, h2⟩ => ⟨h1, hW.trans (h2.mono hW.size)⟩
                have L2 : ∀ W, Below WQ.heap.size WQ W → Calls Try.prog 37 #[.string tx] W fun e w' => e = .returned (.string ⟨(low tx.data.toList).toArray⟩) ∧ Below WQ.heap.size WQ w' := fun W hW => (refLower _ W hqt).mono fun e w' ⟨h1, h2⟩ => ⟨h1, hW.trans (h2.mono hW.size)⟩
                have L3 : ∀ W, Below WQ.heap.size WQ W → Calls Try.prog 36 #[.string ⟨(low p.1.bytes).toArray⟩, .string ⟨(low tx.data.toList).toArray⟩] W fun e w' => e = .returned (.bool (Lib.contains (low p.1.bytes) (low tx.data.toList))) ∧ Below WQ.heap.size WQ w' := fun W hW =>
                  (refHolds _ _ W (by rw [low_size]; omega) (by rw [low_size]; simpa using hqt)).mono fun e w' ⟨h1, h2⟩ => ⟨h1, by subst h2; exact hW⟩
                have HK := Lib.hid K
                have H1 := Lib.hid L1
                have H2 := Lib.hid L2
                have H3 := Lib.hid L3
                clear K L1 L2 L3 HTK hh6 hqt hlx
                generalize Lib.contains (low p.1.bytes) (low tx.data.toList) = R6 at *
                cases A
                all_goals
                  go_wp2_with (first | rw [← HWQ.out])
                  go_region_held3 (fun W => Below WQ.heap.size WQ W ∧ W.cell? ⟨wr.heap.size, 4, none⟩ = some (.string tx) ∧ W.cell? ⟨wo.heap.size, 2, none⟩ = some (.slice ba p.1.bytes.length bc) ∧ (convert 30 9 (.slice ba p.1.bytes.length bc)).run Try.prog W = .ok (.string ⟨p.1.bytes.toArray⟩) W)
                    (first | exact ⟨(Below.refl _ _).drew, HK.out _ ((Below.refl _ _).drew)⟩ | exact ⟨by assumption, HK.out _ (by assumption)⟩)
                    (first
                      | ((with_reducible refine (H3.out _ (by assumption)).mono ?_); rintro e wn ⟨rfl, hBn⟩)
                      | ((with_reducible refine (H1.out _ (by first | assumption | exact (Below.refl _ _).drew)).mono ?_); rintro e wn ⟨rfl, hBn⟩)
                      | ((with_reducible refine (H2.out _ (by first | assumption | exact (Below.refl _ _).drew)).mono ?_); rintro e wn ⟨rfl, hBn⟩))
                  all_goals
                    go_wp2
                    go_roundw
                    case rel => exact ⟨j + 1, by omega, by go_num, by rw [HTK6.out]; rfl, HK1.out _ (by assumption)⟩
                    case measure => simp [intOf]; omega
              · have hcase : q.ask = 1 ∨ q.ask = 2 ∨ q.ask = 3 ∨ q.ask = 4 ∨ q.ask = 5 ∨ q.ask = 7 := by omega
                obtain ⟨ask, fl, n, m, tx⟩ := q
                simp only at *
                have HOA := Lib.hid (or_and p.1.flags fl)
                rcases hcase with rfl | rfl | rfl | rfl | rfl | rfl
                all_goals
                  cases A
                  all_goals
                    go_wp2_with (first | rw [← HWQ.out])
                    all_goals
                      go_roundw
                      case rel => exact ⟨j + 1, by omega, by go_num, by rw [HTK.out]; simp [holdB, HOA.out] <;> omega, HBQ.out⟩
                      case measure => simp [intOf]; omega
            · have hj2 : j = qs.length := by omega
              subst hj2
              rw [List.take_length]
              have hbw2 := HBLW.out.trans (hbj.mono HBLW.out.size)
              have HOW2 := Lib.hid (HOWN.out.below hbj)
              have HBW2 := Lib.hid hbw2
              have hz2 := hbw2.size
              have HBX2 := Lib.hid (HBXL.out.below hbj HBXL.out.lt)
              have HX1 := Lib.hid (HIN.out.below hbj)
              obtain ⟨x0, x1, x2⟩ := HIN.out.below hbj
              have HGR := Lib.hid (show wo.heap.size < wr.heap.size from Nat.lt_of_lt_of_le hgr hbj.size)
              clear hbw2 hbj HIN HBLW HQL HBYL HOWN HBXL
              cases ht : trueOf qs p.1 with
              | false =>
                have hF2 : F2 = F := by have := HSN.out; rw [if_neg (by simp [ht])] at this; rw [this, List.append_nil]
                have HF := Lib.hid hF2
                clear ht hF2 HSN
                go_wp2
                go_roundw
                case rel => exact ⟨k + 1, fa, fc, by omega, by go_num, by rw [HF2.out, HF.out], by rw [HF2.out, HF.out]; exact HOW2.out, HBW2.out, HBX2.out⟩
                case measure => simp [intOf]; omega
              | true =>
                have hF2 : F2 = F ++ [p.1.uid] := by have := HSN.out; rw [if_pos ht] at this; exact this
                have HF := Lib.hid hF2
                obtain ⟨a3, c3, w3, hr, ho, hbk⟩ := appI wr p.1.uid HOW2.out HBX2.out.lt (by omega)
                have HR3 := Lib.hid hr
                have HO3 := Lib.hid ho
                have hb3 := hbk wr (Below.refl _ wr)
                have HB3 := Lib.hid (HBW2.out.trans (hb3.mono (Nat.le_succ _)))
                have HBX3 := Lib.hid (HBX2.out.below hb3 (Nat.lt_succ_self _))
                clear ht hF2 HSN hr ho hbk hb3
                go_wp2_with (at_builtin; refine wpList_append_run _ rfl _ _ 41 41 rfl _ _ rfl rfl _ w3 HR3.out ?_)
                go_roundw
                case rel => exact ⟨k + 1, a3, c3, by omega, by go_num, by rw [HF2.out, HF.out]; simp, by rw [HF2.out, HF.out]; exact HO3.out, HB3.out, HBX3.out⟩
                case measure => simp [intOf]; omega
        · have hk : k = ps.length := by omega
          subst hk
          rw [List.take_of_length_le (by simp)] at hown ⊢
          have HOWN := Lib.hid hown
          clear hown
          go_wp2
          go_ret2
          exact ⟨hb, fun h0 => absurd HX.out h0, fun _ => ⟨fa, fc, rfl, World.ownsRow.mono HOWN.out (Nat.le_succ _)⟩⟩
end Go.Proofs.Ytpmakbjchepkmaa
