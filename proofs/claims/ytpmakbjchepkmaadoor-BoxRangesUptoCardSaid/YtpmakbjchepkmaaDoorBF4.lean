/- Box: Find, where the box is right. -/
import Derived.Test.YtpmakbjchepkmaaDoorBF3
namespace Go.Proofs.YtpmakbjchepkmaaDoor
open Go Go.RowKit

set_option maxHeartbeats 8000000 in
set_option maxRecDepth 100000 in
theorem find_ok (name : ByteArray) (valid next : Int) (sv qv : Value) (ps : List LV) (qs : List Qry) (w : World) (h : Lets w sv ps) (hq : Qrys w qv qs) (hM : Ml w)
    (hck : chk valid next (ps.map (·.1)) = 0) (hql : qs.length ≤ 16) :
    Calls Tryd.prog 16 #[boxV name valid next sv, qv] w (FindR w valid next ps qs) := by
  obtain ⟨hv1, hn1, hl32, hright⟩ := chk_ok hck
  rw [List.length_map] at hl32
  have hb0 : Below w.heap.size w (w.alloc (.cells #[.string name, .int .i64 valid, .int .i64 next, sv] 40)) := (Below.refl _ w).alloc (Nat.le_refl _) _
  have hcc := check_any name valid next sv ps _ (h.below hb0) (by omega)
  rw [hck] at hcc
  have HCK := Lib.hid hcc
  obtain ⟨qa, qc, rfl⟩ := hq.shape
  obtain ⟨a, cap, hsv, g, off, hg, hc⟩ := h.opened
  subst hsv
  have HL := Lib.hid h
  have HQ := Lib.hid hq
  have HM := Lib.hid hM
  have HB0 := Lib.hid hb0
  have HBX := Lib.hid (BoxW.new w name valid next (.slice a ps.length cap) 40)
  have HBY := Lib.hid (show ∀ p ∈ ps, p.1.bytes.length ≤ 1000000 from fun p hp => by have := hright.bytes p.1 (List.mem_map.2 ⟨p, hp, rfl⟩); omega)
  have HE : Hid (findE valid next (ps.map (·.1)) qs = if askOk qs = false then 14 else 0) := Lib.hid (by unfold findE; rw [if_neg (by simp [hck]), if_neg (by omega)])
  have HG := Lib.hid hg
  have HC := Lib.hid hc
  generalize hR : askOk qs = R at *
  have HR := Lib.hid hR
  clear h hq hM hb0 hcc hck hright hv1 hn1 hc hg hR
  unfold boxV at HCK ⊢
  go_enter Tryd.func16, Tryd.ntmps16
  go_wp2_with fail
  refine HCK.out.mono ?_
  rintro e w1 ⟨rfl, hb1⟩
  have hbb := HB0.out.trans (hb1.mono HB0.out.size)
  have hsz : w.heap.size + 1 ≤ w1.heap.size := by have := hb1.size; simpa using this
  have HB1 := Lib.hid (HBX.out.below hb1 (by simp))
  have HBB := Lib.hid hbb
  clear hb1 hbb HCK HB0 HBX
  go_wp2
  go_loopw [23] (fun i wr => ∃ k : Nat, k ≤ qs.length ∧ i = .int .i64 k ∧ askOk (qs.drop k) = R ∧ Below w1.heap.size w1 wr) (fun i _ => qs.length - (intOf i).toNat)
  case atStart => exact ⟨0, Nat.zero_le _, rfl, HR.out, Below.refl _ _⟩
  case round =>
    obtain ⟨k, hk, rfl, hgo, hbw⟩ := hrel
    by_cases hlt : k < qs.length
    · have hp := List.getElem?_eq_getElem hlt
      generalize qs[k] = q at hp
      rw [drop_at hp] at hgo
      have hbt := HBB.out.trans (hbw.mono HBB.out.size)
      obtain ⟨g2, off2, cap2, he, hg2, a0, a1, a2, a3, a4⟩ := (HQ.out.below hbt).at k q hp
      cases he
      have hgo2 : (decide (1 ≤ q.ask ∧ q.ask ≤ 7) && askOk (qs.drop (k + 1))) = R := hgo
      have hz := hbw.size
      have HBW := Lib.hid hbw
      clear hp hgo hbw
      by_cases h1 : q.ask < 1
      · have hRf : R = false := by rw [← hgo2, decide_eq_false (by omega)]; rfl
        subst hRf
        have HX := Lib.hid (HE.out.trans (if_pos rfl))
        have HBT := Lib.hid (hbt.alloc hbt.size (.cells #[.int .i64 q.ask, .int .u8 (q.flags.toNat : Int), .int .i64 q.n, .int .i64 q.m, .string q.text] 49))
        clear hgo2 hbt HE
        go_wp2
        go_ret2
        exact FindR.bad HX.out (by decide) HBT.out
      · by_cases h7 : 7 < q.ask
        · have hRf : R = false := by rw [← hgo2, decide_eq_false (by omega)]; rfl
          subst hRf
          have HX := Lib.hid (HE.out.trans (if_pos rfl))
          have HBT := Lib.hid (hbt.alloc hbt.size (.cells #[.int .i64 q.ask, .int .u8 (q.flags.toNat : Int), .int .i64 q.n, .int .i64 q.m, .string q.text] 49))
          clear hgo2 hbt HE
          go_wp2
          go_ret2
          exact FindR.bad HX.out (by decide) HBT.out
        · have hgo3 : askOk (qs.drop (k + 1)) = R := by rw [← hgo2, decide_eq_true (by omega)]; rfl
          have HGo := Lib.hid hgo3
          have HBT := Lib.hid (HBW.out.alloc HBW.out.size (.cells #[.int .i64 q.ask, .int .u8 (q.flags.toNat : Int), .int .i64 q.n, .int .i64 q.m, .string q.text] 49))
          clear hgo2 hgo3 hbt
          go_wp2
          go_roundw
          case rel => exact ⟨k + 1, by omega, by go_num, HGo.out, HBT.out⟩
          case measure => simp [intOf]; omega
    · have hk : k = qs.length := by omega
      subst hk
      rw [List.drop_of_length_le (Nat.le_refl _)] at hgo
      obtain rfl : true = R := hgo
      have HX := Lib.hid (HE.out.trans (if_neg (by simp)))
      have hbt := HBB.out.trans (hbw.mono HBB.out.size)
      obtain ⟨c0, c1, c2, c3, f0, f1, f2, f3⟩ := HB1.out.below hbw (by omega)
      have hszr : w.heap.size + 1 ≤ wr.heap.size := Nat.le_trans hsz hbw.size
      have HBT := Lib.hid hbt
      clear hbw HE HB1 HBB hbt HR
      obtain ⟨wo, rfl⟩ : ∃ wo : World, wo = wr := ⟨_, rfl⟩
      go_wp2
      go_loopw [9, 39] (fun fv i wr => ∃ (k : Nat) (fa : Option Addr) (fc : Nat), k ≤ ps.length ∧ i = .int .i64 k ∧ fv = .slice fa (findL qs ((ps.map (·.1)).take k)).length fc ∧ OwnsI w.heap.size wr (.slice fa (findL qs ((ps.map (·.1)).take k)).length fc) (findL qs ((ps.map (·.1)).take k)) ∧ Below w.heap.size w wr) (fun _ i _ => ps.length - (intOf i).toNat)
      case atStart => exact ⟨0, none, 0, Nat.zero_le _, rfl, rfl, World.ownsRow_nil .., HBT.out⟩
      case round =>
        clear c0 c1 c2 c3 f0 f1 f2 f3
        obtain ⟨k, fa, fc, hk, rfl, rfl, hown, hb⟩ := hrel
        by_cases hlt : k < ps.length
        · have hp := List.getElem?_eq_getElem hlt
          generalize ps[k] = p at hp
          have hne : ps ≠ [] := fun e => by subst e; simp at hlt
          obtain ⟨rfl, hgl⟩ := HG.out hne
          obtain ⟨c0, c1, c2⟩ := HC.out k p hp
          have hz := hb.size
          have d0 := (hb.cell (p := ⟨g, off + k * 3, none⟩) hgl).trans c0
          have d1 := (hb.cell (p := ⟨g, off + k * 3 + 1, none⟩) hgl).trans c1
          have d2 := (hb.cell (p := ⟨g, off + k * 3 + 2, none⟩) hgl).trans c2
          have hpm := List.mem_of_getElem? hp
          have hby := HL.out.bytes p hpm
          obtain ⟨⟨ba, bc, hbv⟩, _⟩ := id hby
          rw [hbv] at d2 hby
          have hb2 : Below w.heap.size w (wr.alloc (.cells #[.int .i64 p.1.uid, .int .u8 (p.1.flags.toNat : Int), .slice ba p.1.bytes.length bc] 68)) := hb.alloc hz _
          have hbl : Below wr.heap.size wr (wr.alloc (.cells #[.int .i64 p.1.uid, .int .u8 (p.1.flags.toNat : Int), .slice ba p.1.bytes.length bc] 68)) := (Below.refl _ wr).alloc (Nat.le_refl _) _
          have hin : LetIn (wr.alloc (.cells #[.int .i64 p.1.uid, .int .u8 (p.1.flags.toNat : Int), .slice ba p.1.bytes.length bc] 68)) wr.heap.size p.1 (.slice ba p.1.bytes.length bc) :=
            ⟨World.cell?_alloc_new _ _ _ _, World.cell?_alloc_new _ _ _ _, World.cell?_alloc_new _ _ _ _⟩
          have HCQ := Lib.hid (containsQ_any (.slice qa qs.length qc) qs p.1 (.slice ba p.1.bytes.length bc) wr.heap.size _ (HQ.out.below hb2) hin (hby.below hb2) (HBY.out p hpm) (HM.out.below hb2) (by omega))
          rw [trueOf_any] at HCQ
          have hsn := findL_snoc qs ((ps.map (·.1)).take k) p.1
          have htk : (ps.map (·.1)).take (k + 1) = (ps.map (·.1)).take k ++ [p.1] := by rw [List.take_add_one, List.getElem?_map, hp]; rfl
          rw [← htk] at hsn
          have hlk : (findL qs ((ps.map (·.1)).take k)).length ≤ 32 := by
            unfold findL
            rw [List.length_map]
            refine Nat.le_trans (List.length_filter_le _ _) ?_
            rw [List.length_take]; omega
          have HSN := Lib.hid hsn
          have HIN := Lib.hid hin
          have HB2 := Lib.hid hb2
          have HOWN := Lib.hid (hown.below hbl)
          clear hsn htk hin hb2 hown hby hbl hpm hp hne c0 c1 c2 hbv
          generalize hF : findL qs ((ps.map (·.1)).take k) = F at *
          generalize hF2 : findL qs ((ps.map (·.1)).take (k + 1)) = F2 at *
          have HF2 := Lib.hid hF2
          clear hF hF2
          go_wp2_with fail
          refine HCQ.out.mono ?_
          rintro e w2 ⟨rfl, hb3⟩
          have hin2 := HIN.out.below hb3
          have hbw2 := HB2.out.trans (hb3.mono HB2.out.size)
          have hown2 := HOWN.out.below hb3
          have hlt2 := World.block_lt_of_cell? w2 _ hin2.1
          obtain ⟨x0, x1, x2⟩ := hin2
          have HBW2 := Lib.hid hbw2
          have HOW2 := Lib.hid hown2
          have hz2 := hbw2.size
          clear hbw2 hown2 hb3 HIN HCQ HOWN d0 d1 d2
          cases ht : trueOf qs p.1 with
          | false =>
            have hF2 : F2 = F := by have := HSN.out; rw [if_neg (by simp [ht])] at this; rw [this, List.append_nil]
            have HF := Lib.hid hF2
            clear ht hF2 HSN
            go_wp2
            go_roundw
            case rel => exact ⟨k + 1, fa, fc, by omega, by go_num, by rw [HF2.out, HF.out], by rw [HF2.out, HF.out]; exact HOW2.out, HBW2.out⟩
            case measure => simp [intOf]; omega
          | true =>
            have hF2 : F2 = F ++ [p.1.uid] := by have := HSN.out; rw [if_pos ht] at this; exact this
            have HF := Lib.hid hF2
            obtain ⟨a3, c3, w3, hr, ho, hbk⟩ := appI w2 p.1.uid HOW2.out hz2 (by omega)
            have HR3 := Lib.hid hr
            have HO3 := Lib.hid ho
            have HB3 := Lib.hid (hbk w HBW2.out)
            clear ht hF2 HSN hr ho hbk
            go_wp2_with (at_builtin; refine wpList_append_run _ rfl _ _ 44 44 rfl _ _ rfl rfl _ w3 HR3.out ?_)
            go_roundw
            case rel => exact ⟨k + 1, a3, c3, by omega, by go_num, by rw [HF2.out, HF.out]; simp, by rw [HF2.out, HF.out]; exact HO3.out, HB3.out⟩
            case measure => simp [intOf]; omega
        · have hk : k = ps.length := by omega
          subst hk
          rw [List.take_of_length_le (by simp)] at hown ⊢
          have HOWN := Lib.hid hown
          clear hown
          go_wp2
          go_ret2
          exact ⟨hb, fun h0 => absurd HX.out h0, fun _ => ⟨fa, fc, rfl, HOWN.out⟩⟩
end Go.Proofs.YtpmakbjchepkmaaDoor
