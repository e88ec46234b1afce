/- Glob: Pick; the law GlobPicks, walked. -/
import Derived.Test.YtnglmaebmabdcaaDoorQP10
import Derived.Test.YtnglmaebmabdcaaDoorQ9
namespace Go.Proofs.YtnglmaebmabdcaaDoor
open Go Go.RowKit

set_option maxHeartbeats 4000000 in
set_option maxRecDepth 100000 in
theorem pick_any (v : Value) (N : List Gl.Nm) (bs pt : ByteArray) (w : World) (hv : Ltr w v (N.map mkS)) (hN : Sm N) (hbs : bs.size ≤ 200) (hpt : pt.size ≤ 200) :
    Calls Tryd.prog 23 #[v, .string bs, .string pt] w fun e w' => ∃ v', e = .returned v' ∧ Ltr w' v' ((Gl.pickL N fun x => globB (bs ++ pt) (mkS x)).map mkS) ∧ Below w.heap.size w w' := by
  obtain ⟨i0, hi0, hz0, hz1, hz2⟩ := info_parts info9
  obtain ⟨a, c, rfl⟩ := hv.shapeN
  have hlen := hN.len
  have hal := aheadL_len hN
  have hah := ahead_any _ N w hv hN
  have HV := Lib.hid hv
  have HTLE := Lib.hid (fun x (hx : x ∈ N ++ Gl.aheadL N) => (List.mem_append.1 hx).elim (hN.le x) (aheadL_le hN))
  clear hv
  have hsum : bs.size + pt.size ≤ 9223372036854775807 := by omega
  have hbpz : (bs ++ pt).size ≤ 1000 := by rw [Lib.size_eq, ByteArray.data_append, Array.toList_append, List.length_append, ← Lib.size_eq, ← Lib.size_eq]; omega
  go_enter Tryd.func23, Tryd.ntmps23
  go_wp2_with fail
  refine hah.mono ?_
  rintro e w1 ⟨v1, rfl, hl1, hb1⟩
  obtain ⟨a1, c1, rfl⟩ := hl1.shapeN
  obtain ⟨W2, hW2⟩ : ∃ W2, w1.alloc (.cells #[.slice a N.length c, .slice a1 (Gl.aheadL N).length c1] 26) = W2 := ⟨_, rfl⟩
  have hb2 : Below w1.heap.size w1 W2 := by rw [← hW2]; exact (Below.refl _ w1).alloc (Nat.le_refl _) _
  have q1 : W2.cell? ⟨w1.heap.size, 0, none⟩ = some (.slice a N.length c) := by rw [← hW2]; exact World.cell?_alloc_new _ _ _ _
  have q2 : W2.cell? ⟨w1.heap.size, 1, none⟩ = some (.slice a1 (Gl.aheadL N).length c1) := by rw [← hW2]; exact World.cell?_alloc_new _ _ _ _
  have hco := concat_any w1.heap.size _ _ (N.map mkS) ((Gl.aheadL N).map mkS) W2 ((HV.out.below hb1).below hb2) (hl1.below hb2) q1 q2 (by rw [List.length_map, List.length_map]; omega)
  rw [← List.map_append] at hco
  have HB2 := Lib.hid (hb1.trans (hb2.mono hb1.size))
  have hTl : (N ++ Gl.aheadL N).length ≤ 800 := by rw [List.length_append]; omega
  clear hl1 hb1 hb2 q1 q2 hah
  generalize hTT : N ++ Gl.aheadL N = A at *
  have HTT := Lib.hid hTT
  clear hTT
  go_wp2_with (first | rw [hW2])
  refine hco.mono ?_
  rintro e w3 ⟨v3, rfl, hl3, hb3⟩
  obtain ⟨a3, c3, rfl⟩ := hl3.shapeN
  have HA := Lib.hid hl3
  have HB3 := Lib.hid (HB2.out.trans (hb3.mono HB2.out.size))
  clear hl3 hb3 hco
  go_wp2
  go_loopw [7, 16] (fun v7 x16 wr => ∃ (i : Nat) (O : List Gl.Nm), x16 = .int .i64 (i : Int) ∧ i ≤ A.length ∧ Hid (O = (A.take i).filter (fun x => globB (bs ++ pt) (mkS x))) ∧ O.length ≤ i ∧ wr.ownsRow w3.heap.size 9 1 v7 O.length ((O.map mkS).map Value.string) ∧ Below w3.heap.size w3 wr) (fun _ x16 _ => A.length - (intOf x16).toNat)
  case atStart => exact ⟨0, [], rfl, Nat.zero_le _, Lib.hid (by simp), Nat.le_refl _, World.ownsRow_nil _ _ _ _, Below.refl _ _⟩
  case round =>
    obtain ⟨i, O, rfl, hi, hO, hOl, hown, hb⟩ := hrel
    have hz := hb.size
    have hz3 := HB3.out.size
    by_cases hlt : i < A.length
    · have hlti : (i : Int) < (A.length : Int) := by omega
      obtain ⟨g, c', e, hg, hcc⟩ := HA.out.get hlt
      injection e with e1 _ e3
      subst e1; subst e3
      have hcw := (hb.cell (p := ⟨g, i, none⟩) hg).trans hcc
      have HX := Lib.hid (show A[i]? = some A[i] from List.getElem?_eq_getElem hlt)
      have hxl : (A[i]).length ≤ 60 := HTLE.out _ (List.getElem_mem hlt)
      generalize A[i] = x at *
      have hm := Match_any (bs ++ pt) (mkS x) wr hbpz (by rw [mk_size]; omega)
      have HTK := Lib.hid (show A.take (i + 1) = A.take i ++ [x] from by rw [List.take_add_one, HX.out]; rfl)
      clear hcc
      cases hg2 : globB (bs ++ pt) (mkS x) with
      | true =>
        rw [hg2] at hm
        have HN : Hid (O ++ [x] = (A.take (i + 1)).filter (fun x => globB (bs ++ pt) (mkS x))) := Lib.hid (by
          rw [HTK.out, List.filter_append, ← hO.out]
          simp [hg2])
        clear hg2 hO
        generalize hX0 : mkS x = X at *
        have HX0 := Lib.hid hX0
        clear hX0
        go_wp2_with fail
        refine hm.mono ?_
        rintro e w6 ⟨rfl, hb6⟩
        have hown6 := own_below hown hb6
        have hb7 := hb.trans (hb6.mono hz)
        have hz6 := hb6.size
        clear hown hb hb6
        go_wp2_with (first | (at_builtin; refine wpList_append_own _ rfl _ _ 26 rfl w3.heap.size 9 i0 (.string ⟨#[]⟩) 1 16 Tryd.underlying26 hi0 hz0 hz1 hz2 rfl (by decide) _ _ _ rfl (hown6.alloc _) ⟨w6.heap.size, 0, none⟩ 1 1 [.string (X)] rfl rfl (cell_one_new _ _ _) (by intro u hu; simp at hu; subst hu; rfl) (by unfold maxLen; omega) (by omega) (by simp; omega) ?_))
        intro v' w2 hown2 hgrow _
        have hbx := below_grown (hb7.alloc (by omega) _) (hown6.alloc _) (by simp; omega) hgrow
        have HO := Lib.hid hown2
        clear hown6 hown2 hgrow hb7
        go_wp2
        refine ⟨⟨i + 1, O ++ [x], rfl, by omega, HN, by simp; omega, ?_, hbx⟩, ?_⟩
        · rw [List.length_append, List.map_append, List.map_append, List.map_singleton, HX0.out]
          simpa using HO.out
        · simp [intOf] <;> omega
      | false =>
        rw [hg2] at hm
        have HN : Hid (O = (A.take (i + 1)).filter (fun x => globB (bs ++ pt) (mkS x))) := Lib.hid (by
          rw [HTK.out, List.filter_append, ← hO.out]
          simp [hg2])
        clear hg2 hO
        generalize hX0 : mkS x = X at *
        clear hX0
        go_wp2_with fail
        refine hm.mono ?_
        rintro e w6 ⟨rfl, hb6⟩
        have HO := Lib.hid (own_below hown hb6)
        have HB7 := Lib.hid (hb.trans (hb6.mono hz))
        clear hown hb hb6
        go_wp2
        refine ⟨⟨i + 1, O, rfl, by omega, HN, by omega, HO.out, HB7.out⟩, ?_⟩
        simp [intOf] <;> omega
    · have hOe : O = (N ++ Gl.aheadL N).filter (fun x => globB (bs ++ pt) (mkS x)) := by
        have h := hO.out
        rw [List.take_of_length_le (by omega)] at h
        rw [HTT.out]; exact h
      have hri := rising_any w3.heap.size _ O wr (HsV.of hown) hz (by omega)
      rw [show Gl.rise O = Gl.pickL N (fun x => globB (bs ++ pt) (mkS x)) from by rw [hOe]; rfl] at hri
      obtain ⟨oa, oc, hov⟩ := (HsV.of hown).shape
      subst hov
      have HB4 := Lib.hid (HB3.out.trans (hb.mono hz3))
      clear hown hb hO hOe
      go_wp2_with fail
      refine hri.mono ?_
      rintro e w6 ⟨v6, rfl, hl6, hb6⟩
      go_wp2
      go_ret
      refine ⟨_, rfl, hl6, ?_⟩
      exact HB4.out.trans (hb6.mono hz3)

theorem pickL_le {N : List Gl.Nm} (h : Sm N) (m : Gl.Nm → Bool) : (Gl.pickL N m).length ≤ 800 := by
  unfold Gl.pickL
  have h1 := rise_len ((N ++ Gl.aheadL N).filter m)
  have h2 := List.length_filter_le m (N ++ Gl.aheadL N)
  have h3 := aheadL_len h
  have h4 := h.len
  rw [List.length_append] at h2
  omega

set_option maxHeartbeats 2000000 in
set_option maxRecDepth 100000 in
theorem walk_picks (v : Value) (L : List ByteArray) (B0 P0 : ByteArray) (w : World) (hv : Nms w v L) (hL : L.length ≤ 9223372036854775807) (hM : Ml w) :
    Calls Tryd.prog 7 #[v, .string B0, .string P0] w fun e w' => e = .returned (.bool true) ∧ Below w.heap.size w w' := by
  have hp := short_any B0
  have hn := short_any P0
  have hP := shortS_le B0
  have hN := shortS_le P0
  generalize shortS B0 = bs at *
  generalize shortS P0 = pt at *
  have hf1 := few_any v L w hv hL
  have HF2 := Lib.hid (fun w' (h : Below w.heap.size w w') => few_any v L w' (hv.below h) hL)
  obtain ⟨a, c, rfl, _⟩ := id hv
  have hsm : Sm ((fewS L).map (fun s : ByteArray => s.data.toList)) := by
    refine ⟨by rw [List.length_map]; exact fewS_len L, fun s hs => ?_⟩
    obtain ⟨x, hx, rfl⟩ := List.mem_map.1 hs
    rw [← Lib.size_eq]
    exact fewS_le hx
  have hback : fewS L = ((fewS L).map (fun s : ByteArray => s.data.toList)).map mkS := by
    rw [List.map_map]
    conv => lhs; rw [← List.map_id (fewS L)]
    apply List.map_congr_left
    intro s _
    exact (mkS_data s).symm
  rw [hback] at hf1 HF2
  generalize (fewS L).map (fun s : ByteArray => s.data.toList) = N at *
  have hlen := hsm.len
  have HLIVE := Lib.hid (fun (w' : World) (h : Below w.heap.size w w') => live_true w' (hM.below h))
  clear hM hback hv
  go_enter Tryd.func7, Tryd.ntmps7
  go_wp2_with fail
  refine hf1.mono ?_
  rintro e w1 ⟨v1, rfl, hl1, hb1⟩
  obtain ⟨a1, c1, rfl⟩ := hl1.shapeN
  have HB1 := Lib.hid hb1
  have HL1 := Lib.hid hl1
  have hah := ahead_any _ N w1 hl1 hsm
  clear hl1 hb1 hf1
  go_wp2_with (first
    | (go_at_call 8; first | (with_reducible refine (hp _).mono ?_; rintro e w' ⟨rfl, rfl⟩) | (with_reducible refine (hn _).mono ?_; rintro e w' ⟨rfl, rfl⟩)))
  refine hah.mono ?_
  rintro e w2 ⟨v2, rfl, hl2, hb2⟩
  have HB2 := Lib.hid (HB1.out.trans (hb2.mono HB1.out.size))
  have HL2 := Lib.hid (HL1.out.below hb2)
  have hra := refAhead _ N w2 HL2.out hsm
  have HA2 := Lib.hid hl2
  obtain ⟨a2, c2, rfl⟩ := hl2.shapeN
  clear hl2 hb2 hah HL1 HB1
  go_wp2_with fail
  refine hra.mono ?_
  rintro e w3 ⟨v3, rfl, hl3, hb3⟩
  have hsa := Same_any _ _ _ _ w3 (HA2.out.below hb3) hl3 (by rw [List.length_map]; have := aheadL_len hsm; omega)
  rw [decide_eq_true rfl] at hsa
  have HB3 := Lib.hid (HB2.out.trans (hb3.mono HB2.out.size))
  have HL3 := Lib.hid (HL2.out.below hb3)
  obtain ⟨a3, c3, rfl⟩ := hl3.shapeN
  clear hl3 hb3 hra HL2 HB2 HA2
  go_wp2_with fail
  refine hsa.mono ?_
  rintro e w4 ⟨rfl, hb4⟩
  have HB4 := Lib.hid (HB3.out.trans (hb4.mono HB3.out.size))
  have HL4 := Lib.hid (HL3.out.below hb4)
  have hpk := pick_any _ N bs pt w4 HL4.out hsm hP hN
  clear hb4 hsa HL3 HB3
  go_wp2_with fail
  refine hpk.mono ?_
  rintro e w5 ⟨v5, rfl, hl5, hb5⟩
  have HB5 := Lib.hid (HB4.out.trans (hb5.mono HB4.out.size))
  have HL5 := Lib.hid (HL4.out.below hb5)
  have hrp := refPick _ N bs pt w5 HL5.out hsm hP hN
  have HA5 := Lib.hid hl5
  have hpl := pickL_le hsm (fun x => globB (bs ++ pt) (mkS x))
  generalize Gl.pickL N (fun x => globB (bs ++ pt) (mkS x)) = R at *
  obtain ⟨a5, c5, rfl⟩ := hl5.shapeN
  clear hl5 hb5 hpk HL4 HB4
  go_wp2_with fail
  refine hrp.mono ?_
  rintro e w6 ⟨v6, rfl, hl6, hb6⟩
  have hsb := Same_any _ _ _ _ w6 (HA5.out.below hb6) hl6 (by rw [List.length_map]; omega)
  rw [decide_eq_true rfl] at hsb
  have HB6 := Lib.hid (HB5.out.trans (hb6.mono HB5.out.size))
  have HL6 := Lib.hid (HL5.out.below hb6)
  obtain ⟨a6, c6, rfl⟩ := hl6.shapeN
  clear hl6 hb6 hrp HL5 HB5 HA5
  go_wp2_with fail
  refine hsb.mono ?_
  rintro e w7 ⟨rfl, hb7⟩
  have HB7 := Lib.hid (HB6.out.trans (hb7.mono HB6.out.size))
  have HL7 := Lib.hid (HL6.out.below hb7)
  clear hb7 hsb HL6 HB6
  go_wp2_with fail
  refine (HLIVE.out _ HB7.out).mono ?_
  rintro e w8 ⟨rfl, hb8⟩
  have HB8 := Lib.hid (HB7.out.trans (hb8.mono HB7.out.size))
  have HL8 := Lib.hid (HL7.out.below hb8)
  clear hb8 HL7 HB7
  go_wp2_with fail
  refine (HF2.out _ HB8.out).mono ?_
  rintro e w9 ⟨v9, rfl, hl9, hb9⟩
  have hsc := Same_any _ _ _ _ w9 (HL8.out.below hb9) hl9 (by rw [List.length_map]; omega)
  rw [decide_eq_true rfl] at hsc
  have HB9 := Lib.hid (HB8.out.trans (hb9.mono HB8.out.size))
  obtain ⟨a9, c9, rfl⟩ := hl9.shapeN
  clear hl9 hb9 HL8 HB8
  go_wp2_with fail
  refine hsc.mono ?_
  rintro e w10 ⟨rfl, hb10⟩
  go_wp2
  go_ret
  exact ⟨rfl, HB9.out.trans (hb10.mono HB9.out.size)⟩
end Go.Proofs.YtnglmaebmabdcaaDoor
