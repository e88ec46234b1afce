/- Glob: the document's lay. -/
import Derived.Test.YtnglmaebmabdcaaDoorQP2
import Derived.Sort.Walk0
namespace Go.Proofs.YtnglmaebmabdcaaDoor
open Go Go.RowKit

set_option maxHeartbeats 1000000 in
set_option maxRecDepth 100000 in
theorem lay_any (v : Value) (N : List Gl.Nm) (s : List UInt8) (w : World) (hv : Ltr w v (N.map mkS)) (hN : N.length ≤ 100000) :
    Calls Tryd.prog 35 #[v, .string (mkS s)] w fun e w' => ∃ v', e = .returned v' ∧ Ltr w' v' ((Gl.lay N s).map mkS) ∧ Below w.heap.size w w' := by
  obtain ⟨i0, hi0, hz0, hz1, hz2⟩ := info_parts info9
  have hb0 : Below w.heap.size w (w.alloc (.cells #[] 9)) := (Below.refl _ w).alloc (Nat.le_refl _) _
  have ho0 : (w.alloc (.cells #[] 9)).ownsRow w.heap.size 9 1 (.slice (some ⟨w.heap.size, 0, none⟩) 0 0) 0 [] := World.ownsRow_lit (size := 1) w #[] 0 (Nat.le_refl _) (by decide) rfl
  obtain ⟨W1, hW1⟩ : ∃ W1, w.alloc (.cells #[] 9) = W1 := ⟨_, rfl⟩
  rw [hW1] at hb0 ho0
  have hin := in_any v N s W1 (hv.below hb0) (by omega)
  obtain ⟨a, c, rfl⟩ := hv.shapeN
  have HV := Lib.hid hv
  have HO := Lib.hid ho0
  have HB := Lib.hid hb0
  have HSS := Lib.hid (mkS_toList s)
  clear hv hb0 ho0
  obtain ⟨D, hD⟩ : ∃ D, decide (s ∈ N) = D := ⟨_, rfl⟩
  have HR := Lib.hid (show Gl.lays D N s = Gl.lay N s from by rw [← hD]; rfl)
  rw [hD] at hin
  clear hD
  generalize hs : mkS s = S at *
  have HS := Lib.hid hs
  clear hs
  go_enter Tryd.func35, Tryd.ntmps35
  go_wp2_with (first | rw [hW1] | (go_at_call 34; refine hin.mono ?_; rintro e w' ⟨rfl, rfl⟩))
  go_loopw [5, 6, 7] (fun v5 x6 x7 wr => ∃ (k : Nat) (d : Bool) (O : List Gl.Nm), x7 = .int .i64 (k : Int) ∧ x6 = .bool d ∧ k ≤ N.length ∧ O.length ≤ k + 1 ∧ Hid (O ++ Gl.lays d (N.drop k) s = Gl.lay N s) ∧ wr.ownsRow w.heap.size 9 1 v5 O.length ((O.map mkS).map Value.string) ∧ Below w.heap.size w wr ∧ (d = false → O.length ≤ k)) (fun _ _ x7 _ => N.length - (intOf x7).toNat)
  case atStart => exact ⟨0, D, [], rfl, rfl, Nat.zero_le _, by simp, Lib.hid HR.out, HO.out, HB.out, fun _ => by simp⟩
  case round =>
    obtain ⟨k, d, O, rfl, rfl, hk, hOl, hR, hown, hb, hOd⟩ := hrel
    clear HO HB
    have hz := hb.size
    by_cases hlt : k < N.length
    · have hlti : (k : Int) < (N.length : Int) := by omega
      obtain ⟨g, c', e, hg, hcc⟩ := HV.out.get hlt
      injection e with e1 _ e3
      subst e1; subst e3
      have hcw := (hb.cell (p := ⟨g, k, none⟩) hg).trans hcc
      have hdr : N.drop k = N[k] :: N.drop (k + 1) := List.drop_eq_getElem_cons hlt
      clear hcc
      obtain ⟨x, hx0⟩ : ∃ x, N[k] = x := ⟨_, rfl⟩
      have HX0 := Lib.hid hx0
      rw [hx0] at hcw hdr
      clear hx0
      have hR2 := hR.out
      rw [hdr] at hR2
      have HXX := Lib.hid (mkS_toList x)
      cases d with
      | true =>
        have HN : Hid ((O ++ [x]) ++ Gl.lays true (N.drop (k + 1)) s = Gl.lay N s) := Lib.hid (by rw [Gl.lays, if_neg (by simp)] at hR2; simpa using hR2)
        clear hR hR2 hdr hOd
        generalize hX : mkS x = X at *
        have HX := Lib.hid hX
        clear hX
        go_wp2_with (first | (at_builtin; refine wpList_append_own _ rfl _ _ 26 rfl w.heap.size 9 i0 (.string ⟨#[]⟩) 1 16 Tryd.underlying26 hi0 hz0 hz1 hz2 rfl (by decide) _ _ _ rfl (hown.alloc _) ⟨wr.heap.size, 0, none⟩ 1 1 [.string (X)] rfl rfl (cell_one_new _ _ _) (by intro u hu; simp at hu; subst hu; rfl) (by unfold maxLen; omega) (by omega) (by simp; omega) ?_))
        intro v' w2 hown2 hgrow _
        have hb3 := below_grown (hb.alloc (by omega) _) (hown.alloc _) (by simp; omega) hgrow
        have HO := Lib.hid hown2
        clear hown hown2 hgrow hb
        go_wp2
        refine ⟨⟨k + 1, true, O ++ [x], rfl, rfl, by omega, by simp; omega, HN, ?_, hb3, fun h => by cases h⟩, ?_⟩
        · rw [List.length_append, List.map_append, List.map_append, List.map_singleton, HX.out]
          simpa using HO.out
        · simp [intOf] <;> omega
      | false =>
        have hOk := hOd rfl
        clear hOd
        by_cases hlo : s < x
        · have hq : Op.bytesLess S.toList (mkS x).toList = true := by rw [HSS.out, HXX.out, bytesLess_eq]; exact decide_eq_true hlo
          have HN : Hid ((O ++ [s, x]) ++ Gl.lays true (N.drop (k + 1)) s = Gl.lay N s) := Lib.hid (by rw [Gl.lays, if_pos ⟨rfl, hlo⟩] at hR2; simpa using hR2)
          clear hR hR2 hdr hlo
          generalize hX : mkS x = X at *
          have HX := Lib.hid hX
          clear hX
          go_wp2_with (first | (at_builtin; refine wpList_append_own _ rfl _ _ 26 rfl w.heap.size 9 i0 (.string ⟨#[]⟩) 1 16 Tryd.underlying26 hi0 hz0 hz1 hz2 rfl (by decide) _ _ _ rfl (hown.alloc _) ⟨wr.heap.size, 0, none⟩ 1 1 [.string (S)] rfl rfl (cell_one_new _ _ _) (by intro u hu; simp at hu; subst hu; rfl) (by unfold maxLen; omega) (by omega) (by simp; omega) ?_))
          intro v' w2 hown2 hgrow _
          have hb3 := below_grown (hb.alloc (by omega) _) (hown.alloc _) (by simp; omega) hgrow
          clear hown hgrow hb
          have hz3 := hb3.size
          have hcw2 := (hb3.cell (p := ⟨g, k, none⟩) hg).trans (HV.out.get hlt |>.elim fun g' h' => h'.elim fun c'' h'' => by
            obtain ⟨e, _, h3⟩ := h''
            injection e with e1 _ _
            injection e1 with e1
            injection e1 with e1
            subst e1
            exact h3)
          have HNk := HX0.out
          rw [HNk, HX.out] at hcw2
          go_wp2_with (first | (at_builtin; refine wpList_append_own _ rfl _ _ 26 rfl w.heap.size 9 i0 (.string ⟨#[]⟩) 1 16 Tryd.underlying26 hi0 hz0 hz1 hz2 rfl (by decide) _ _ _ rfl (hown2.alloc _) ⟨w2.heap.size, 0, none⟩ 1 1 [.string (X)] rfl rfl (cell_one_new _ _ _) (by intro u hu; simp at hu; subst hu; rfl) (by unfold maxLen; omega) (by omega) (by simp; omega) ?_))
          intro v4 w4 hown4 hgrow4 _
          have hb5 := below_grown (hb3.alloc (by omega) _) (hown2.alloc _) (by simp; omega) hgrow4
          have HO := Lib.hid hown4
          clear hown2 hown4 hgrow4 hb3
          go_wp2
          refine ⟨⟨k + 1, true, O ++ [s, x], rfl, rfl, by omega, by simp; omega, HN, ?_, hb5, fun h => by cases h⟩, ?_⟩
          · rw [List.length_append, List.map_append, List.map_append]
            simp only [List.map_cons, List.map_nil, HX.out, HS.out]
            simpa using HO.out
          · simp [intOf] <;> omega
        · have hq : Op.bytesLess S.toList (mkS x).toList = false := by rw [HSS.out, HXX.out, bytesLess_eq]; exact decide_eq_false hlo
          have HN : Hid ((O ++ [x]) ++ Gl.lays false (N.drop (k + 1)) s = Gl.lay N s) := Lib.hid (by rw [Gl.lays, if_neg (by simp [hlo])] at hR2; simpa using hR2)
          clear hR hR2 hdr hlo
          generalize hX : mkS x = X at *
          have HX := Lib.hid hX
          clear hX
          go_wp2_with (first | (at_builtin; refine wpList_append_own _ rfl _ _ 26 rfl w.heap.size 9 i0 (.string ⟨#[]⟩) 1 16 Tryd.underlying26 hi0 hz0 hz1 hz2 rfl (by decide) _ _ _ rfl (hown.alloc _) ⟨wr.heap.size, 0, none⟩ 1 1 [.string (X)] rfl rfl (cell_one_new _ _ _) (by intro u hu; simp at hu; subst hu; rfl) (by unfold maxLen; omega) (by omega) (by simp; omega) ?_))
          intro v' w2 hown2 hgrow _
          have hb3 := below_grown (hb.alloc (by omega) _) (hown.alloc _) (by simp; omega) hgrow
          have HO := Lib.hid hown2
          clear hown hown2 hgrow hb
          go_wp2
          refine ⟨⟨k + 1, false, O ++ [x], rfl, rfl, by omega, by simp; omega, HN, ?_, hb3, fun h => by simp; omega⟩, ?_⟩
          · rw [List.length_append, List.map_append, List.map_append, List.map_singleton, HX.out]
            simpa using HO.out
          · simp [intOf] <;> omega
    · have hkl : k = N.length := by omega
      have hR2 := hR.out
      rw [List.drop_of_length_le (by omega)] at hR2
      cases d with
      | true =>
        have HE : Hid (O = Gl.lay N s) := Lib.hid (by rw [← hR2]; simp [Gl.lays])
        have HO := Lib.hid (Ltr.of (L := O.map mkS) (by rw [List.length_map]; exact hown))
        have HB := Lib.hid hb
        clear hown hb hR hR2 hOd
        go_wp2
        go_ret
        exact ⟨_, rfl, HE.out ▸ HO.out, HB.out⟩
      | false =>
        have hOk := hOd rfl
        have HE : Hid (O ++ [s] = Gl.lay N s) := Lib.hid (by rw [← hR2]; simp [Gl.lays])
        clear hR hR2 hOd
        go_wp2_with (first | (at_builtin; refine wpList_append_own _ rfl _ _ 26 rfl w.heap.size 9 i0 (.string ⟨#[]⟩) 1 16 Tryd.underlying26 hi0 hz0 hz1 hz2 rfl (by decide) _ _ _ rfl (hown.alloc _) ⟨wr.heap.size, 0, none⟩ 1 1 [.string (S)] rfl rfl (cell_one_new _ _ _) (by intro u hu; simp at hu; subst hu; rfl) (by unfold maxLen; omega) (by omega) (by simp; omega) ?_))
        intro v' w2 hown2 hgrow _
        have hb3 := below_grown (hb.alloc (by omega) _) (hown.alloc _) (by simp; omega) hgrow
        have HO := Lib.hid hown2
        clear hown hown2 hgrow hb
        go_wp2
        go_ret
        refine ⟨_, rfl, ?_, hb3⟩
        rw [← HE.out]
        refine Ltr.of (B := w.heap.size) ?_
        rw [List.map_append, List.map_append, List.map_singleton, List.length_append, List.length_map, HS.out]
        simpa using HO.out
end Go.Proofs.YtnglmaebmabdcaaDoor
