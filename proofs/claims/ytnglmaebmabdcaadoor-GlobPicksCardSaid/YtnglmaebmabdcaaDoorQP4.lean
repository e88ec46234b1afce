/- Glob: the document's Ahead. -/
import Derived.Test.YtnglmaebmabdcaaDoorQP3
import Derived.Test.YtnglmaebmabdcaaDoorQP1c
namespace Go.Proofs.YtnglmaebmabdcaaDoor
open Go Go.RowKit

/-- Names that are few and short. -/
structure Sm (N : List Gl.Nm) : Prop where
  len : N.length ≤ 12
  le : ∀ s, s ∈ N → s.length ≤ 60
/-- Where the document stands. -/
structure AhS (N : List Gl.Nm) (i k : Nat) (O : List Gl.Nm) : Prop where
  asc : Gl.Asc O
  mem : ∀ x, x ∈ O ↔ Gl.AhAt N i k x
theorem mk_take (s : List UInt8) (k : Nat) : (mkS s).extract 0 k = mkS (s.take k) := by rw [take_str]; rfl
theorem mk_size (s : List UInt8) : (mkS s).size = s.length := by rw [Lib.size_eq]; rfl

set_option maxHeartbeats 2000000 in
set_option maxRecDepth 100000 in
theorem refAhead (v : Value) (N : List Gl.Nm) (w : World) (hv : Ltr w v (N.map mkS)) (hN : Sm N) :
    Calls Tryd.prog 22 #[v] w fun e w' => ∃ v', e = .returned v' ∧ Ltr w' v' ((Gl.aheadL N).map mkS) ∧ Below w.heap.size w w' := by
  obtain ⟨a, c, rfl⟩ := hv.shapeN
  have HV := Lib.hid hv
  have hlen := hN.len
  have HLE := Lib.hid hN.le
  have hb0 : Below w.heap.size w (w.alloc (.cells #[] 9)) := (Below.refl _ w).alloc (Nat.le_refl _) _
  have HO := Lib.hid (show Ltr (w.alloc (.cells #[] 9)) (.slice (some ⟨w.heap.size, 0, none⟩) 0 0) (([] : List Gl.Nm).map mkS) from Ltr.new w [] _ _ (Nat.le_refl _))
  have HB := Lib.hid hb0
  clear hv hb0 hN
  go_enter Tryd.func22, Tryd.ntmps22
  go_wp2
  go_loopw [3, 4] (fun v3 x4 wr => ∃ (i : Nat) (O : List Gl.Nm), x4 = .int .i64 (i : Int) ∧ i ≤ N.length ∧ Hid (AhS N i 0 O) ∧ Ltr wr v3 (O.map mkS) ∧ O.length ≤ i * 61 ∧ Below w.heap.size w wr) (fun _ x4 _ => N.length - (intOf x4).toNat)
  case atStart => exact ⟨0, [], rfl, Nat.zero_le _, Lib.hid ⟨List.Pairwise.nil, fun x => ⟨fun h => by simp at h, fun h => absurd h (Gl.AhAt.zero N x)⟩⟩, HO.out, by simp, HB.out⟩
  case round =>
    obtain ⟨i, O, rfl, hi, hS, hO, hOl, hb⟩ := hrel
    obtain ⟨wO, rfl⟩ : ∃ wO, wO = wr := ⟨_, rfl⟩
    clear HO HB
    obtain ⟨oa, oc, rfl⟩ := hO.shapeN
    have HOO := Lib.hid hO
    have HBB := Lib.hid hb
    clear hO hb
    by_cases hlt : i < N.length
    · have hlti : (i : Int) < (N.length : Int) := by omega
      obtain ⟨g, c', e, hg, hcc⟩ := HV.out.get hlt
      injection e with e1 _ e3
      subst e1; subst e3
      have HSI := Lib.hid (show N[i]? = some N[i] from List.getElem?_eq_getElem hlt)
      have hsl : (N[i]).length ≤ 60 := HLE.out _ (List.getElem_mem hlt)
      generalize N[i] = s at *
      have HCC := Lib.hid hcc
      have HSZ := Lib.hid (mk_size s)
      have HTK := Lib.hid (mk_take s)
      have HBY : Hid (∀ k (h2 : k < (mkS s).size), byt (mkS s) k = ((mkS s)[k]'h2).toNat) := Lib.hid (fun k h2 => byt_at (mkS s) k h2)
      have HBL : Hid (∀ k, k < s.length → s[k]? = some (UInt8.ofNat (byt (mkS s) k))) := Lib.hid (fun k hk => byt_list (mkS s) k (by rw [mk_size]; exact hk))
      have hzs : (mkS s).size = s.length := mk_size s
      clear hcc
      generalize hS0 : mkS s = S at *
      clear hS0
      go_wp2
      go_loopw [3, 5] (fun v3 x5 wr => ∃ (k : Nat) (O : List Gl.Nm), x5 = .int .i64 (k : Int) ∧ 1 ≤ k ∧ k ≤ s.length + 1 ∧ Hid (AhS N i k O) ∧ Ltr wr v3 (O.map mkS) ∧ O.length ≤ i * 61 + k ∧ Below w.heap.size w wr) (fun _ x5 _ => s.length + 1 - (intOf x5).toNat)
      case atStart => exact ⟨1, O, rfl, Nat.le_refl _, by omega, Lib.hid ⟨hS.out.asc, fun x => (hS.out.mem x).trans (Gl.AhAt.one N i x).symm⟩, HOO.out, by omega, HBB.out⟩
      case round =>
        obtain ⟨k, O2, rfl, hk1, hk, hS2, hO2, hOl2, hb2⟩ := hrel
        clear hS HOO hOl
        obtain ⟨oa2, oc2, rfl⟩ := hO2.shapeN
        have hcw := (hb2.cell (p := ⟨g, i, none⟩) hg).trans HCC.out
        have hz2 := hb2.size
        by_cases hkl : k < s.length
        · have hkS : k < S.size := by omega
          have hkSi : (k : Int) < (S.size : Int) := by omega
          have hbc := HBY.out k hkS
          have hbl := HBL.out k hkl
          by_cases hc : byt S k = 47
          · have q1 : (((S[k]'hkS).toNat : Int) == 47) = true := by rw [← hbc, hc]; rfl
            have hin := in_any _ N (s.take k) wr (HV.out.below hb2) (by omega)
            rw [← HTK.out k] at hin
            have hc47 : s[k]? = some 47 := by rw [hc] at hbl; exact hbl
            by_cases hmem : s.take k ∈ N
            · rw [decide_eq_true hmem] at hin
              have HN2 := Lib.hid (show AhS N i (k + 1) O2 from ⟨hS2.out.asc, fun x => (hS2.out.mem x).trans (Gl.AhAt.skip HSI.out (.inr hmem) x).symm⟩)
              have HOO := Lib.hid hO2
              have HBB := Lib.hid hb2
              clear hO2 hb2 hbl hc47 hmem hS2 hbc
              go_wp2_with (first | (go_at_call 34; refine hin.mono ?_; rintro e w' ⟨rfl, rfl⟩))
              refine ⟨⟨k + 1, O2, rfl, by omega, by omega, HN2, HOO.out, by omega, HBB.out⟩, ?_⟩
              simp [intOf] <;> omega
            · rw [decide_eq_false hmem] at hin
              have HN2 := Lib.hid (show AhS N i (k + 1) (Gl.lay O2 (s.take k)) from ⟨Gl.lay_asc _ hS2.out.asc, fun x => (Gl.lay_mem _ _ x).trans ((or_congr (hS2.out.mem x) Iff.rfl).trans (Gl.AhAt.step HSI.out (by omega) hc47 hmem x).symm)⟩)
              have hly := lay_any _ O2 (s.take k) wr hO2 (by omega)
              rw [← HTK.out k] at hly
              have HLL := Lib.hid (Gl.lay_len O2 (s.take k))
              have HBB := Lib.hid hb2
              clear hO2 hb2 hbl hc47 hmem hS2 hbc
              go_wp2_with (first | (go_at_call 34; refine hin.mono ?_; rintro e w' ⟨rfl, rfl⟩) | (go_at_call 35; refine hly.mono ?_; rintro e w3 ⟨v3, rfl, hl3, hb3⟩))
              refine ⟨⟨k + 1, Gl.lay O2 (s.take k), rfl, by omega, by omega, HN2, hl3, by have := HLL.out; omega, HBB.out.trans (hb3.mono HBB.out.size)⟩, ?_⟩
              simp [intOf] <;> omega
          · have q1 : (((S[k]'hkS).toNat : Int) == 47) = false := by rw [← hbc, beq_eq_false_iff_ne]; omega
            have HN2 := Lib.hid (show AhS N i (k + 1) O2 from ⟨hS2.out.asc, fun x => (hS2.out.mem x).trans (Gl.AhAt.skip HSI.out (.inl (by
              intro h
              rw [hbl] at h
              have h1 := congrArg UInt8.toNat (Option.some.inj h)
              have hlt256 : byt S k < 256 := (S.get! k).toNat_lt
              exact hc (by simpa [Nat.mod_eq_of_lt hlt256] using h1))) x).symm⟩)
            have HOO := Lib.hid hO2
            have HBB := Lib.hid hb2
            clear hO2 hb2 hbl hS2 hbc
            go_wp2
            refine ⟨⟨k + 1, O2, rfl, by omega, by omega, HN2, HOO.out, by omega, HBB.out⟩, ?_⟩
            simp [intOf] <;> omega
        · have hkSi : ¬ (k : Int) < (S.size : Int) := by omega
          have HN2 := Lib.hid (show AhS N (i + 1) 0 O2 from ⟨hS2.out.asc, fun x => (hS2.out.mem x).trans (Gl.AhAt.row HSI.out (by omega) x)⟩)
          have HOO := Lib.hid hO2
          have HBB := Lib.hid hb2
          clear hO2 hb2 hS2
          go_wp2
          refine ⟨⟨i + 1, O2, rfl, by omega, HN2, HOO.out, by omega, HBB.out⟩, ?_⟩
          simp [intOf] <;> omega
    · have hE : O = Gl.aheadL N := Gl.Asc.ext hS.out.asc (Gl.rise_both _).1 fun x => ((hS.out.mem x).trans (Gl.AhAt.end (by omega) x)).trans (Gl.mem_aheadL N x).symm
      have HE := Lib.hid hE
      clear hE hS
      go_wp2
      go_ret
      exact ⟨_, rfl, HE.out ▸ HOO.out, HBB.out⟩
end Go.Proofs.YtnglmaebmabdcaaDoor
