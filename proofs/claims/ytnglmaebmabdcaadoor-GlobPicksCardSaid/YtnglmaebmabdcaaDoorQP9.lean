/- Glob: Ahead. -/
import Derived.Test.YtnglmaebmabdcaaDoorQP8
namespace Go.Proofs.YtnglmaebmabdcaaDoor
open Go Go.RowKit Go.Maps

theorem Kn.below' {w w' : World} {p b n : Nat} {l : List Gl.Nm} (h : Kn w p b n l) {B : Nat} (hb : Below B w w') (hp : p < B) : Kn w' p b n l := by
  refine ⟨(hb.cell (p := ⟨p, 0, none⟩) hp).trans h.c0, ?_, h.ne⟩
  obtain ⟨es, clock, h1, h2⟩ := h.own
  exact ⟨es, clock, (hb.block b (by have := h.ne; omega)).trans h1, h2⟩
theorem wpList_insert_own {H : Type} {P : Program} (w : World) {ops : Array Oper} {rest : List Oper} {o : Oper} {a : Act} {Q : Exit → Act → World → Prop}
    (hg : o.guard = none) (m x v : Operand) (t : TypeId) (hop : o.op = Op.insert t m x v)
    (k e : TypeId) (K : Keyed P k) (ht : P.underlying t = some (.map k e)) (R : Value → Option (DataW H × List MemPlace)) (b n : Nat) (D : DataW H)
    (hm : a.eval m = .map (some b)) (hown : w.ownsMap P k R b n D) (hn : n < maxLen) (key val : Value) (kl : Lit) (hx : a.eval x = key) (hv : a.eval v = val) (hkey : keyOf P k key = some kl)
    (d : DataW H) (ps : List MemPlace) (hval : R val = some (d, ps))
    (hK : ∀ w', w'.ownsMap P k R b (n + 1) (D.put kl d) → w.grownBy w' (some b) → wpList P ops Q rest (a.put o.dst undef) w') :
    wpList P ops Q (o :: rest) a w := by
  refine wpList_plain hg fun K' hK' => ?_
  obtain ⟨w', hrun, r1, r2⟩ := hown.update K ht hn hkey hval
  unfold Oper.wp
  simp [execOp, hop, hm, hx, hv, hrun, Result.andThen]
  exact hK' _ _ (hK w' r1 r2)

set_option maxHeartbeats 1000000 in
set_option maxRecDepth 100000 in
theorem idx_nil (f : Value) (w : World) : Calls Tryd.prog 42 #[.slice none 0 0, f] w fun e w' => e = .returned (.int .i64 (-1)) ∧ w' = w := by
  go_enter Tryd.func42, Tryd.ntmps42
  go_wp2
  refine wp_loop_rounds 1 ?_
  rw [rounds_succ]
  go_wp2
  go_ret
  exact ⟨rfl, rfl⟩
set_option maxHeartbeats 1000000 in
set_option maxRecDepth 100000 in
theorem del_nil (f : Value) (w : World) : Calls Tryd.prog 31 #[.slice none 0 0, f] w fun e w' => e = .returned (.slice none 0 0) ∧ w' = w := by
  have hi := idx_nil f w
  go_enter Tryd.func31, Tryd.ntmps31
  go_wp2_with fail
  refine hi.mono ?_
  rintro e w1 ⟨rfl, rfl⟩
  go_wp2
  go_ret
  exact ⟨rfl, rfl⟩
theorem del_any (B : Nat) (v : Value) (qs : List Gl.Nm) (p b n : Nat) (l : List Gl.Nm) (w : World) (h : HsV B w v qs) (hB : B ≤ w.heap.size) (hpB : p < B) (hbB : b < B) (hk : Kn w p b n l) (hn : qs.length ≤ 100000) (hq : ∀ x, x ∈ qs → x.length ≤ 1000) :
    Calls Tryd.prog 31 #[v, .func (.func 32) #[] #[.pointer (some ⟨p, 0, none⟩)]] w fun e w' =>
      ∃ v', e = .returned v' ∧ HsV B w' v' (qs.filter (fun x => !decide (x ∈ l))) ∧ Below B w w' := by
  rcases h with ⟨rfl, rfl⟩ | ⟨g, c, rfl, hlc, hBg, hgl, hrow⟩
  · refine (del_nil _ w).mono ?_
    rintro e w' ⟨rfl, rfl⟩
    exact ⟨_, rfl, .inl ⟨rfl, rfl⟩, (Below.refl _ _).mono hB⟩
  · refine (delN_any B g c qs p b n l w hrow hgl hB hBg (by omega) (by omega) hk hlc hn hq).mono ?_
    rintro e w' ⟨rs, rfl, rfl, h1, h2⟩
    exact ⟨_, rfl, .inr ⟨g, c, rfl, Nat.le_trans (List.length_filter_le _ _) hlc, hBg, Nat.lt_of_lt_of_le hgl h2.size, h1⟩, h2⟩

theorem pre_sign (s : List UInt8) (k : Nat) : Lib.hasPrefix (s.drop k) [47] = decide (s[k]? = some 47) := by
  unfold Lib.hasPrefix
  have h0 : s[k]? = (s.drop k)[0]? := by rw [List.getElem?_drop, Nat.add_zero]
  rw [h0]
  cases s.drop k with
  | nil => simp
  | cons a t =>
    by_cases h : a = 47
    · subst h; simp [List.isPrefixOf]
    · simp [List.isPrefixOf, h, Ne.symm h]
/-- Where the program stands. -/
def allT (N : List Gl.Nm) (i : Nat) : List Gl.Nm := (N.take i).flatMap fun s => Gl.ahs s s.length
theorem allT_succ {N : List Gl.Nm} {i : Nat} {s : Gl.Nm} (h : N[i]? = some s) : allT N (i + 1) = allT N i ++ Gl.ahs s s.length := by
  unfold allT
  rw [List.take_add_one, h, List.flatMap_append]
  simp
theorem allT_end {N : List Gl.Nm} {i : Nat} (h : N.length ≤ i) : allT N i = Gl.allA N := by unfold allT Gl.allA; rw [List.take_of_length_le h]
theorem own_less {w : World} {base base' : Nat} {e : TypeId} {size : Nat} {v : Value} {n : Nat} {xs : List Value} (h : w.ownsRow base e size v n xs) (hb : base' ≤ base) : w.ownsRow base' e size v n xs :=
  ⟨h.1, h.2.imp id fun ⟨g, cap, cur, e, h2, rest⟩ => ⟨g, cap, cur, e, Nat.le_trans hb h2, rest⟩⟩
theorem own_grown {w w' : World} {base : Nat} {e : TypeId} {size : Nat} {v : Value} {n : Nat} {xs : List Value} {b : Nat} (h : w.ownsRow base e size v n xs) (hg : w.grownBy w' (some b)) (hb : b < base) : w'.ownsRow base e size v n xs :=
  own_kept h fun g hgg => hg.block g (h.lt g hgg).2 (fun e => by injection e with e; have := (h.lt g hgg).1; omega)

set_option maxHeartbeats 4000000 in
set_option maxRecDepth 100000 in
theorem ahead_any (v : Value) (N : List Gl.Nm) (w : World) (hv : Ltr w v (N.map mkS)) (hN : Sm N) :
    Calls Tryd.prog 21 #[v] w fun e w' => ∃ v', e = .returned v' ∧ Ltr w' v' ((Gl.aheadL N).map mkS) ∧ Below w.heap.size w w' := by
  obtain ⟨i0, hi0, hz0, hz1, hz2⟩ := info_parts info9
  obtain ⟨a, c, rfl⟩ := hv.shapeN
  have HV := Lib.hid hv
  have hlen := hN.len
  have HLE := Lib.hid hN.le
  clear hv
  have hmm := @run_makeMap Tryd.prog
  have hkey0 := key_of [] (by simp)
  have hE : mkS [] = ⟨#[]⟩ := rfl
  rw [hE] at hkey0
  have hown0 : (w.alloc (.map #[] 0)).ownsMap Tryd.prog 9 (unitElem (H := Unit)) w.heap.size 0 (.map []) := World.ownsMap_made _ _ _ _
  go_enter Tryd.func21, Tryd.ntmps21
  go_wp2_with (first | (refine wpList_insert_own _ rfl _ _ _ 38 rfl 9 37 keyS Tryd.underlying38 (unitElem (H := Unit)) w.heap.size 0 _ rfl hown0 (by decide) _ _ _ rfl rfl hkey0 _ [] unitElem_mk ?_; intro w1 hown1 hgrow1))
  have hs1 : w.heap.size + 1 ≤ w1.heap.size := by have := hgrow1.size; simpa using this
  have hb1 : Below w.heap.size w w1 := ((Below.refl _ w).alloc (Nat.le_refl _) _).trans (below_grown' hgrow1 (Nat.le_refl _) (by simp))
  obtain ⟨W2, hW2⟩ : ∃ W2, w1.alloc (.cells #[.map (some w.heap.size)] 38) = W2 := ⟨_, rfl⟩
  have hb2 : Below w1.heap.size w1 W2 := by rw [← hW2]; exact (Below.refl _ w1).alloc (Nat.le_refl _) _
  have hK2 : Kn W2 w1.heap.size w.heap.size 1 [[]] := by
    refine ⟨by rw [← hW2]; exact World.cell?_alloc_new _ _ _ _, ?_, by omega⟩
    obtain ⟨es, clock, h1, h2⟩ := hown1
    exact ⟨es, clock, (hb2.block _ (Array.getElem?_eq_some_iff.1 h1).1).trans h1, h2⟩
  have hs2 : W2.heap.size = w1.heap.size + 1 := by rw [← hW2]; simp
  have HB2 := Lib.hid (hb1.trans (hb2.mono hb1.size))
  have HK2 := Lib.hid hK2
  clear hown1 hgrow1 hown0 hb1 hb2 hK2 hkey0 hE
  obtain ⟨P1, hP1⟩ : ∃ P1, w1.heap.size = P1 := ⟨_, rfl⟩
  rw [hP1] at hs1 hs2 HK2
  rw [hW2, hP1]
  clear hW2 hP1 hmm
  have hzu := zeroU
  go_loopw [4, 13] (fun v4 x13 wr => ∃ i : Nat, x13 = .int .i64 (i : Int) ∧ i ≤ N.length ∧ wr.ownsRow (P1 + 1) 9 1 v4 (allT N i).length (((allT N i).map mkS).map Value.string) ∧ Kn wr P1 w.heap.size (i + 1) ([] :: N.take i) ∧ Below w.heap.size w wr ∧ P1 + 1 ≤ wr.heap.size ∧ (allT N i).length ≤ i * 60) (fun _ x13 _ => N.length - (intOf x13).toNat)
  case atStart => exact ⟨0, rfl, Nat.zero_le _, World.ownsRow_nil _ _ _ _, HK2.out, HB2.out, by omega, by simp [allT]⟩
  case round =>
    obtain ⟨i, rfl, hi, hown, hkn, hb, hsz, hal⟩ := hrel
    clear HB2 HK2
    by_cases hlt : i < N.length
    · have hlti : (i : Int) < (N.length : Int) := by omega
      obtain ⟨g, c', e, hg, hcc⟩ := HV.out.get hlt
      injection e with e1 _ e3
      subst e1; subst e3
      have hcw := (hb.cell (p := ⟨g, i, none⟩) hg).trans hcc
      have hsi : N[i]? = some N[i] := List.getElem?_eq_getElem hlt
      have hsl : (N[i]).length ≤ 60 := HLE.out _ (List.getElem_mem hlt)
      have HAL := Lib.hid (allT_succ hsi)
      have HTK := Lib.hid (show [] :: N.take (i + 1) = ([] :: N.take i) ++ [N[i]] from by rw [List.take_succ_eq_append_getElem hlt]; rfl)
      clear hsi hcc
      generalize N[i] = s at *
      have hkey := key_of s (by omega)
      have hzs := mk_size s
      have HEX := Lib.hid (mk_take s)
      have HDR := Lib.hid (fun k => show ((mkS s).extract k (mkS s).size).data.toList = s.drop k from by rw [Lib.extract_to_end]; rfl)
      have hkc := hkn.c0
      have hko := hkn.own
      generalize hS0 : mkS s = S at *
      clear hS0
      go_wp2_with (first | (at_mapUpdate; refine wpList_mapUpdate_own _ rfl _ _ _ 38 rfl 9 37 keyS Tryd.underlying38 (unitElem (H := Unit)) w.heap.size (i + 1) _ rfl hko (by unfold maxLen; omega) _ _ _ rfl rfl hkey _ [] unitElem_mk ?_; intro w3 hown3 hgrow3))
      have hb3 : Below w.heap.size w w3 := hb.trans (below_grown' hgrow3 (Nat.le_refl _) (by omega))
      have hs3 : wr.heap.size ≤ w3.heap.size := hgrow3.size
      have hK3 : Kn w3 P1 w.heap.size (i + 1 + 1) ([] :: N.take (i + 1)) := by
        refine ⟨(World.cell?_of_block (a := ⟨P1, 0, none⟩) (hgrow3.block P1 (World.block_lt_of_cell? wr _ hkc) (fun e => by injection e with e; omega))).trans hkc, ?_, by omega⟩
        rw [HTK.out, setD_snoc]
        exact hown3
      have hO3 := own_grown hown hgrow3 (by omega)
      have HB3 := Lib.hid hb3
      have HK3 := Lib.hid hK3
      have HO3 := Lib.hid hO3
      have hs3' : P1 + 1 ≤ w3.heap.size := by omega
      clear hown hkn hb hown3 hgrow3 hkc hko hb3 hK3 hO3 hkey HTK hcw
      go_loopw [4, 22] (fun v4 x22 wr => ∃ k : Nat, x22 = .int .i64 (k : Int) ∧ k ≤ s.length ∧ wr.ownsRow (P1 + 1) 9 1 v4 (allT N i ++ Gl.ahs s k).length (((allT N i ++ Gl.ahs s k).map mkS).map Value.string) ∧ Kn wr P1 w.heap.size (i + 1 + 1) ([] :: N.take (i + 1)) ∧ Below w.heap.size w wr ∧ P1 + 1 ≤ wr.heap.size) (fun _ x22 _ => s.length - (intOf x22).toNat)
      case atStart => exact ⟨0, rfl, Nat.zero_le _, by rw [show allT N i ++ Gl.ahs s 0 = allT N i by simp [Gl.ahs]]; exact HO3.out, HK3.out, HB3.out, hs3'⟩
      case round =>
        obtain ⟨k, rfl, hk, hown, hkn, hb, hsz3⟩ := hrel
        clear HO3 HK3 HB3
        have hz := hb.size
        by_cases hkl : k < s.length
        · have hkli : (k : Int) < (s.length : Int) := by omega
          have hkS : (k : Int) ≤ (S.size : Int) := by omega
          have hpre := Tryd.strings_HasPrefix (S.extract k S.size) ⟨#[47]⟩ wr
          rw [HDR.out k, show (⟨#[47]⟩ : ByteArray).data.toList = [47] from rfl, pre_sign, hzs] at hpre
          have HSU := Lib.hid (Gl.ahs_succ s k)
          have hll : (allT N i ++ Gl.ahs s k).length ≤ 100000 := by have := Gl.ahs_len s k; rw [List.length_append]; omega
          cases hc : decide (s[k]? = some 47) with
          | true =>
            rw [hc] at hpre
            rw [if_pos (of_decide_eq_true hc)] at HSU
            clear hc
            have hex : (mkS (s.take k)) = S.extract 0 k := (HEX.out k).symm
            have HXX := Lib.hid hex
            have HKN := Lib.hid hkn
            clear hkn hex
            go_wp2_with fail
            refine hpre.mono ?_
            rintro e w' ⟨rfl, rfl⟩
            generalize hAA : allT N i ++ Gl.ahs s k = A at *
            have HAA := Lib.hid hAA
            clear hAA
            go_wp2_with (first | (at_builtin; refine wpList_append_own _ rfl _ _ 26 rfl (P1 + 1) 9 i0 (.string ⟨#[]⟩) 1 16 Tryd.underlying26 hi0 hz0 hz1 hz2 rfl (by decide) _ _ _ rfl (hown.alloc _) ⟨w'.heap.size, 0, none⟩ 1 1 [.string (S.extract 0 k)] rfl rfl (cell_one_new _ _ _) (by intro u hu; simp at hu; subst hu; rfl) (by unfold maxLen; omega) (by omega) (by simp; omega) ?_))
            intro v' w2 hown2 hgrow _
            have hbx := below_grown (hb.alloc (by omega) _) ((own_less hown (show w.heap.size ≤ P1 + 1 by omega)).alloc _) (by simp; omega) hgrow
            have hb4 : Below (P1 + 1) w' w2 := below_grown ((Below.refl _ w').mono hsz3 |>.alloc hsz3 _) (hown.alloc _) (by simp; omega) hgrow
            have HO := Lib.hid hown2
            have HK4 := Lib.hid (HKN.out.below' hb4 (by omega))
            have hs4 : P1 + 1 ≤ w2.heap.size := Nat.le_trans hsz3 hb4.size
            clear hown hown2 hgrow hb hb4
            go_wp2
            refine ⟨⟨k + 1, rfl, by omega, ?_, HK4.out, hbx, hs4⟩, ?_⟩
            · rw [HSU.out, ← List.append_assoc, HAA.out, List.length_append, List.map_append, List.map_append, List.map_singleton, HXX.out]
              simpa using HO.out
            · simp [intOf] <;> omega
          | false =>
            rw [hc] at hpre
            rw [if_neg (of_decide_eq_false hc)] at HSU
            clear hc
            have HO := Lib.hid hown
            have HKN := Lib.hid hkn
            have HB := Lib.hid hb
            clear hown hkn hb
            go_wp2_with fail
            refine hpre.mono ?_
            rintro e w' ⟨rfl, rfl⟩
            go_wp2
            refine ⟨⟨k + 1, rfl, by omega, ?_, HKN.out, HB.out, hsz3⟩, ?_⟩
            · rw [HSU.out, List.append_nil]
              exact HO.out
            · simp [intOf] <;> omega
        · have hke : k = s.length := by omega
          subst hke
          rw [← HAL.out] at hown
          have HO := Lib.hid hown
          have HKN := Lib.hid hkn
          have HB := Lib.hid hb
          have hll : (allT N (i + 1)).length ≤ (i + 1) * 60 := by
            rw [HAL.out, List.length_append]
            have := Gl.ahs_len s s.length
            omega
          clear hown hkn hb
          go_wp2
          refine ⟨⟨i + 1, rfl, by omega, HO.out, HKN.out, HB.out, hsz3, hll⟩, ?_⟩
          simp [intOf] <;> omega
    · have hfin := allT_end (N := N) (i := i) (by omega)
      rw [hfin] at hown hal
      rw [List.take_of_length_le (by omega)] at hkn
      have hqs : ∀ x, x ∈ Gl.allA N → x.length ≤ 1000 := by
        intro x hx
        unfold Gl.allA at hx
        obtain ⟨s, hs, hx⟩ := List.mem_flatMap.1 hx
        obtain ⟨j, _, _, rfl⟩ := Gl.mem_ahs.1 hx
        have := HLE.out s hs
        rw [List.length_take]; omega
      have hde := del_any (P1 + 1) _ (Gl.allA N) P1 w.heap.size (i + 1) ([] :: N) wr (HsV.of hown) hsz (by omega) (by omega) hkn (by omega) hqs
      have hfe : (Gl.allA N).filter (fun x => !decide (x ∈ ([] :: N))) = (Gl.allA N).filter (fun x => !Gl.known N x) := by
        congr 1
        funext x
        unfold Gl.known
        simp only [List.mem_cons]
      rw [hfe] at hde
      have HB := Lib.hid hb
      have hfl : ((Gl.allA N).filter (fun x => !Gl.known N x)).length ≤ 100000 := Nat.le_trans (List.length_filter_le _ _) (by omega)
      obtain ⟨oa, oc, hov⟩ := (HsV.of hown).shape
      subst hov
      clear hown hkn hb hqs hfe
      go_wp2_with fail
      refine hde.mono ?_
      rintro e w5 ⟨v5, rfl, hv5, hb5⟩
      have hri := rising_any (P1 + 1) v5 _ w5 hv5 (Nat.le_trans hsz hb5.size) hfl
      obtain ⟨oa5, oc5, rfl⟩ := hv5.shape
      have HB5 := Lib.hid (HB.out.trans (hb5.mono (show w.heap.size ≤ P1 + 1 by omega)))
      clear hv5 hb5 hde
      go_wp2_with fail
      refine hri.mono ?_
      rintro e w6 ⟨v6, rfl, hl6, hb6⟩
      go_wp2
      go_ret
      exact ⟨_, rfl, hl6, HB5.out.trans (hb6.mono (show w.heap.size ≤ P1 + 1 by omega))⟩
end Go.Proofs.YtnglmaebmabdcaaDoor
