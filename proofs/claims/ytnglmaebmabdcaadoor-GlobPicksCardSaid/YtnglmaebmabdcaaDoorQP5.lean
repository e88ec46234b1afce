/- Glob: the document's Pick. -/
import Derived.Test.YtnglmaebmabdcaaDoorQP4
import Derived.Test.YtnglmaebmabdcaaDoorQ5
import Derived.Deep.AppendSrc
namespace Go.Proofs.YtnglmaebmabdcaaDoor
open Go Go.RowKit

theorem allA_len {N : List Gl.Nm} (h : ∀ s, s ∈ N → s.length ≤ 60) : (Gl.allA N).length ≤ N.length * 60 := by
  unfold Gl.allA
  induction N with
  | nil => simp
  | cons s N ih =>
    have h1 := Gl.ahs_len s s.length
    have h2 := h s (by simp)
    have h3 := ih fun x hx => h x (by simp [hx])
    rw [List.flatMap_cons, List.length_append, List.length_cons]
    omega
theorem rise_len (l : List Gl.Nm) : (Gl.rise l).length ≤ l.length := by
  unfold Gl.rise
  exact Nat.le_trans (Lib.compact_length_le _) (by rw [List.length_mergeSort]; exact Nat.le_refl _)
theorem aheadL_len {N : List Gl.Nm} (h : Sm N) : (Gl.aheadL N).length ≤ 720 := by
  unfold Gl.aheadL
  have h1 := allA_len h.le
  have h2 := h.len
  have h3 := rise_len ((Gl.allA N).filter fun x => !Gl.known N x)
  have h4 := List.length_filter_le (fun x => !Gl.known N x) (Gl.allA N)
  omega
theorem aheadL_le {N : List Gl.Nm} (h : Sm N) {x : Gl.Nm} (hx : x ∈ Gl.aheadL N) : x.length ≤ 60 := ((Gl.mem_aheadL N x).1 hx).le h.le

/-- append of a list that is read. -/
theorem app_ltr {B : Nat} (w : World) (v x : Value) (n : Nat) (xs : List Value) (L : List ByteArray) (hown : w.ownsRow B 9 1 v n xs) (hne : v ≠ .slice none 0 0) (hx : Ltr w x L) (hB : B ≤ w.heap.size) (hn : n + L.length ≤ 100000) :
    ∃ v' w', (∀ ty, (Builtin.append_ #[26, 26] ty #[v, x]).run Tryd.prog w = .ok v' w') ∧ w'.ownsRow B 9 1 v' (n + L.length) (xs ++ L.map Value.string) ∧ w.grownBy w' v.ownBlock ∧ v' ≠ .slice none 0 0 := by
  obtain ⟨i, hi, hz, hs, hbs⟩ := info_parts info9
  obtain ⟨a, c, rfl, hc, hcell⟩ := hx
  have hone : ∀ u, u ∈ L.map Value.string → u.oneCell' = true := by
    intro u hu
    obtain ⟨s, _, rfl⟩ := List.mem_map.1 hu
    rfl
  cases a with
  | some ad =>
    obtain ⟨v', w', hr, h2, h3, h4⟩ := run_append_own (P := Tryd.prog) w B 26 0 9 i _ 1 16 Tryd.underlying26 hi hz hs hbs rfl (by decide) v n xs hown ad L.length c (L.map Value.string) (by rw [List.length_map, Nat.mul_one]) (fun j u hu => by
      rw [List.getElem?_map] at hu
      cases hj : L[j]? with
      | none => rw [hj] at hu; cases hu
      | some s =>
        rw [hj] at hu
        obtain rfl := Option.some.inj hu
        have hlt := (List.getElem?_eq_some_iff.1 hj).1
        obtain ⟨g, e, _, h⟩ := hcell j hlt
        obtain rfl := Option.some.inj e
        rw [addr_plus, Nat.zero_add, h]
        rw [List.getElem?_eq_getElem hlt] at hj
        rw [Option.some.inj hj]) hone (by unfold maxLen; omega) (by omega) hB
    exact ⟨v', w', fun _ => hr, h2, h3, fun h => hne (h4.1 h).1⟩
  | none =>
    have hL : L = [] := by
      cases L with
      | nil => rfl
      | cons y L => obtain ⟨g, e, _⟩ := hcell 0 (by simp); cases e
    subst hL
    obtain ⟨hxs, hcase⟩ := hown
    rcases hcase with ⟨h0, _⟩ | ⟨g, cap, cur, rfl, hb, hg, hnc, h5, h6, h7⟩
    · exact absurd h0 hne
    · have hrun := run_append_room_src (P := Tryd.prog) w 26 26 0 9 i Tryd.underlying26 hi g 0 n cap (.slice none 0 c) 0 [] (Src.ofNil w Tryd.underlying26 c) (by omega) (by simp) (by simp)
      refine ⟨_, _, fun _ => hrun, ?_, ?_, by simp⟩
      · simp only [List.length_nil, Nat.add_zero, List.map_nil, List.append_nil]
        exact ⟨hxs, .inr ⟨g, cap, cur, rfl, hb, hg, hnc, h5, h6, h7⟩⟩
      · exact ⟨rfl, rfl, rfl, Nat.le_refl _, fun _ _ _ => rfl⟩
theorem wpList_app_run {P : Program} {ops : Array Oper} {rest : List Oper} {o : Oper} {a : Act} {w w' : World} {Q : Exit → Act → World → Prop} (hgd : o.guard = none) (s x : Operand) (t : TypeId)
    (ho : o.op = .call { callee := .builtin .append, args := #[s, x], argTypes := #[t, t] }) (v xv v' : Value) (hs : a.eval s = v) (hx : a.eval x = xv) (hr : ∀ ty, (Builtin.append_ #[t, t] ty #[v, xv]).run P w = .ok v' w')
    (h : wpList P ops Q rest (a.put o.dst v') w') : wpList P ops Q (o :: rest) a w :=
  wpList_plain hgd fun K hK => by
    unfold Oper.wp execOp
    simp only [ho, resolve, invoke, builtin, Sem.run_bind, Sem.run_pure, Result.andThen_ok, List.map_toArray, List.map_cons, List.map_nil, hs, hx, hr]
    exact hK _ _ h
theorem Ltr.below' {w w' : World} {B g c n : Nat} {L : List ByteArray} (h : Ltr w (.slice (some ⟨g, 0, none⟩) n c) L) (hb : Below B w w') (hg : g < B) : Ltr w' (.slice (some ⟨g, 0, none⟩) n c) L := by
  obtain ⟨a, c', e, hc, hx⟩ := h
  refine ⟨a, c', e, hc, fun i hi => ?_⟩
  obtain ⟨g', rfl, hgl, hcc⟩ := hx i hi
  have e2 : g = g' := by injection e with e1; injection e1 with e1; injection e1
  subst e2
  exact ⟨g, rfl, Nat.lt_of_lt_of_le hgl hb.size, (hb.cell (p := ⟨g, i, none⟩) hg).trans hcc⟩
theorem Ltr.own {w : World} {B : Nat} {v : Value} {L : List ByteArray} (h : w.ownsRow B 9 1 v L.length (L.map Value.string)) : Ltr w v L := Ltr.of h

structure PkS (m : Gl.Nm → Bool) (A : List Gl.Nm) (i : Nat) (O : List Gl.Nm) : Prop where
  asc : Gl.Asc O
  mem : ∀ x, x ∈ O ↔ ∃ j, j < i ∧ A[j]? = some x ∧ m x = true
  len : O.length ≤ i
theorem PkS.zero (m : Gl.Nm → Bool) (A : List Gl.Nm) : PkS m A 0 [] := ⟨List.Pairwise.nil, fun x => ⟨fun h => by simp at h, fun ⟨j, h, _⟩ => by omega⟩, Nat.le_refl _⟩
theorem PkS.yes {m : Gl.Nm → Bool} {A O : List Gl.Nm} {i : Nat} (h : PkS m A i O) {x : Gl.Nm} (hx : A[i]? = some x) (hm : m x = true) : PkS m A (i + 1) (Gl.lay O x) := by
  refine ⟨Gl.lay_asc _ h.asc, fun y => ?_, by have := Gl.lay_len O x; have := h.len; omega⟩
  rw [Gl.lay_mem, h.mem]
  constructor
  · rintro (⟨j, h1, h2, h3⟩ | rfl)
    · exact ⟨j, by omega, h2, h3⟩
    · exact ⟨i, by omega, hx, hm⟩
  · rintro ⟨j, h1, h2, h3⟩
    by_cases e : j = i
    · subst e; exact .inr (Option.some.inj (h2.symm.trans hx))
    · exact .inl ⟨j, by omega, h2, h3⟩
theorem PkS.no {m : Gl.Nm → Bool} {A O : List Gl.Nm} {i : Nat} (h : PkS m A i O) {x : Gl.Nm} (hx : A[i]? = some x) (hm : m x = false) : PkS m A (i + 1) O := by
  refine ⟨h.asc, fun y => ?_, by have := h.len; omega⟩
  rw [h.mem]
  constructor
  · rintro ⟨j, h1, h2, h3⟩
    exact ⟨j, by omega, h2, h3⟩
  · rintro ⟨j, h1, h2, h3⟩
    by_cases e : j = i
    · subst e
      rw [Option.some.inj (h2.symm.trans hx), hm] at h3
      cases h3
    · exact ⟨j, by omega, h2, h3⟩
theorem PkS.done {m : Gl.Nm → Bool} {N O : List Gl.Nm} {i : Nat} (h : PkS m (N ++ Gl.aheadL N) i O) (hi : (N ++ Gl.aheadL N).length ≤ i) : O = Gl.pickL N m := by
  refine Gl.Asc.ext h.asc (Gl.rise_both _).1 fun x => ?_
  unfold Gl.pickL
  rw [h.mem, (Gl.rise_both _).2, List.mem_filter]
  constructor
  · rintro ⟨j, _, h2, h3⟩
    exact ⟨List.mem_of_getElem? h2, h3⟩
  · rintro ⟨h1, h2⟩
    obtain ⟨j, hj⟩ := List.mem_iff_getElem?.1 h1
    exact ⟨j, by have := (List.getElem?_eq_some_iff.1 hj).1; omega, hj, h2⟩

set_option maxHeartbeats 2000000 in
set_option maxRecDepth 100000 in
theorem refPick (v : Value) (N : List Gl.Nm) (bs pt : ByteArray) (w : World) (hv : Ltr w v (N.map mkS)) (hN : Sm N) (hbs : bs.size ≤ 200) (hpt : pt.size ≤ 200) :
    Calls Tryd.prog 24 #[v, .string bs, .string pt] w fun e w' => ∃ v', e = .returned v' ∧ Ltr w' v' ((Gl.pickL N fun x => globB (bs ++ pt) (mkS x)).map mkS) ∧ Below w.heap.size w w' := by
  obtain ⟨a, c, rfl⟩ := hv.shapeN
  have hlen := hN.len
  have hal := aheadL_len hN
  -- out, and the first copy
  obtain ⟨W1, hW1⟩ : ∃ W1, w.alloc (.cells #[] 9) = W1 := ⟨_, rfl⟩
  have hb1 : Below w.heap.size w W1 := by rw [← hW1]; exact (Below.refl _ w).alloc (Nat.le_refl _) _
  have hO1 : Ltr W1 (.slice (some ⟨w.heap.size, 0, none⟩) 0 0) (([] : List Gl.Nm).map mkS) := by rw [← hW1]; exact Ltr.new w [] _ _ (Nat.le_refl _)
  have hs1 : W1.heap.size = w.heap.size + 1 := by rw [← hW1]; simp
  obtain ⟨W2, hW2⟩ : ∃ W2, W1.alloc (.cells #[] 9) = W2 := ⟨_, rfl⟩
  have hb2 : Below W1.heap.size W1 W2 := by rw [← hW2]; exact (Below.refl _ W1).alloc (Nat.le_refl _) _
  have ho2 : W2.ownsRow W1.heap.size 9 1 (.slice (some ⟨W1.heap.size, 0, none⟩) 0 0) 0 [] := by rw [← hW2]; exact World.ownsRow_lit (size := 1) W1 #[] 0 (Nat.le_refl _) (by decide) rfl
  have hv2 := (hv.below hb1).below hb2
  obtain ⟨v3, w3, hr3, ho3, hg3, hn3⟩ := app_ltr W2 _ _ 0 [] (N.map mkS) ho2 (by simp) hv2 hb2.size (by rw [List.length_map]; omega)
  rw [Nat.zero_add, List.nil_append] at ho3
  have hb3 : Below W1.heap.size W1 w3 := below_grown hb2 ho2 hb2.size hg3
  have hv3 := (hv.below hb1).below hb3
  have hra := refAhead _ N w3 hv3 hN
  have hr3' : ∀ ty, (Builtin.append_ #[26, 26] ty #[.slice (some ⟨w.heap.size + 1, 0, none⟩) 0 0, .slice a N.length c]).run Tryd.prog W2 = .ok v3 w3 := fun ty => by rw [← hs1]; exact hr3 ty
  have HB13 := Lib.hid (hb1.trans (hb3.mono hb1.size))
  have HO3 := Lib.hid (hO1.below hb3)
  have HO := Lib.hid ho3
  have HN3 := Lib.hid hn3
  have HR3 := Lib.hid hr3'
  have HSZ := Lib.hid hs1
  have HZ3 := Lib.hid hb3.size
  have HZ1 := Lib.hid hb1.size
  have hz1 : W1.heap.size = w.heap.size + 1 := hs1
  clear hb1 hO1 hb2 ho2 hv2 hr3 hr3' hg3 hb3 hv3 ho3 hn3 hv
  go_enter Tryd.func24, Tryd.ntmps24
  go_wp2_with (first | rw [hW1] | rw [hW2] | (at_builtin; refine wpList_app_run rfl _ _ 26 rfl _ _ _ rfl rfl HR3.out ?_))
  refine hra.mono ?_
  rintro e w4 ⟨v4, rfl, hl4, hb4⟩
  have ho4 := own_below HO.out hb4
  obtain ⟨v5, w5, hr5, ho5, hg5, hn5⟩ := app_ltr w4 v3 v4 _ _ ((Gl.aheadL N).map mkS) ho4 HN3.out hl4 (by have := HZ3.out; have := hb4.size; omega) (by rw [List.length_map, List.length_map]; omega)
  have hb5 : Below W1.heap.size w3 w5 := below_grown (hb4.mono HZ3.out) ho4 (by have := HZ3.out; have := hb4.size; omega) hg5
  have hLA : (N.map mkS).map Value.string ++ ((Gl.aheadL N).map mkS).map Value.string = ((N ++ Gl.aheadL N).map mkS).map Value.string := by rw [List.map_append, List.map_append]
  have hLN : (N.map mkS).length + ((Gl.aheadL N).map mkS).length = ((N ++ Gl.aheadL N).map mkS).length := by rw [List.map_append, List.length_append]
  rw [hLA, hLN] at ho5
  have hA5 : Ltr w5 v5 ((N ++ Gl.aheadL N).map mkS) := Ltr.of ho5
  have hO5 := HO3.out.below' hb5 (by have := HSZ.out; omega)
  have HB5 := Lib.hid (HB13.out.trans (hb5.mono HZ1.out))
  have hTl : (N ++ Gl.aheadL N).length ≤ 800 := by rw [List.length_append]; omega
  have hTle : ∀ x, x ∈ N ++ Gl.aheadL N → x.length ≤ 60 := fun x hx => (List.mem_append.1 hx).elim (hN.le x) (aheadL_le hN)
  have HTLE := Lib.hid hTle
  have HDONE := Lib.hid (fun (O : List Gl.Nm) (i : Nat) (h : PkS (fun x => globB (bs ++ pt) (mkS x)) (N ++ Gl.aheadL N) i O) (hi : (N ++ Gl.aheadL N).length ≤ i) => h.done hi)
  generalize hT : Gl.pickL N (fun x => globB (bs ++ pt) (mkS x)) = T at *
  generalize hTT : N ++ Gl.aheadL N = A at *
  have HT := Lib.hid hT
  obtain ⟨a5, c5, rfl⟩ := hA5.shapeN
  have HA5 := Lib.hid hA5
  have HO5 := Lib.hid hO5
  have HR5 := Lib.hid hr5
  clear hT hTT hr5 ho5 hg5 hn5 hb5 hA5 hO5 ho4 hl4 hb4 hLA hLN hTle hra
  have hsum : bs.size + pt.size ≤ 9223372036854775807 := by omega
  have hbpz : (bs ++ pt).size ≤ 1000 := by rw [Lib.size_eq, ByteArray.data_append, Array.toList_append, List.length_append, ← Lib.size_eq, ← Lib.size_eq]; omega
  go_wp2_with (first | (at_builtin; refine wpList_app_run rfl _ _ 26 rfl _ _ _ rfl rfl HR5.out ?_))
  go_loopw [7, 9] (fun v7 x9 wr => ∃ (i : Nat) (O : List Gl.Nm), x9 = .int .i64 (i : Int) ∧ i ≤ A.length ∧ Hid (PkS (fun x => globB (bs ++ pt) (mkS x)) A i O) ∧ Ltr wr v7 (O.map mkS) ∧ Below w5.heap.size w5 wr) (fun _ x9 _ => A.length - (intOf x9).toNat)
  case atStart => exact ⟨0, [], rfl, Nat.zero_le _, Lib.hid (PkS.zero _ _), HO5.out, Below.refl _ _⟩
  case round =>
    obtain ⟨i, O, rfl, hi, hS, hO, hb⟩ := hrel
    clear HO5
    obtain ⟨oa, oc, rfl⟩ := hO.shapeN
    have HBB := Lib.hid hb
    by_cases hlt : i < A.length
    · have hlti : (i : Int) < (A.length : Int) := by omega
      obtain ⟨g, c', e, hg, hcc⟩ := HA5.out.get hlt
      injection e with e1 _ e3
      subst e1; subst e3
      have hcw := (hb.cell (p := ⟨g, i, none⟩) hg).trans hcc
      have HX := Lib.hid (show A[i]? = some A[i] from List.getElem?_eq_getElem hlt)
      have hxl : (A[i]).length ≤ 60 := HTLE.out _ (List.getElem_mem hlt)
      generalize A[i] = x at *
      have hxs : (mkS x).size ≤ 1000 := by rw [mk_size]; omega
      have hm := refMatch (bs ++ pt) (mkS x) wr hbpz hxs
      have HOl := Lib.hid hS.out.len
      clear hcc
      cases hg2 : globB (bs ++ pt) (mkS x) with
      | true =>
        rw [hg2] at hm
        have HN := Lib.hid (hS.out.yes HX.out hg2)
        have HLY := Lib.hid (fun (w6 : World) (h6 : Below wr.heap.size wr w6) => lay_any _ O x w6 (hO.below h6) (by have := HOl.out; omega))
        clear hS hg2 hO hb
        generalize mkS x = X at *
        go_wp2_with fail
        refine hm.mono ?_
        rintro e w6 ⟨rfl, hb6⟩
        have hly := HLY.out w6 hb6
        have hcw6 := (hb6.cell (p := ⟨g, i, none⟩) (World.block_lt_of_cell? _ _ hcw)).trans hcw
        have HB6 := Lib.hid (HBB.out.trans (hb6.mono HBB.out.size))
        clear hb6
        go_wp2_with fail
        refine hly.mono ?_
        rintro e w7 ⟨v7, rfl, hl7, hb7⟩
        go_wp2
        refine ⟨⟨i + 1, _, rfl, by omega, HN, hl7, HB6.out.trans (hb7.mono HB6.out.size)⟩, ?_⟩
        simp [intOf] <;> omega
      | false =>
        rw [hg2] at hm
        have HN := Lib.hid (hS.out.no (m := fun x => globB (bs ++ pt) (mkS x)) HX.out hg2)
        have HO6 := Lib.hid (fun (w6 : World) (h6 : Below wr.heap.size wr w6) => hO.below h6)
        clear hS hg2 hO hb
        generalize mkS x = X at *
        go_wp2_with fail
        refine hm.mono ?_
        rintro e w6 ⟨rfl, hb6⟩
        go_wp2
        refine ⟨⟨i + 1, O, rfl, by omega, HN, HO6.out _ hb6, HBB.out.trans (hb6.mono HBB.out.size)⟩, ?_⟩
        simp [intOf] <;> omega
    · have HE := Lib.hid (HDONE.out O i hS.out (by omega))
      have HOO := Lib.hid hO
      have HZ5 := Lib.hid HB5.out.size
      clear hS hO hb
      go_wp2
      go_ret
      refine ⟨_, rfl, ?_, HB5.out.trans (HBB.out.mono HZ5.out)⟩
      rw [HT.out, ← HE.out]
      exact HOO.out
end Go.Proofs.YtnglmaebmabdcaaDoor
