/- Glob: slices.Concat of two lists. -/
import Derived.Test.YtnglmaebmabdcaaDoorQP9
namespace Go.Proofs.YtnglmaebmabdcaaDoor
open Go Go.RowKit

theorem run_app_none (w : World) (ty : TypeId) (a : Option Addr) (c : Nat) : (Builtin.append_ #[26, 26] ty #[.slice none 0 0, .slice a 0 c]).run Tryd.prog w = .ok (.slice none 0 0) w := by
  have h : (Builtin.firstCells 1 0 (.slice a 0 c)).run Tryd.prog w = .ok #[] w := by
    cases a with
    | none => rfl
    | some ad => exact run_firstCells_some w 1 0 ad 0 c [] rfl (by simp)
  simp [Builtin.append_, run_underlying Tryd.underlying26, Builtin.lenOf, h]
/-- append of a list that is read, to any list of one's own. -/
theorem app_any {B : Nat} (w : World) (v x : Value) (n : Nat) (xs : List Value) (L : List ByteArray) (hown : w.ownsRow B 9 1 v n xs) (hx : Ltr w x L) (hB : B ≤ w.heap.size) (hn : n + L.length ≤ 100000) :
    ∃ v' w', (∀ ty, (Builtin.append_ #[26, 26] ty #[v, x]).run Tryd.prog w = .ok v' w') ∧ w'.ownsRow B 9 1 v' (n + L.length) (xs ++ L.map Value.string) ∧ w.grownBy w' v.ownBlock := by
  by_cases hne : v = .slice none 0 0
  · subst hne
    have h0 : n = 0 := by
      rcases hown.2 with ⟨_, h⟩ | ⟨g, cap, cur, e, _⟩
      · exact h
      · cases e
    subst h0
    have hxs : xs = [] := List.eq_nil_of_length_eq_zero (by have := hown.1; omega)
    subst hxs
    obtain ⟨a, c, rfl, hc, hcell⟩ := hx
    cases hL : L with
    | nil => exact ⟨_, _, fun ty => run_app_none w ty a c, World.ownsRow_nil _ _ _ _, ⟨rfl, rfl, rfl, Nat.le_refl _, fun _ _ _ => rfl⟩⟩
    | cons y0 L0 =>
      rw [← hL]
      obtain ⟨g, rfl, _, _⟩ := hcell 0 (by rw [hL]; simp)
      obtain ⟨i, hi, hz, hs, hbs⟩ := info_parts info9
      obtain ⟨v', w', hr, h2, h3, _⟩ := run_append_own (P := Tryd.prog) w B 26 0 9 i _ 1 16 Tryd.underlying26 hi hz hs hbs rfl (by decide) _ 0 [] hown ⟨g, 0, none⟩ L.length c (L.map Value.string) (by rw [List.length_map, Nat.mul_one]) (fun j u hu => by
        rw [List.getElem?_map] at hu
        cases hj : L[j]? with
        | none => rw [hj] at hu; cases hu
        | some s =>
          rw [hj] at hu
          obtain rfl := Option.some.inj hu
          have hlt := (List.getElem?_eq_some_iff.1 hj).1
          obtain ⟨g', e, _, h⟩ := hcell j hlt
          injection e with e
          injection e with e
          subst e
          rw [addr_plus, Nat.zero_add, h]
          rw [List.getElem?_eq_getElem hlt] at hj
          rw [Option.some.inj hj]) (fun u hu => by obtain ⟨s, _, rfl⟩ := List.mem_map.1 hu; rfl) (by unfold maxLen; omega) (by omega) hB
      exact ⟨v', w', fun _ => hr, h2, h3⟩
  · obtain ⟨v', w', h1, h2, h3, _⟩ := app_ltr w v x n xs L hown hne hx hB hn
    exact ⟨v', w', h1, h2, h3⟩

/-- slices.Grow of nothing. -/
theorem grow_any (n : Nat) (w : World) (hn : n ≤ 100000) : Calls Tryd.prog 45 #[.slice none 0 0, .int .i64 (n : Int)] w fun e w' => ∃ v', e = .returned v' ∧ w'.ownsRow w.heap.size 9 1 v' 0 [] ∧ Below w.heap.size w w' := by
  by_cases h0 : n = 0
  · subst h0
    refine (Any8.slices_Grow_room Tryd.growS none 0 0 0 w (Nat.le_refl _) (by omega) (by omega) (Nat.le_refl _)).mono ?_
    rintro e w' ⟨rfl, rfl⟩
    exact ⟨_, rfl, World.ownsRow_nil _ _ _ _, Below.refl _ _⟩
  · obtain ⟨i, hi, hz, hs, hbs⟩ := info_parts info9
    refine (Tryd.slices_Grow_none i _ hi hz (by omega) n w (by omega) (by rw [hbs]; omega) (by omega)).mono ?_
    rintro e w' ⟨rfl, rfl⟩
    have hge := grownCap_ge w (0 + n) 0 9
    have hle := grownCap_le_maxLen w (0 + n) 0 9 (by unfold maxLen; omega)
    have hr : Tryd.growS_ren.t 25 = 9 := rfl
    rw [hr]
    generalize grownCap w (0 + n) 0 9 = K at *
    refine ⟨_, rfl, ⟨rfl, .inr ⟨w.heap.size, K, _, rfl, Nat.le_refl _, heap_alloc_last w.drew _, Nat.zero_le _, hle, ?_, by simp⟩⟩, ((Below.refl _ w).drew).alloc (Nat.le_refl _) _⟩
    simp [Builtin.zeroCells, Value.cells]
    omega

set_option maxHeartbeats 2000000 in
set_option maxRecDepth 100000 in
theorem concat_any (q : Nat) (v1 v2 : Value) (L1 L2 : List ByteArray) (w : World) (h1 : Ltr w v1 L1) (h2 : Ltr w v2 L2) (c1 : w.cell? ⟨q, 0, none⟩ = some v1) (c2 : w.cell? ⟨q, 1, none⟩ = some v2) (hn : L1.length + L2.length ≤ 100000) :
    Calls Tryd.prog 36 #[.slice (some ⟨q, 0, none⟩) 2 2] w fun e w' => ∃ v', e = .returned v' ∧ Ltr w' v' (L1 ++ L2) ∧ Below w.heap.size w w' := by
  obtain ⟨a1, k1, rfl, _⟩ := h1.shape
  obtain ⟨a2, k2, rfl, _⟩ := h2.shape
  have hgr := grow_any (L1.length + L2.length) w hn
  have H1 := Lib.hid h1
  have H2 := Lib.hid h2
  have hq := World.block_lt_of_cell? w _ c1
  rw [Int.natCast_add] at hgr
  have hw1 : IntKind.i64.wrap ((L1.length : Int) + (L2.length : Int)) = (L1.length : Int) + (L2.length : Int) := IntWalk.i64_in _ (by omega)
  have hnn : ¬ ((L1.length : Int) + (L2.length : Int) < 0) := by omega
  clear h1 h2
  go_enter Tryd.func36, Tryd.ntmps36
  go_wp2
  refine wp_loop_rounds 3 ?_
  rw [rounds_succ]
  go_wp2
  rw [rounds_succ]
  go_wp2
  rw [rounds_succ]
  go_wp2_with fail
  refine hgr.mono ?_
  rintro e w1 ⟨v3, rfl, ho3, hb3⟩
  have c1' := (hb3.cell (p := ⟨q, 0, none⟩) hq).trans c1
  have c2' := (hb3.cell (p := ⟨q, 1, none⟩) hq).trans c2
  obtain ⟨v4, w4, hr4, ho4, hg4⟩ := app_any w1 v3 _ 0 [] L1 ho3 (H1.out.below hb3) hb3.size (by omega)
  have hb4 : Below w.heap.size w w4 := below_grown hb3 ho3 hb3.size hg4
  rw [Nat.zero_add, List.nil_append] at ho4
  have c2'' := (hb4.cell (p := ⟨q, 1, none⟩) hq).trans c2
  obtain ⟨v5, w5, hr5, ho5, hg5⟩ := app_any w4 v4 _ _ _ L2 ho4 (H2.out.below hb4) hb4.size hn
  have hb5 : Below w.heap.size w w5 := below_grown hb4 ho4 hb4.size hg5
  have HR4 := Lib.hid hr4
  have HR5 := Lib.hid hr5
  rw [← List.map_append, ← List.length_append] at ho5
  have HL := Lib.hid (Ltr.of ho5)
  have HB := Lib.hid hb5
  clear ho3 hb3 hr4 ho4 hg4 hb4 hr5 ho5 hg5 hb5 c1 c2
  go_wp2
  refine wp_loop_rounds 3 ?_
  rw [rounds_succ]
  go_wp2_with (first | (at_builtin; refine wpList_app_run rfl _ _ 26 rfl _ _ _ rfl rfl HR4.out ?_))
  rw [rounds_succ]
  go_wp2_with (first | (at_builtin; refine wpList_app_run rfl _ _ 26 rfl _ _ _ rfl rfl HR5.out ?_))
  rw [rounds_succ]
  go_wp2
  go_ret
  exact ⟨_, rfl, HL.out, HB.out⟩
end Go.Proofs.YtnglmaebmabdcaaDoor
