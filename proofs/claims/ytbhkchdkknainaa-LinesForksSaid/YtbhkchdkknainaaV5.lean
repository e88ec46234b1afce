import Derived.Test.YtbhkchdkknainaaV4
namespace Go.Proofs.Ytbhkchdkknainaa
open Go.RowKit

/-- append of bytes written down. -/
theorem app_lits (w : World) {B : Nat} {v : Value} {l : List UInt8} (hv : Row B w v l) (p : List UInt8) (C : Array Value) (n : Nat) (hn : p.length = n) (hC : C.toList = p.map fun b => Value.int .u8 (b.toNat : Int)) (hB : B ≤ w.heap.size) (hlen : l.length + n ≤ 140737488355328) :
    ∃ v' w', (∀ ty, (Builtin.append_ #[31, 31] ty #[v, .slice (some ⟨w.heap.size, 0, none⟩) n n]).run Try.prog (w.alloc (.cells C 5)) = .ok v' w') ∧ Row B w' v' (l ++ p)
      ∧ (∀ a, Below B a w → Below B a w') ∧ (∀ x q, Byt w x q → (∀ g, x.ownBlock = some g → g < B) → Byt w' x q) ∧ B ≤ w'.heap.size := by
  subst hn
  have hm : p.length ≤ maxLen := by unfold maxLen; omega
  have hx : Byt (w.alloc (.cells C 5)) (.slice (some ⟨w.heap.size, 0, none⟩) p.length p.length) p := (Row.made w 5 p C hC (B := 0) (Nat.zero_le _) hm).1
  have hal : Below w.heap.size w (w.alloc (.cells C 5)) := (Below.refl _ w).alloc (Nat.le_refl _) _
  have hrowA := hv.below hal
  have hzA : B ≤ (w.alloc (.cells C 5)).heap.size := Nat.le_trans hB hal.size
  obtain ⟨v2, w2, hr2, hrow2, hg2, _⟩ := app_row _ hrowA hx hzA hlen
  refine ⟨v2, w2, hr2, hrow2, fun a hb => below_grow (hb.trans (hal.mono hB)) hrowA hzA hg2, fun x q hq hqb => (hq.below hal).grown hqb hrowA hg2, Nat.le_trans hzA hg2.size⟩

theorem Byt.get {w : World} {g off n cap : Nat} {l : List UInt8} (h : Byt w (.slice (some ⟨g, off, none⟩) n cap) l) (j : Nat) (hj : j < l.length) : w.cell? ⟨g, off + j, none⟩ = some (.int .u8 (l[j].toNat : Int)) := by
  obtain ⟨_, _, h1, _, _, h4⟩ := h
  injection h1 with e1 _ _
  obtain ⟨g', off', e, _, hc⟩ := h4 _ e1.symm
  injection e with e2 e3
  subst e2 e3
  exact hc j hj
theorem stuffR_end (p : List UInt8) (f i : Nat) (h : p.length ≤ i) : stuffR p f i = [] := by
  cases f with
  | zero => rfl
  | succ f => unfold stuffR; rw [if_neg (by omega)]
theorem stuffR_step (p : List UInt8) (i : Nat) (h : i < p.length) : stuffR p (p.length - i) i = (if p[i].toNat = 46 ∧ beginsL p i = true then [46] else []) ++ [p[i]] ++ stuffR p (p.length - (i + 1)) (i + 1) := by
  obtain ⟨f, hf⟩ : ∃ f, p.length - i = f + 1 := ⟨p.length - i - 1, by omega⟩
  rw [hf, show p.length - (i + 1) = f by omega]
  conv => lhs; unfold stuffR
  have e1 : p.getD i 0 = p[i] := by simp [List.getD, h]
  have e2 : (p[i] = 46) = (p[i].toNat = 46) := propext ⟨fun h => by rw [h]; rfl, fun h => UInt8.toNat_inj.1 h⟩
  rw [if_pos h, e1]
  simp only [e2]

set_option maxHeartbeats 1600000 in
set_option maxRecDepth 100000 in
theorem rstuff_any (a : Option Addr) (cap : Nat) (l : List UInt8) (w : World) (hv : Byt w (.slice a l.length cap) l) (hl : l.length ≤ 1073741824) :
    Calls Try.prog 19 #[.slice a l.length cap] w fun e w' => ∃ v', e = .returned v' ∧ Row w.heap.size w' v' (stuffD l) ∧ Below w.heap.size w w' := by
  have hst : stuffD l = stuffR l (l.length - 0) 0 ++ (if beginsL l l.length = true then [] else [13, 10]) ++ [46, 13, 10] := rfl
  generalize hF : stuffR l (l.length - 0) 0 = F at hst
  have HF := Lib.hid hF
  generalize hE : (if beginsL l l.length = true then ([] : List UInt8) else [13, 10]) = E at hst
  have HE := Lib.hid hE
  rw [hst]
  clear hF hE hst
  have hlt := hv.lt
  have hal0 : Below w.heap.size w (w.alloc (.cells #[] 5)) := (Below.refl _ w).alloc (Nat.le_refl _) _
  have hv0 := hv.below hal0
  have hrow0 : Row w.heap.size (w.alloc (.cells #[] 5)) (.slice (some ⟨w.heap.size, 0, none⟩) 0 0) [] := Row.made w 5 [] #[] rfl (Nat.le_refl _) (by decide)
  go_enter Try.func19, Try.ntmps19
  go_wp2
  go_loopw [3, 4] (fun bv iv wr => ∃ (acc : List UInt8) (i : Nat), i ≤ l.length ∧ iv = .int .i64 (i : Int) ∧ Byt wr (.slice a l.length cap) l ∧ Row w.heap.size wr bv acc ∧ Below w.heap.size w wr ∧ acc ++ stuffR l (l.length - i) i = F ∧ acc.length ≤ 2 * i) (fun _ iv _ => l.length - intOf iv)
  case atStart => exact ⟨[], 0, Nat.zero_le _, rfl, hv0, hrow0, hal0, HF.out, Nat.le_refl _⟩
  case round =>
    obtain ⟨acc, i, hi, hu, hpv, hrow, hb, hacc, hal⟩ := hrel
    subst hu
    have hz := hb.size
    by_cases hend : i < l.length
    · obtain ⟨g, off, cap', hv', _, hg, hcell⟩ := hpv.cell (by omega)
      injection hv' with hva _ hvc
      subst hva hvc
      have hc0 := hcell i hend
      rw [stuffR_step l i hend] at hacc
      have hxb := l[i].toNat_lt
      by_cases hx : l[i].toNat = 46
      · have hc := begins_any _ l i wr hpv hl (by omega)
        have hX : ((l[i].toNat : Int) == 46) = true := by rw [beq_iff_eq]; omega
        cases hbg : beginsL l i with
        | true =>
          rw [if_pos ⟨hx, hbg⟩] at hacc
          have HA := Lib.hid hacc
          rw [hbg] at hc
          clear hacc hbg hcell hx
          go_wp2_with fail
          refine hc.mono ?_
          rintro e w1 ⟨rfl, hb0⟩
          have hrow1 := hrow.kept hb0.size fun g hg => hb0.block g (hrow.1.lt g hg)
          have hpv1 := hpv.below hb0
          have hb1 := hb.trans (hb0.mono hz)
          have hz1 := hb1.size
          have hc1 := (hb0.cell hg).trans hc0
          clear hrow hpv hb0 hc hb hc0
          obtain ⟨v2, w2, hr2, hrow2, hbl2, hk2, hz2⟩ := app_lits w1 hrow1 [46] #[.int .u8 46] 1 rfl rfl hz1 (by omega)
          have hp2 := hk2 _ _ hpv1 hlt
          have hc2 := hp2.get i hend
          have hb2 := hbl2 w hb1
          have R2 := Lib.hid hr2
          clear hr2 hk2 hbl2
          obtain ⟨v3, w3, hr3, hrow3, hbl3, hk3, hz3⟩ := app_lits w2 hrow2 [l[i]] #[.int .u8 (l[i].toNat : Int)] 1 rfl rfl hz2 (by simp only [List.length_append, List.length_cons, List.length_nil]; omega)
          have hp3 := hk3 _ _ hp2 hlt
          have hb3 := hbl3 w hb2
          have R3 := Lib.hid hr3
          have HROW := Lib.hid hrow3
          clear hr3 hk3 hbl3 hrow3
          go_wp2_with (at_builtin; first | (refine wpList_append_run _ rfl _ _ 31 31 rfl _ _ rfl rfl v2 w2 R2.out ?_) | (refine wpList_append_run _ rfl _ _ 31 31 rfl _ _ rfl rfl v3 w3 R3.out ?_))
          go_roundw
          case rel =>
            refine ⟨acc ++ [46] ++ [l[i]], i + 1, hend, by rw [Int.natCast_add]; rfl, hp3, HROW.out, hb3, ?_, by simp only [List.length_append, List.length_cons, List.length_nil]; omega⟩
            rw [← HA.out]
            simp only [List.append_assoc]
          case measure => simp only [intOf]; omega
        | false =>
          rw [if_neg (fun h => by rw [hbg] at h; exact absurd h.2 (by decide))] at hacc
          have HA := Lib.hid hacc
          rw [hbg] at hc
          clear hacc hbg hcell hx
          go_wp2_with fail
          refine hc.mono ?_
          rintro e w1 ⟨rfl, hb0⟩
          have hrow1 := hrow.kept hb0.size fun g hg => hb0.block g (hrow.1.lt g hg)
          have hpv1 := hpv.below hb0
          have hb1 := hb.trans (hb0.mono hz)
          have hz1 := hb1.size
          have hc1 := (hb0.cell hg).trans hc0
          clear hrow hpv hb0 hc hb hc0
          obtain ⟨v3, w3, hr3, hrow3, hbl3, hk3, hz3⟩ := app_lits w1 hrow1 [l[i]] #[.int .u8 (l[i].toNat : Int)] 1 rfl rfl hz1 (by omega)
          have hp3 := hk3 _ _ hpv1 hlt
          have hb3 := hbl3 w hb1
          have R3 := Lib.hid hr3
          have HROW := Lib.hid hrow3
          clear hr3 hk3 hbl3 hrow3
          go_wp2_with (at_builtin; refine wpList_append_run _ rfl _ _ 31 31 rfl _ _ rfl rfl v3 w3 R3.out ?_)
          go_roundw
          case rel =>
            refine ⟨acc ++ [l[i]], i + 1, hend, by rw [Int.natCast_add]; rfl, hp3, HROW.out, hb3, ?_, by simp only [List.length_append, List.length_cons, List.length_nil]; omega⟩
            rw [← HA.out]
            simp only [List.append_assoc, List.nil_append]
          case measure => simp only [intOf]; omega
      · have hX : ((l[i].toNat : Int) == 46) = false := by rw [beq_eq_false_iff_ne]; omega
        rw [if_neg (fun h => hx h.1)] at hacc
        have HA := Lib.hid hacc
        clear hacc hcell hx
        obtain ⟨v3, w3, hr3, hrow3, hbl3, hk3, hz3⟩ := app_lits wr hrow [l[i]] #[.int .u8 (l[i].toNat : Int)] 1 rfl rfl hz (by omega)
        have hp3 := hk3 _ _ hpv hlt
        have hb3 := hbl3 w hb
        have R3 := Lib.hid hr3
        have HROW := Lib.hid hrow3
        clear hr3 hk3 hbl3 hrow3
        go_wp2_with (at_builtin; refine wpList_append_run _ rfl _ _ 31 31 rfl _ _ rfl rfl v3 w3 R3.out ?_)
        go_roundw
        case rel =>
          refine ⟨acc ++ [l[i]], i + 1, hend, by rw [Int.natCast_add]; rfl, hp3, HROW.out, hb3, ?_, by simp only [List.length_append, List.length_cons, List.length_nil]; omega⟩
          rw [← HA.out]
          simp only [List.append_assoc, List.nil_append]
        case measure => simp only [intOf]; omega
    · have he : i = l.length := by omega
      subst he
      rw [stuffR_end l _ _ (Nat.le_refl _), List.append_nil] at hacc
      have HA := Lib.hid hacc
      have hc := begins_any _ l l.length wr hpv hl (by omega)
      cases hbg : beginsL l l.length with
      | true =>
        rw [hbg] at hc
        have HB := Lib.hid hbg
        clear hacc hbg
        go_wp2_with fail
        refine hc.mono ?_
        rintro e w1 ⟨rfl, hb0⟩
        have hrow1 := hrow.kept hb0.size fun g hg => hb0.block g (hrow.1.lt g hg)
        have hb1 := hb.trans (hb0.mono hz)
        have hz1 := hb1.size
        obtain ⟨v3, w3, hr3, hrow3, hbl3, hk3, hz3⟩ := app_lits w1 hrow1 [46, 13, 10] #[.int .u8 46, .int .u8 13, .int .u8 10] 3 rfl rfl hz1 (by omega)
        have hb3 := hbl3 w hb1
        have R3 := Lib.hid hr3
        have HROW := Lib.hid hrow3
        clear hr3 hk3 hbl3 hrow3
        go_wp2_with (at_builtin; refine wpList_append_run _ rfl _ _ 31 31 rfl _ _ rfl rfl v3 w3 R3.out ?_)
        go_ret
        refine ⟨_, rfl, ?_, hb3⟩
        rw [← HA.out, ← HE.out, if_pos HB.out, List.append_nil]
        exact HROW.out
      | false =>
        rw [hbg] at hc
        have HB := Lib.hid hbg
        clear hacc hbg
        go_wp2_with fail
        refine hc.mono ?_
        rintro e w1 ⟨rfl, hb0⟩
        have hrow1 := hrow.kept hb0.size fun g hg => hb0.block g (hrow.1.lt g hg)
        have hb1 := hb.trans (hb0.mono hz)
        have hz1 := hb1.size
        obtain ⟨v2, w2, hr2, hrow2, hbl2, hk2, hz2⟩ := app_lits w1 hrow1 [13, 10] #[.int .u8 13, .int .u8 10] 2 rfl rfl hz1 (by omega)
        have hb2 := hbl2 w hb1
        have R2 := Lib.hid hr2
        clear hr2 hk2 hbl2
        obtain ⟨v3, w3, hr3, hrow3, hbl3, hk3, hz3⟩ := app_lits w2 hrow2 [46, 13, 10] #[.int .u8 46, .int .u8 13, .int .u8 10] 3 rfl rfl hz2 (by simp only [List.length_append, List.length_cons, List.length_nil]; omega)
        have hb3 := hbl3 w hb2
        have R3 := Lib.hid hr3
        have HROW := Lib.hid hrow3
        clear hr3 hk3 hbl3 hrow3
        go_wp2_with (at_builtin; first | (refine wpList_append_run _ rfl _ _ 31 31 rfl _ _ rfl rfl v2 w2 R2.out ?_) | (refine wpList_append_run _ rfl _ _ 31 31 rfl _ _ rfl rfl v3 w3 R3.out ?_))
        go_ret
        refine ⟨_, rfl, ?_, hb3⟩
        rw [← HA.out, ← HE.out, HB.out, if_neg (by decide)]
        exact HROW.out
end Go.Proofs.Ytbhkchdkknainaa
