import Derived.Test.YtbhkchdkknainaaV5
namespace Go.Proofs.Ytbhkchdkknainaa
open Go.RowKit

/-- Does the end of a dotted body stand at a place? -/
def endAt (p : List UInt8) (i : Nat) : Bool := beginsL p i && (decide ((p.getD i 0).toNat = 46) && endsL p (i + 1))
/-- The body before a place. -/
def bodyG (p : List UInt8) : Nat → Nat → List UInt8
  | 0, _ => []
  | f + 1, j => (if (p.getD j 0).toNat = 46 ∧ beginsL p j = true then [] else [p.getD j 0]) ++ bodyG p f (j + 1)
def bodyD (p : List UInt8) (at' : Nat) : List UInt8 := bodyG p at' 0
def unstR (p : List UInt8) : Nat → Nat → Option (List UInt8 × Nat)
  | 0, _ => none
  | f + 1, i => if i < p.length then (if endAt p i = true then some (bodyD p i, i + 3) else unstR p f (i + 1)) else none
def unstD (p : List UInt8) : Option (List UInt8 × Nat) := unstR p p.length 0

theorem unstR_end (p : List UInt8) (f i : Nat) (h : p.length ≤ i) : unstR p f i = none := by
  cases f with
  | zero => rfl
  | succ f => unfold unstR; rw [if_neg (by omega)]
theorem unstR_step (p : List UInt8) (i : Nat) (h : i < p.length) : unstR p (p.length - i) i = if endAt p i = true then some (bodyD p i, i + 3) else unstR p (p.length - (i + 1)) (i + 1) := by
  obtain ⟨f, hf⟩ : ∃ f, p.length - i = f + 1 := ⟨p.length - i - 1, by omega⟩
  rw [hf, show p.length - (i + 1) = f by omega]
  conv => lhs; unfold unstR
  rw [if_pos h]
theorem bodyG_step (p : List UInt8) (i j : Nat) (h : j < i) (hi : i ≤ p.length) : bodyG p (i - j) j = (if (p[j]'(by omega)).toNat = 46 ∧ beginsL p j = true then [] else [p[j]'(by omega)]) ++ bodyG p (i - (j + 1)) (j + 1) := by
  obtain ⟨f, hf⟩ : ∃ f, i - j = f + 1 := ⟨i - j - 1, by omega⟩
  rw [hf, show i - (j + 1) = f by omega]
  conv => lhs; unfold bodyG
  have e1 : p.getD j 0 = p[j]'(by omega) := by simp [List.getD, show j < p.length by omega]
  rw [e1]
theorem bodyG_end (p : List UInt8) (j : Nat) : bodyG p (j - j) j = [] := by rw [Nat.sub_self]; rfl

set_option maxHeartbeats 3200000 in
set_option maxRecDepth 100000 in
theorem runst_any (a : Option Addr) (cap : Nat) (l : List UInt8) (w : World) (hv : Byt w (.slice a l.length cap) l) (hl : l.length ≤ 1073741824) :
    Calls Try.prog 17 #[.slice a l.length cap] w fun e w' => Below w.heap.size w w' ∧ match unstD l with
      | none => e = .returned (.tuple #[.slice none 0 0, .int .i64 0, .int .i64 3])
      | some (b, n) => ∃ v', e = .returned (.tuple #[v', .int .i64 (n : Int), .int .i64 0]) ∧ Row w.heap.size w' v' b := by
  have hst : unstD l = unstR l (l.length - 0) 0 := rfl
  generalize hF : unstR l (l.length - 0) 0 = F at hst
  have HF := Lib.hid hF
  rw [hst]
  clear hF hst
  have hlt := hv.lt
  go_enter Try.func17, Try.ntmps17
  go_wp2
  go_loopw [5] (fun av wr => ∃ (i : Nat), i ≤ l.length ∧ av = .int .i64 (i : Int) ∧ Byt wr (.slice a l.length cap) l ∧ Below w.heap.size w wr ∧ unstR l (l.length - i) i = F) (fun av _ => l.length - intOf av)
  case atStart => exact ⟨0, Nat.zero_le _, rfl, hv, Below.refl _ _, HF.out⟩
  case round =>
    obtain ⟨i, hi, hu, hpv, hb, hacc⟩ := hrel
    subst hu
    have hz := hb.size
    by_cases hend : i < l.length
    · obtain ⟨g, off, cap', hv', _, hg, hcell⟩ := hpv.cell (by omega)
      injection hv' with hva _ hvc
      subst hva hvc
      have hc0 := hcell i hend
      rw [unstR_step l i hend] at hacc
      have HA := Lib.hid hacc
      have hgd : (l.getD i 0).toNat = l[i].toNat := by simp [List.getD, hend]
      have HX := Lib.hid hgd
      have hxb := l[i].toNat_lt
      have hc := begins_any _ l i wr hpv hl (by omega)
      clear hacc hgd hcell
      cases hbg : beginsL l i with
      | false =>
        have hE : endAt l i = false := by unfold endAt; rw [hbg, Bool.false_and]
        have HE := Lib.hid hE
        rw [hbg] at hc
        clear hbg hE
        go_wp2_with fail
        refine hc.mono ?_
        rintro e w1 ⟨rfl, hb0⟩
        have hpv1 := hpv.below hb0
        have hb1 := hb.trans (hb0.mono hz)
        go_wp2
        go_roundw
        case rel => exact ⟨i + 1, hend, by rw [Int.natCast_add]; rfl, hpv1, hb1, by rw [← HA.out, HE.out, if_neg (by decide)]⟩
        case measure => simp only [intOf]; omega
      | true =>
        have HB := Lib.hid hbg
        rw [hbg] at hc
        clear hbg
        go_wp2_with fail
        refine hc.mono ?_
        rintro e w1 ⟨rfl, hb0⟩
        have hpv1 := hpv.below hb0
        have hb1 := hb.trans (hb0.mono hz)
        have hz1 := hb1.size
        have hc1 := (hb0.cell hg).trans hc0
        have hg1 := Nat.lt_of_lt_of_le hg hb0.size
        clear hpv hb0 hc hb hc0
        by_cases hx : l[i].toNat = 46
        · have hX : ((l[i].toNat : Int) == 46) = true := by rw [beq_iff_eq]; omega
          have hd := ends_any _ l (i + 1) w1 hpv1 hl (by omega)
          rw [show ((i + 1 : Nat) : Int) = (i : Int) + 1 by omega] at hd
          have HX46 := Lib.hid hx
          clear hx
          cases heg : endsL l (i + 1) with
          | false =>
            have hE : endAt l i = false := by unfold endAt; rw [heg, Bool.and_false, Bool.and_false]
            have HE := Lib.hid hE
            rw [heg] at hd
            clear heg hE
            go_wp2_with fail
            refine hd.mono ?_
            rintro e w2 ⟨rfl, hb0⟩
            have hpv2 := hpv1.below hb0
            have hb2 := hb1.trans (hb0.mono hz1)
            go_wp2
            go_roundw
            case rel => exact ⟨i + 1, hend, by rw [Int.natCast_add]; rfl, hpv2, hb2, by rw [← HA.out, HE.out, if_neg (by decide)]⟩
            case measure => simp only [intOf]; omega
          | true =>
            have hE : endAt l i = true := by unfold endAt; rw [HB.out, heg, HX.out, HX46.out]; rfl
            have HE := Lib.hid hE
            rw [heg] at hd
            clear heg hE
            go_wp2_with fail
            refine hd.mono ?_
            rintro e w2 ⟨rfl, hb0⟩
            have hpv2 := hpv1.below hb0
            have hb2 := hb1.trans (hb0.mono hz1)
            have hz2 := hb2.size
            have hal1 : Below w2.heap.size w2 (w2.alloc (.cells #[] 5)) := (Below.refl _ w2).alloc (Nat.le_refl _) _
            have hpA := hpv2.below hal1
            have hbA := hb2.trans (hal1.mono hz2)
            have hrowA : Row w.heap.size (w2.alloc (.cells #[] 5)) (.slice (some ⟨w2.heap.size, 0, none⟩) 0 0) [] := Row.made w2 5 [] #[] rfl hz2 (by decide)
            have hgd : bodyG l (i - 0) 0 = bodyD l i := rfl
            generalize hG : bodyD l i = G at hgd
            have HG := Lib.hid hG
            have HGD := Lib.hid hgd
            have hF2 : F = some (G, i + 3) := by rw [← HA.out, HE.out, if_pos rfl, HG.out]
            subst hF2
            clear hG hgd hal1 hc1 hpv1 hpv2 hb0 hb1 hb2 hd
            go_wp2
            go_loopw [6, 7] (fun ov jv wr => ∃ (acc : List UInt8) (j : Nat), j ≤ i ∧ jv = .int .i64 (j : Int) ∧ Byt wr (.slice (some ⟨g, off, none⟩) l.length cap) l ∧ Row w.heap.size wr ov acc ∧ Below w.heap.size w wr ∧ acc ++ bodyG l (i - j) j = G ∧ acc.length ≤ j) (fun _ jv _ => i - intOf jv)
            case atStart => exact ⟨[], 0, Nat.zero_le _, rfl, hpA, hrowA, hbA, HGD.out, Nat.le_refl _⟩
            case round =>
              obtain ⟨acc, j, hj, hu, hpv, hrow, hb, hacc, hal⟩ := hrel
              subst hu
              have hz := hb.size
              by_cases hji : j < i
              · rw [bodyG_step l i j hji hi] at hacc
                have hjl : j < l.length := by omega
                have hc0 := hpv.get j hjl
                have hjb := l[j].toNat_lt
                by_cases hx : l[j].toNat = 46
                · have hc := begins_any _ l j wr hpv hl (by omega)
                  have hX : ((l[j].toNat : Int) != 46) = false := by rw [bne_eq_false_iff_eq]; omega
                  cases hbg : beginsL l j with
                  | true =>
                    rw [if_pos ⟨hx, hbg⟩] at hacc
                    have HAc := Lib.hid hacc
                    rw [hbg] at hc
                    clear hacc hbg hx
                    go_wp2_with fail
                    refine hc.mono ?_
                    rintro e w3 ⟨rfl, hb0⟩
                    have hrow1 := hrow.kept hb0.size fun g hg => hb0.block g (hrow.1.lt g hg)
                    have hpv1 := hpv.below hb0
                    have hb1 := hb.trans (hb0.mono hz)
                    clear hrow hpv hc hb hb0
                    go_wp2
                    go_roundw
                    case rel => exact ⟨acc, j + 1, by omega, by rw [Int.natCast_add]; rfl, hpv1, hrow1, hb1, HAc.out, by omega⟩
                    case measure => simp only [intOf]; omega
                  | false =>
                    rw [if_neg (fun h => by rw [hbg] at h; exact absurd h.2 (by decide))] at hacc
                    have HAc := Lib.hid hacc
                    rw [hbg] at hc
                    have H46 := Lib.hid hx
                    clear hacc hbg hx
                    go_wp2_with fail
                    refine hc.mono ?_
                    rintro e w3 ⟨rfl, hb0⟩
                    have hrow1 := hrow.kept hb0.size fun g hg => hb0.block g (hrow.1.lt g hg)
                    have hpv1 := hpv.below hb0
                    have hb1 := hb.trans (hb0.mono hz)
                    have hz1 := hb1.size
                    have hc1 := hpv1.get j hjl
                    clear hrow hpv hc hb hb0 hc0
                    obtain ⟨v3, w4, hr3, hrow3, hbl3, hk3, hz3⟩ := app_lits w3 hrow1 [l[j]] #[.int .u8 (l[j].toNat : Int)] 1 rfl rfl hz1 (by omega)
                    have hp3 := hk3 _ _ hpv1 hlt
                    have hb3 := hbl3 w hb1
                    have R3 := Lib.hid hr3
                    have HROW := Lib.hid hrow3
                    clear hr3 hk3 hbl3 hrow3
                    go_wp2_with (at_builtin; refine wpList_append_run _ rfl _ _ 31 31 rfl _ _ rfl rfl v3 w4 R3.out ?_)
                    go_roundw
                    case rel => exact ⟨acc ++ [l[j]], j + 1, by omega, by rw [Int.natCast_add]; rfl, hp3, HROW.out, hb3, by rw [← HAc.out, List.append_assoc], by simp only [List.length_append, List.length_cons, List.length_nil]; omega⟩
                    case measure => simp only [intOf]; omega
                · have hX : ((l[j].toNat : Int) != 46) = true := by rw [bne_iff_ne]; omega
                  rw [if_neg (fun h => hx h.1)] at hacc
                  have HAc := Lib.hid hacc
                  clear hacc hx
                  obtain ⟨v3, w4, hr3, hrow3, hbl3, hk3, hz3⟩ := app_lits wr hrow [l[j]] #[.int .u8 (l[j].toNat : Int)] 1 rfl rfl hz (by omega)
                  have hp3 := hk3 _ _ hpv hlt
                  have hb3 := hbl3 w hb
                  have R3 := Lib.hid hr3
                  have HROW := Lib.hid hrow3
                  clear hr3 hk3 hbl3 hrow3
                  go_wp2_with (at_builtin; refine wpList_append_run _ rfl _ _ 31 31 rfl _ _ rfl rfl v3 w4 R3.out ?_)
                  go_roundw
                  case rel => exact ⟨acc ++ [l[j]], j + 1, by omega, by rw [Int.natCast_add]; rfl, hp3, HROW.out, hb3, by rw [← HAc.out, List.append_assoc], by simp only [List.length_append, List.length_cons, List.length_nil]; omega⟩
                  case measure => simp only [intOf]; omega
              · have he : j = i := by omega
                subst he
                rw [bodyG_end, List.append_nil] at hacc
                have HAc := Lib.hid hacc
                clear hacc
                go_wp2
                go_ret3
                rw [← HAc.out]
                exact ⟨hb, _, rfl, hrow⟩
        · have hX : ((l[i].toNat : Int) == 46) = false := by rw [beq_eq_false_iff_ne]; omega
          have hE : endAt l i = false := by unfold endAt; rw [HX.out, decide_eq_false hx, Bool.false_and, Bool.and_false]
          have HE := Lib.hid hE
          clear hE hx
          go_wp2
          go_roundw
          case rel => exact ⟨i + 1, hend, by rw [Int.natCast_add]; rfl, hpv1, hb1, by rw [← HA.out, HE.out, if_neg (by decide)]⟩
          case measure => simp only [intOf]; omega
    · rw [unstR_end l _ i (by omega)] at hacc
      subst hacc
      go_wp2
      go_ret3
      exact ⟨hb, rfl⟩
end Go.Proofs.Ytbhkchdkknainaa
