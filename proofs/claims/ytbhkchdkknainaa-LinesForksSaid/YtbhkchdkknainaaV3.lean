import Derived.Test.YtbhkchdkknainaaV2
import Derived.WalkMore
import Derived.OwnWalk
namespace Go.Proofs.Ytbhkchdkknainaa
open Go.RowKit

theorem unstF_more : ∀ f g l acc k, l.length < f → l.length < g → unstF f l acc k = unstF g l acc k := by
  intro f
  induction f with
  | zero => intro g l acc k h; omega
  | succ f ih =>
    intro g l acc k h1 h2
    obtain ⟨g, rfl⟩ : ∃ g', g = g' + 1 := ⟨g - 1, by omega⟩
    unfold unstF
    cases hl : lineLen l with
    | none => rfl
    | some n =>
      have := lineLen_le l n hl
      simp only
      rw [ih g (l.drop n) _ _ (by rw [List.length_drop]; omega) (by rw [List.length_drop]; omega)]
def unstS (l acc : List UInt8) (k : Nat) : Option (List UInt8 × Nat) := unstF (l.length + 1) l acc k
theorem unstS_none (l acc : List UInt8) (k : Nat) (h : lineLen l = none) : unstS l acc k = none := by
  unfold unstS unstF; rw [h]
theorem unstS_some (l acc : List UInt8) (k n : Nat) (h : lineLen l = some n) : unstS l acc k = if l.take n = [46, 13, 10] then some (acc, k + n) else unstS (l.drop n) (acc ++ (if l.head? = some 46 then (l.take n).drop 1 else l.take n)) (k + n) := by
  have hle := lineLen_le l n h
  unfold unstS
  conv => lhs; unfold unstF
  rw [h]
  simp only
  rw [unstF_more l.length ((l.drop n).length + 1) (l.drop n) _ _ (by rw [List.length_drop]; omega) (by omega)]

def intOf : Value → Nat | .int _ n => n.toNat | _ => 0

set_option maxHeartbeats 1600000 in
set_option maxRecDepth 100000 in
theorem unst_any (a : Option Addr) (cap : Nat) (l : List UInt8) (w : World) (hv : Byt w (.slice a l.length cap) l) (hl : l.length ≤ 1073741824) (hM : Ml w) :
    Calls Try.prog 16 #[.slice a l.length cap] w fun e w' => Below w.heap.size w w' ∧ match unstL l with
      | none => e = .returned (.tuple #[.slice none 0 0, .int .i64 0, .int .i64 3])
      | some (b, n) => ∃ v', e = .returned (.tuple #[v', .int .i64 (n : Int), .int .i64 0]) ∧ Row w.heap.size w' v' b := by
  have hst : unstL l = unstS l [] 0 := rfl
  generalize hF : unstS l [] 0 = F at hst
  have HF := Lib.hid hF
  rw [hst]
  clear hF hst
  have hlt := hv.lt
  go_enter Try.func16, Try.ntmps16
  go_wp2
  go_step3
  go_wp2
  go_step3
  go_wp2
  go_loopw [5, 6, 7, 8] (fun bv av _l _b wr => ∃ (acc : List UInt8) (k : Nat), k ≤ l.length ∧ av = .int .i64 (k : Int) ∧ Byt wr (.slice a l.length cap) l ∧ Row w.heap.size wr bv acc ∧ Below w.heap.size w wr ∧ unstS (l.drop k) acc k = F ∧ acc.length ≤ k) (fun _ av _ _ _ => l.length - intOf av)
  case atStart => exact ⟨[], 0, Nat.zero_le _, rfl, hv, Row.nil _ _, Below.refl _ _, HF.out, Nat.le_refl _⟩
  case round =>
    obtain ⟨acc, k, hk, hu, hpv, hrow, hb, hacc, hal⟩ := hrel
    subst hu
    have hz := hb.size
    have hcap : l.length ≤ cap := by obtain ⟨_, _, h1, h2, _⟩ := hpv; injection h1 with _ _ e3; omega
    have hcut := run_cut_from (P := Try.prog) wr 31 5 Try.underlying31 sz5 a l.length cap k hk
    have hr0 := hpv.cut k l.length cap hk (Nat.le_refl _) hcap (Nat.le_refl _)
    rw [List.take_of_length_le (by rw [List.length_drop]; omega)] at hr0
    have hrl : (l.drop k).length = l.length - k := List.length_drop
    rw [← hrl] at hr0
    generalize hR : l.drop k = rest at hr0 hrl hacc
    have HRe := Lib.hid hR
    clear hR
    have hMr := hM.below hb (Nat.le_refl _)
    generalize cutA a k cap = c at hr0 hcut
    cases hln : lineLen rest with
    | none =>
      have hf := first_no _ rest wr hr0 (by omega) hMr hln
      rw [hrl] at hf
      rw [unstS_none _ _ _ hln] at hacc
      have HA := Lib.hid hacc
      clear hacc hln hr0
      go_wp2_with fail
      refine hf.mono ?_
      rintro e w1 ⟨rfl, hb0⟩
      have hb1 := hb.trans (hb0.mono hz)
      go_wp2
      rw [Exit.noGoto_ret]
      go_ret3
      rw [← HA.out]
      exact ⟨hb1, rfl⟩
    | some n => 
      have hf := first_yes _ _ rest n wr hr0 (by omega) hMr hln
      rw [hrl] at hf
      have hle := (lineLen_le rest n hln).2
      have hn2 := (lineLen_le rest n hln).1
      rw [unstS_some _ _ _ n hln] at hacc
      have HA := Lib.hid hacc
      clear hacc hln
      go_wp2_with fail
      refine hf.mono ?_
      rintro e w1 ⟨rfl, hb0⟩
      have hb1 := hb.trans (hb0.mono hz)
      have hrow1 := hrow.kept hb0.size fun g hg => hb0.block g (hrow.1.lt g hg)
      have hpv1 := hpv.below hb0
      have hr1 := hr0.below hb0
      clear hrow hpv hb0 hf hr0
      have hz1 := hb1.size
      have hline := hr1.cut 0 n (cap - k) (Nat.zero_le _) hle (by omega) (Nat.le_refl _)
      rw [cutA_zero hr1, Nat.sub_zero, Nat.sub_zero, List.drop_zero] at hline
      have hconv := fun (s : List UInt8) (hs : Byt w1 (.slice c n (cap - k)) s) => run_byt_string (P := Try.prog) w1 31 9 5 Try.underlying31 Try.underlying5 Try.underlying9 hs
      have hcv := hconv _ hline
      clear hconv
      have hp0 : 0 < rest.length := by omega
      by_cases hend : rest.take n = [46, 13, 10]
      · have hE : (rest.take n == [46, 13, 10]) = true := by rw [beq_iff_eq]; exact hend
        have HEN := Lib.hid hend
        clear hend
        go_wp2
        rw [Exit.noGoto_ret]
        go_ret3
        rw [← HA.out, if_pos HEN.out]
        exact ⟨hb1, u5, by rw [Int.natCast_add]; rfl, hrow1⟩
      · have hE : (rest.take n == [46, 13, 10]) = false := by rw [beq_eq_false_iff_ne]; exact hend
        have HEN := Lib.hid hend
        clear hend
        obtain ⟨g, off, cap', hv', _, hg, hcell⟩ := hr1.cell hp0
        injection hv' with hva _ hvc
        subst hva hvc
        have hc0 := hcell 0 hp0
        rw [Nat.add_zero] at hc0
        have hh : rest.head? = some rest[0] := by rw [List.head?_eq_getElem?, List.getElem?_eq_getElem hp0]
        by_cases h46 : rest[0].toNat = 46
        · have hb46 : ((rest[0].toNat : Int) == 46) = true := by rw [beq_iff_eq]; omega
          have hd : (if rest.head? = some 46 then (rest.take n).drop 1 else rest.take n) = (rest.take n).drop 1 := by rw [hh, show rest[0] = 46 from UInt8.toNat_inj.1 (by rw [h46]; rfl), if_pos rfl]
          have hl1 := hline.cut 1 n (cap - k) (by omega) (Nat.le_refl _) (by omega) (Nat.le_refl _)
          rw [List.take_of_length_le (by rw [List.length_drop, List.length_take]; omega), show cutA (some ⟨g, off, none⟩) 1 (cap - k) = some ⟨g, off + 1, none⟩ by unfold cutA; rw [if_neg (by omega)]; show some (Addr.add _ 1) = _; rw [addr_plus]] at hl1
          have HD := Lib.hid hd
          clear hd h46 hh hcell hr1
          obtain ⟨v2, w2, hr2, hrow2, hg2, _⟩ := app_row _ hrow1 hl1 hz1 (by simp only [List.length_drop, List.length_take]; omega)
          have hp2 := hpv1.grown hlt hrow1 hg2
          have hb2 := below_grow hb1 hrow1 hz1 hg2
          have R2 := Lib.hid hr2
          have HROW := Lib.hid hrow2
          clear hr2 hg2 hrow1 hrow2 hpv1
          go_wp2_with (at_builtin; refine wpList_append_run _ rfl _ _ 31 31 rfl _ _ rfl rfl v2 w2 R2.out ?_)
          go_roundw
          case rel =>
            refine ⟨acc ++ (rest.take n).drop 1, k + n, by omega, by rw [Int.natCast_add], hp2, HROW.out, hb2, ?_, by simp only [List.length_append, List.length_drop, List.length_take]; omega⟩
            rw [← List.drop_drop, HRe.out, ← HA.out, if_neg HEN.out, HD.out]
          case measure => simp only [intOf]; omega
        · have hb46 : ((rest[0].toNat : Int) == 46) = false := by rw [beq_eq_false_iff_ne]; omega
          have hd : (if rest.head? = some 46 then (rest.take n).drop 1 else rest.take n) = rest.take n := by
            rw [hh, if_neg]
            intro h
            injection h with h
            exact h46 (by rw [h]; rfl)
          have HD := Lib.hid hd
          clear hd h46 hh hcell hr1
          obtain ⟨v2, w2, hr2, hrow2, hg2, _⟩ := app_row _ hrow1 hline hz1 (by simp only [List.length_take]; omega)
          have hp2 := hpv1.grown hlt hrow1 hg2
          have hb2 := below_grow hb1 hrow1 hz1 hg2
          have R2 := Lib.hid hr2
          have HROW := Lib.hid hrow2
          clear hr2 hg2 hrow1 hrow2 hpv1
          go_wp2_with (at_builtin; refine wpList_append_run _ rfl _ _ 31 31 rfl _ _ rfl rfl v2 w2 R2.out ?_)
          go_roundw
          case rel =>
            refine ⟨acc ++ rest.take n, k + n, by omega, by rw [Int.natCast_add], hp2, HROW.out, hb2, ?_, by simp only [List.length_append, List.length_take]; omega⟩
            rw [← List.drop_drop, HRe.out, ← HA.out, if_neg HEN.out, HD.out]
          case measure => simp only [intOf]; omega
end Go.Proofs.Ytbhkchdkknainaa
