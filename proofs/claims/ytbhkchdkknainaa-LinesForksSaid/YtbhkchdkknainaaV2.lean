import Derived.Test.YtbhkchdkknainaaV1
namespace Go.Proofs.Ytbhkchdkknainaa
open Go.RowKit

theorem app_row (w : World) {B : Nat} {v x : Value} {l p : List UInt8} (hv : Row B w v l) (hx : Byt w x p) (hB : B ≤ w.heap.size) (hlen : l.length + p.length ≤ 140737488355328) :
    ∃ v' w', (∀ ty, (Builtin.append_ #[31, 31] ty #[v, x]).run Try.prog w = .ok v' w') ∧ Row B w' v' (l ++ p) ∧ w.grownBy w' v.ownBlock ∧ (v'.ownBlock = v.ownBlock ∨ ∀ g, v'.ownBlock = some g → w.heap.size ≤ g) := by
  obtain ⟨i0, hi, hz0, hz1, hz2⟩ := info_parts info5
  exact run_append_row w 31 5 i0 Try.underlying31 hi hz0 hz1 hz2 hv hx hB hlen
theorem app_str (w : World) {B : Nat} {v : Value} {l : List UInt8} (s : ByteArray) (hv : Row B w v l) (hB : B ≤ w.heap.size) (hlen : l.length + s.size ≤ 140737488355328) :
    ∃ v' w', (∀ ty, (Builtin.append_ #[31, 9] ty #[v, .string s]).run Try.prog w = .ok v' w') ∧ Row B w' v' (l ++ s.data.toList) ∧ w.grownBy w' v.ownBlock ∧ (v'.ownBlock = v.ownBlock ∨ ∀ g, v'.ownBlock = some g → w.heap.size ≤ g) := by
  obtain ⟨i0, hi, hz0, hz1, hz2⟩ := info_parts info5
  exact run_append_string w 31 9 5 i0 Try.underlying31 Try.underlying9 hi hz0 hz1 hz2 s hv hB hlen

theorem Row.own {B : Nat} {w : World} {v : Value} {l : List UInt8} (h : Row B w v l) : ∀ g, v.ownBlock = some g → B ≤ g := by
  intro g hg
  obtain ⟨a, cap, rfl, _⟩ := h.1.shape
  cases a with
  | none => simp [Value.ownBlock] at hg
  | some ad =>
    simp [Value.ownBlock] at hg
    subst hg
    exact (h.2 ad _ _ rfl).1
theorem below_grow {B : Nat} {a w w' : World} {v : Value} {l : List UInt8} (hb : Below B a w) (h : Row B w v l) (hB : B ≤ w.heap.size) (hg : w.grownBy w' v.ownBlock) : Below B a w' :=
  hb.grown hg hB fun k hk => h.own k hk
/-- What lies below stands when the call's own row grows. -/
theorem Byt.grown {B : Nat} {w w' : World} {v x : Value} {l p : List UInt8} (h : Byt w x p) (hx : ∀ g, x.ownBlock = some g → g < B) (hv : Row B w v l) (hg : w.grownBy w' v.ownBlock) : Byt w' x p :=
  h.kept hg.size fun g hxg => hg.block g (h.lt g hxg) (fun e => by have := hv.own g e.symm; have := hx g hxg; omega)

def lenOf : Value → Nat | .slice _ n _ => n | _ => 0

theorem stuffF_nil (f : Nat) : stuffF f [] = [] := by cases f <;> rfl
theorem stuffF_more : ∀ f g l, l.length < f → l.length < g → stuffF f l = stuffF g l := by
  intro f
  induction f with
  | zero => intro g l h; omega
  | succ f ih =>
    intro g l h1 h2
    obtain ⟨g, rfl⟩ : ∃ g', g = g' + 1 := ⟨g - 1, by omega⟩
    unfold stuffF
    by_cases h0 : l = []
    · rw [if_pos h0, if_pos h0]
    · rw [if_neg h0, if_neg h0]
      cases hl : lineLen l with
      | none => rfl
      | some n =>
        have := lineLen_le l n hl
        simp only
        rw [ih g (l.drop n) (by rw [List.length_drop]; omega) (by rw [List.length_drop]; omega)]
def stuffS (l : List UInt8) : List UInt8 := stuffF (l.length + 1) l
def dotOf (l : List UInt8) : List UInt8 := if l.head? = some 46 then [46] else []
theorem stuffS_nil : stuffS [] = [] := rfl
theorem stuffS_none (l : List UInt8) (h0 : l ≠ []) (h : lineLen l = none) : stuffS l = dotOf l ++ l ++ [13, 10] := by
  unfold stuffS stuffF; rw [if_neg h0, h]; rfl
theorem stuffS_some (l : List UInt8) (n : Nat) (h0 : l ≠ []) (h : lineLen l = some n) : stuffS l = dotOf l ++ l.take n ++ stuffS (l.drop n) := by
  have hle := lineLen_le l n h
  have hp : 0 < l.length := List.length_pos_iff.2 h0
  unfold stuffS
  conv => lhs; unfold stuffF
  rw [if_neg h0, h]
  simp only
  rw [stuffF_more l.length ((l.drop n).length + 1) (l.drop n) (by rw [List.length_drop]; omega) (by omega)]
  rfl

set_option maxHeartbeats 1600000 in
set_option maxRecDepth 100000 in
theorem stuff_any (v : Value) (l : List UInt8) (w : World) (hv : Byt w v l) (hl : l.length ≤ 1073741824) (hM : Ml w) :
    Calls Try.prog 18 #[v] w fun e w' => ∃ v', e = .returned v' ∧ Row w.heap.size w' v' (stuffL l) ∧ Below w.heap.size w w' := by
  have hst : stuffL l = stuffS l ++ [46, 13, 10] := rfl
  generalize hF : stuffS l = F at hst
  have HF := Lib.hid hF
  rw [hst]
  clear hF hst
  have hlt := hv.lt
  go_enter Try.func18, Try.ntmps18
  go_wp2
  go_loopw [0, 3, 4, 5] (fun pv dv _l _b wr => ∃ (rest acc : List UInt8), Byt wr pv rest ∧ (∀ g, pv.ownBlock = some g → g < w.heap.size) ∧ rest.length ≤ l.length ∧ Row w.heap.size wr dv acc ∧ Below w.heap.size w wr ∧ acc ++ stuffS rest = F ∧ acc.length ≤ 4 * (l.length - rest.length)) (fun pv _ _ _ _ => lenOf pv)
  case atStart => exact ⟨l, [], hv, hlt, Nat.le_refl _, Row.nil _ _, Below.refl _ _, HF.out, by simp⟩
  case round =>
    obtain ⟨rest, acc, hpv, hpb, hrl, hrow, hb, hacc, hal⟩ := hrel
    have hz := hb.size
    by_cases h0 : rest = []
    · subst h0
      obtain ⟨a, cap, rfl, hcap⟩ := hpv.shape
      obtain ⟨v1, w1, hr1, hrow1, hg1, _⟩ := app_str wr ⟨#[46, 13, 10]⟩ hrow hz (by show _ + 3 ≤ _; omega)
      have HR := Lib.hid hrow1
      have hb1 := below_grow hb hrow hz hg1
      rw [stuffS_nil, List.append_nil] at hacc
      have HA := Lib.hid hacc
      have HRUN := Lib.hid hr1
      clear hrow1 hacc hg1 hr1
      go_wp2_with (at_builtin; refine wpList_append_run _ rfl _ _ 31 9 rfl _ _ rfl rfl v1 w1 HRUN.out ?_)
      go_wp2
      go_ret
      refine ⟨_, rfl, ?_, hb1⟩
      rw [← HA.out]
      exact HR.out
    · have hp0 : 0 < rest.length := List.length_pos_iff.2 h0
      obtain ⟨a, cap, rfl, hcap⟩ := hpv.shape
      cases hln : lineLen rest with
      | none =>
        have hf := first_no _ rest wr hpv (by omega) (hM.below hb (Nat.le_refl _)) hln
        have hS := stuffS_none rest h0 hln
        have HS := Lib.hid hS
        have HA := Lib.hid hacc
        clear hS hacc hln
        go_wp2_with fail
        refine hf.mono ?_
        rintro e w1 ⟨rfl, hb0⟩
        have hrow1 := hrow.kept hb0.size fun g hg => hb0.block g (hrow.1.lt g hg)
        have hpv1 := hpv.below hb0
        have hb1 := hb.trans (hb0.mono hz)
        have hz1 := hb1.size
        clear hrow hpv hb0 hf hb
        obtain ⟨g, off, cap', hv, _, hg, hcell⟩ := hpv1.cell hp0
        injection hv with hva _ hvc
        subst hva hvc
        have hc0 := hcell 0 hp0
        rw [Nat.add_zero] at hc0
        have hh : rest.head? = some rest[0] := by rw [List.head?_eq_getElem?, List.getElem?_eq_getElem hp0]
        by_cases h46 : rest[0].toNat = 46
        · have hb46 : ((rest[0].toNat : Int) == 46) = true := by rw [beq_iff_eq]; omega
          have hd : dotOf rest = [46] := by unfold dotOf; rw [hh, show rest[0] = 46 from UInt8.toNat_inj.1 (by rw [h46]; rfl)]; rfl
          have HD := Lib.hid hd
          clear hd h46 hh hcell
          have hx46 : Byt (w1.alloc (.cells #[.int .u8 46] 5)) (.slice (some ⟨w1.heap.size, 0, none⟩) 1 1) [46] := (Row.made w1 5 [46] #[.int .u8 46] rfl (B := 0) (Nat.zero_le _) (by decide)).1
          have hal1 : Below w1.heap.size w1 (w1.alloc (.cells #[.int .u8 46] 5)) := (Below.refl _ w1).alloc (Nat.le_refl _) _
          have hrowA := hrow1.below hal1
          have hpA := hpv1.below hal1
          have hbA := hb1.trans (hal1.mono hz1)
          have hzA := hbA.size
          obtain ⟨v2, w2, hr2, hrow2, hg2, _⟩ := app_row _ hrowA hx46 hzA (by simp only [List.length_cons, List.length_nil]; omega)
          have hp2 := hpA.grown hpb hrowA hg2
          have hb2 := below_grow hbA hrowA hzA hg2
          have R2 := Lib.hid hr2
          have hz2 := hb2.size
          clear hr2 hg2 hrowA hpA hx46 hal1 hbA hzA
          obtain ⟨v3, w3, hr3, hrow3, hg3, _⟩ := app_row _ hrow2 hp2 hz2 (by simp only [List.length_append, List.length_cons, List.length_nil]; omega)
          have hp3 := hp2.grown hpb hrow2 hg3
          have hb3 := below_grow hb2 hrow2 hz2 hg3
          have R3 := Lib.hid hr3
          have hz3 := hb3.size
          clear hr3 hg3
          obtain ⟨v4, w4, hr4, hrow4, hg4, _⟩ := app_str _ ⟨#[13, 10]⟩ hrow3 hz3 (by simp only [List.length_append, List.length_cons, List.length_nil]; show _ + 2 ≤ _; omega)
          have hp4 := hp3.grown hpb hrow3 hg4
          have hb4 := below_grow hb3 hrow3 hz3 hg4
          have R4 := Lib.hid hr4
          clear hr4 hg4 hrow3 hp3
          have HROW := Lib.hid hrow4
          clear hrow4
          have hcut := run_cut_from (P := Try.prog) w4 31 5 Try.underlying31 sz5 (some ⟨g, off, none⟩) rest.length cap rest.length (by omega)
          have hpc := hp4.cut rest.length rest.length cap (by omega) (Nat.le_refl _) hcap (Nat.le_refl _)
          have HPC := Lib.hid hpc
          clear hpc hp4
          go_wp2_with (at_builtin; first | (refine wpList_append_run _ rfl _ _ 31 31 rfl _ _ rfl rfl v2 w2 R2.out ?_) | (refine wpList_append_run _ rfl _ _ 31 31 rfl _ _ rfl rfl v3 w3 R3.out ?_) | (refine wpList_append_run _ rfl _ _ 31 9 rfl _ _ rfl rfl v4 w4 R4.out ?_))
          go_roundw
          case rel =>
            refine ⟨rest.drop rest.length, acc ++ [46] ++ rest ++ [13, 10], ?_, ?_, by rw [List.length_drop]; omega, HROW.out, hb4, ?_, ?_⟩
            · have := HPC.out
              rw [List.take_of_length_le (by rw [List.length_drop]; omega), Nat.sub_self] at this
              exact this
            · intro g hg
              rw [cut_block _ rest.length cap _ _ rest.length cap] at hg
              exact hpb g hg
            · rw [← HA.out]
              simp [HS.out, HD.out, stuffS_nil]
            · simp only [List.length_append, List.length_cons, List.length_nil, List.length_drop]; omega
          case measure => simp only [lenOf]; omega
        · have hb46 : ((rest[0].toNat : Int) == 46) = false := by rw [beq_eq_false_iff_ne]; omega
          have hd : dotOf rest = [] := by
            unfold dotOf
            rw [hh, if_neg]
            intro h
            injection h with h
            exact h46 (by rw [h]; rfl)
          have HD := Lib.hid hd
          clear hd h46 hh hcell
          obtain ⟨v3, w3, hr3, hrow3, hg3, _⟩ := app_row _ hrow1 hpv1 hz1 (by omega)
          have hp3 := hpv1.grown hpb hrow1 hg3
          have hb3 := below_grow hb1 hrow1 hz1 hg3
          have R3 := Lib.hid hr3
          have hz3 := hb3.size
          clear hr3 hg3
          obtain ⟨v4, w4, hr4, hrow4, hg4, _⟩ := app_str _ ⟨#[13, 10]⟩ hrow3 hz3 (by simp only [List.length_append]; show _ + 2 ≤ _; omega)
          have hp4 := hp3.grown hpb hrow3 hg4
          have hb4 := below_grow hb3 hrow3 hz3 hg4
          have R4 := Lib.hid hr4
          clear hr4 hg4 hrow3 hp3
          have HROW := Lib.hid hrow4
          clear hrow4
          have hcut := run_cut_from (P := Try.prog) w4 31 5 Try.underlying31 sz5 (some ⟨g, off, none⟩) rest.length cap rest.length (by omega)
          have hpc := hp4.cut rest.length rest.length cap (by omega) (Nat.le_refl _) hcap (Nat.le_refl _)
          have HPC := Lib.hid hpc
          clear hpc hp4
          go_wp2_with (at_builtin; first | (refine wpList_append_run _ rfl _ _ 31 31 rfl _ _ rfl rfl v3 w3 R3.out ?_) | (refine wpList_append_run _ rfl _ _ 31 9 rfl _ _ rfl rfl v4 w4 R4.out ?_))
          go_roundw
          case rel =>
            refine ⟨rest.drop rest.length, acc ++ rest ++ [13, 10], ?_, ?_, by rw [List.length_drop]; omega, HROW.out, hb4, ?_, ?_⟩
            · have := HPC.out
              rw [List.take_of_length_le (by rw [List.length_drop]; omega), Nat.sub_self] at this
              exact this
            · intro g hg
              rw [cut_block _ rest.length cap _ _ rest.length cap] at hg
              exact hpb g hg
            · rw [← HA.out]
              simp [HS.out, HD.out, stuffS_nil]
            · simp only [List.length_append, List.length_cons, List.length_nil, List.length_drop]; omega
          case measure => simp only [lenOf]; omega
      | some n =>
        have hf := first_yes a cap rest n wr hpv (by omega) (hM.below hb (Nat.le_refl _)) hln
        have hle := (lineLen_le rest n hln).2
        have hn2 := (lineLen_le rest n hln).1
        have hS := stuffS_some rest n h0 hln
        have HS := Lib.hid hS
        have HA := Lib.hid hacc
        clear hS hacc hln
        go_wp2_with fail
        refine hf.mono ?_
        rintro e w1 ⟨rfl, hb0⟩
        have hrow1 := hrow.kept hb0.size fun g hg => hb0.block g (hrow.1.lt g hg)
        have hpv1 := hpv.below hb0
        have hb1 := hb.trans (hb0.mono hz)
        have hz1 := hb1.size
        clear hrow hpv hb0 hf hb
        obtain ⟨g, off, cap', hv, _, hg, hcell⟩ := hpv1.cell hp0
        injection hv with hva _ hvc
        subst hva hvc
        have hc0 := hcell 0 hp0
        rw [Nat.add_zero] at hc0
        have hh : rest.head? = some rest[0] := by rw [List.head?_eq_getElem?, List.getElem?_eq_getElem hp0]
        by_cases h46 : rest[0].toNat = 46
        · have hb46 : ((rest[0].toNat : Int) == 46) = true := by rw [beq_iff_eq]; omega
          have hd : dotOf rest = [46] := by unfold dotOf; rw [hh, show rest[0] = 46 from UInt8.toNat_inj.1 (by rw [h46]; rfl)]; rfl
          have HD := Lib.hid hd
          clear hd h46 hh hcell
          have hx46 : Byt (w1.alloc (.cells #[.int .u8 46] 5)) (.slice (some ⟨w1.heap.size, 0, none⟩) 1 1) [46] := (Row.made w1 5 [46] #[.int .u8 46] rfl (B := 0) (Nat.zero_le _) (by decide)).1
          have hal1 : Below w1.heap.size w1 (w1.alloc (.cells #[.int .u8 46] 5)) := (Below.refl _ w1).alloc (Nat.le_refl _) _
          have hrowA := hrow1.below hal1
          have hpA := hpv1.below hal1
          have hbA := hb1.trans (hal1.mono hz1)
          have hzA := hbA.size
          obtain ⟨v2, w2, hr2, hrow2, hg2, _⟩ := app_row _ hrowA hx46 hzA (by simp only [List.length_cons, List.length_nil]; omega)
          have hp2 := hpA.grown hpb hrowA hg2
          have hb2 := below_grow hbA hrowA hzA hg2
          have R2 := Lib.hid hr2
          have hz2 := hb2.size
          clear hr2 hg2 hrowA hpA hx46 hal1 hbA hzA
          have hline := hp2.cut 0 n cap (Nat.zero_le _) hle (by omega) (Nat.le_refl _)
          rw [cutA_zero hp2, Nat.sub_zero, Nat.sub_zero, List.drop_zero] at hline
          obtain ⟨v3, w3, hr3, hrow3, hg3, _⟩ := app_row _ hrow2 hline hz2 (by simp only [List.length_append, List.length_take, List.length_cons, List.length_nil]; omega)
          clear hline
          have hp3 := hp2.grown hpb hrow2 hg3
          have hb3 := below_grow hb2 hrow2 hz2 hg3
          have R3 := Lib.hid hr3
          have hz3 := hb3.size
          clear hr3 hg3
          have HROW := Lib.hid hrow3
          clear hrow3
          have hcut := run_cut_from (P := Try.prog) w3 31 5 Try.underlying31 sz5 (some ⟨g, off, none⟩) rest.length cap n (by omega)
          have hpc := hp3.cut n rest.length cap (by omega) (Nat.le_refl _) hcap (Nat.le_refl _)
          have HPC := Lib.hid hpc
          clear hpc hp3
          go_wp2_with (at_builtin; first | (refine wpList_append_run _ rfl _ _ 31 31 rfl _ _ rfl rfl v2 w2 R2.out ?_) | (refine wpList_append_run _ rfl _ _ 31 31 rfl _ _ rfl rfl v3 w3 R3.out ?_))
          go_roundw
          case rel =>
            refine ⟨rest.drop n, acc ++ [46] ++ rest.take n, ?_, ?_, by rw [List.length_drop]; omega, HROW.out, hb3, ?_, ?_⟩
            · have := HPC.out
              rw [List.take_of_length_le (by rw [List.length_drop]; omega)] at this
              exact this
            · intro g hg
              rw [cut_block _ n cap _ _ rest.length cap] at hg
              exact hpb g hg
            · rw [← HA.out]
              simp [HS.out, HD.out]
            · simp only [List.length_append, List.length_take, List.length_cons, List.length_nil, List.length_drop]; omega
          case measure => simp only [lenOf]; omega
        · have hb46 : ((rest[0].toNat : Int) == 46) = false := by rw [beq_eq_false_iff_ne]; omega
          have hd : dotOf rest = [] := by
            unfold dotOf
            rw [hh, if_neg]
            intro h
            injection h with h
            exact h46 (by rw [h]; rfl)
          have HD := Lib.hid hd
          clear hd h46 hh hcell
          have hline := hpv1.cut 0 n cap (Nat.zero_le _) hle (by omega) (Nat.le_refl _)
          rw [cutA_zero hpv1, Nat.sub_zero, Nat.sub_zero, List.drop_zero] at hline
          obtain ⟨v3, w3, hr3, hrow3, hg3, _⟩ := app_row _ hrow1 hline hz1 (by simp only [List.length_take]; omega)
          clear hline
          have hp3 := hpv1.grown hpb hrow1 hg3
          have hb3 := below_grow hb1 hrow1 hz1 hg3
          have R3 := Lib.hid hr3
          have hz3 := hb3.size
          clear hr3 hg3
          have HROW := Lib.hid hrow3
          clear hrow3
          have hcut := run_cut_from (P := Try.prog) w3 31 5 Try.underlying31 sz5 (some ⟨g, off, none⟩) rest.length cap n (by omega)
          have hpc := hp3.cut n rest.length cap (by omega) (Nat.le_refl _) hcap (Nat.le_refl _)
          have HPC := Lib.hid hpc
          clear hpc hp3
          go_wp2_with (at_builtin; first | (refine wpList_append_run _ rfl _ _ 31 31 rfl _ _ rfl rfl v3 w3 R3.out ?_))
          go_roundw
          case rel =>
            refine ⟨rest.drop n, acc ++ rest.take n, ?_, ?_, by rw [List.length_drop]; omega, HROW.out, hb3, ?_, ?_⟩
            · have := HPC.out
              rw [List.take_of_length_le (by rw [List.length_drop]; omega)] at this
              exact this
            · intro g hg
              rw [cut_block _ n cap _ _ rest.length cap] at hg
              exact hpb g hg
            · rw [← HA.out]
              simp [HS.out, HD.out]
            · simp only [List.length_append, List.length_take, List.length_drop]; omega
          case measure => simp only [lenOf]; omega
end Go.Proofs.Ytbhkchdkknainaa
