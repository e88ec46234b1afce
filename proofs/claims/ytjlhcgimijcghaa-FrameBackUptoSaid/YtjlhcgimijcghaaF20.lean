/- Frame: the walk of FrameBack. -/
import Derived.Test.YtjlhcgimijcghaaF19
namespace Go.Proofs.Ytjlhcgimijcghaa
open Go Go.RowKit

theorem rds_two {w : World} {a b : Option Addr} {c d : Nat} {l m : List UInt8} (h1 : Byt w (.slice a l.length c) l) (h2 : Byt w (.slice b m.length d) m) :
    RdS (w.alloc (.cells #[.slice a l.length c, .slice b m.length d] 22)) (.slice (some ⟨w.heap.size, 0, none⟩) 2 2) [l, m] := by
  have hb : Below w.heap.size w (w.alloc (.cells #[.slice a l.length c, .slice b m.length d] 22)) := (Below.refl _ w).alloc (Nat.le_refl _) _
  refine ⟨[.slice a l.length c, .slice b m.length d], rfl, ⟨some ⟨w.heap.size, 0, none⟩, 2, rfl, Nat.le_refl _, (fun h => by cases h), fun ad had => ?_⟩, fun i x l' hx hl => ?_⟩
  · injection had with had
    subst had
    refine ⟨w.heap.size, 0, rfl, by simp, fun j hj => ?_⟩
    rw [Nat.zero_add, World.cell?_alloc_mark]
    simp only [List.length_cons, List.length_nil] at hj
    rcases (by omega : j = 0 ∨ j = 1) with rfl | rfl <;> rfl
  · match i with
    | 0 => simp at hx hl; subst hx hl; exact h1.below hb
    | 1 => simp at hx hl; subst hx hl; exact h2.below hb
    | i + 2 => simp at hx

set_option maxHeartbeats 1000000 in
theorem back_bad (u v t : Value) (p q : List UInt8) (w : World) (hu : Byt w u p) (hv : Byt w v q) (hbad : packE p ≠ 0 ∨ packE q ≠ 0) :
    Calls Try.prog 7 #[u, v, t] w fun e w' => e = .returned (.bool true) ∧ Below w.heap.size w w' := by
  have hp := pack_all u p w hu
  have hq := fun W hb => pack_all v q W (hv.below (w' := W) hb)
  obtain ⟨a, c, rfl, _⟩ := hu.shape
  obtain ⟨b, d, rfl, _⟩ := hv.shape
  generalize packE p = E at *
  generalize packE q = F at *
  have HP := Lib.hid hp
  have HQ := Lib.hid hq
  clear hp hq hu hv
  go_enter Try.func7, Try.ntmps7
  go_wp2_with fail
  refine HP.out.mono ?_
  rintro e w1 ⟨v1, rfl, R1, b1⟩
  have HB1 := Lib.hid b1
  obtain ⟨a1, c1, rfl, _⟩ := R1.1.shape
  clear R1 b1
  go_wp2_with fail
  refine (HQ.out _ HB1.out).mono ?_
  rintro e w2 ⟨v2, rfl, R2, b2⟩
  have HB2 := Lib.hid (HB1.out.trans (b2.mono HB1.out.size))
  obtain ⟨a2, c2, rfl, _⟩ := R2.1.shape
  clear R2 b2
  by_cases hE : E = 0
  · have hF : ((F : Int) != 0) = true := by rw [bne_iff_ne]; exact hbad.resolve_left (fun h => h hE)
    subst hE
    go_wp2_with fail
    refine (live_any w2).mono ?_
    rintro e w3 ⟨rfl, b3⟩
    have HB3 := Lib.hid (HB2.out.trans (b3.mono HB2.out.size))
    clear b3
    go_wp2
    go_ret
    exact ⟨rfl, HB3.out⟩
  · have hEb : ((E : Int) != 0) = true := by rw [bne_iff_ne]; exact hE
    go_wp2_with fail
    refine (live_any w2).mono ?_
    rintro e w3 ⟨rfl, b3⟩
    have HB3 := Lib.hid (HB2.out.trans (b3.mono HB2.out.size))
    clear b3
    go_wp2
    go_ret
    exact ⟨rfl, HB3.out⟩

set_option maxHeartbeats 4000000 in
theorem back_good (u v t : Value) (p q r : List UInt8) (w : World) (hu : Byt w u p) (hv : Byt w v q) (ht : Byt w t r) (hp0 : p.length ≠ 0) (hp1 : p.length ≤ 2000) (hq0 : q.length ≠ 0) (hq1 : q.length ≤ 2000) (hr : r.length ≤ 100000000) :
    Calls Try.prog 7 #[u, v, t] w fun e w' => e = .returned (.bool true) ∧ Below w.heap.size w w' := by
  have hp := pack_any u p w hu hp0 hp1
  have hq := fun W hb => pack_any v q W (hv.below (w' := W) hb) hq0 hq1
  have htl := ht.lt
  obtain ⟨a, c, rfl, _⟩ := hu.shape
  obtain ⟨b, d, rfl, _⟩ := hv.shape
  obtain ⟨f, g, rfl, _⟩ := ht.shape
  have hX := packL_len p
  have hY := packL_len q
  have o1 := oneP_pack r (packL q ++ r) p hp0 hp1
  have o2 := oneP_pack (r ++ packL p) r q hq0 hq1
  have o3 := scan_two p q hp0 hp1 hq0 hq1
  rw [show r ++ packL p ++ (packL q ++ r) = r ++ packL p ++ packL q ++ r by simp only [List.append_assoc]] at o1
  generalize packL p = X at *
  generalize packL q = Y at *
  have HP := Lib.hid hp
  have HQ := Lib.hid hq
  have HU := Lib.hid hu
  have HV := Lib.hid hv
  have HT := Lib.hid ht
  have O1 := Lib.hid o1
  have O2 := Lib.hid o2
  have O3 := Lib.hid o3
  have HX := Lib.hid hX
  have HY := Lib.hid hY
  clear hp hq hu hv ht o1 o2 o3 hX hY
  go_enter Try.func7, Try.ntmps7
  go_wp2_with fail
  refine HP.out.mono ?_
  rintro e w1 ⟨v1, rfl, R1, b1⟩
  have HB1 := Lib.hid b1
  have HR1 := Lib.hid R1
  obtain ⟨a1, c1, rfl, _⟩ := R1.1.shape
  clear R1 b1 HP
  go_wp2_with fail
  refine (HQ.out _ HB1.out).mono ?_
  rintro e w2 ⟨v2, rfl, R2, b2⟩
  have hb2 := HB1.out.trans (b2.mono HB1.out.size)
  have hA := HR1.out.1.below b2
  have hB := R2.1
  have hT := HT.out.below hb2
  obtain ⟨a2, c2, rfl, _⟩ := hB.shape
  have lA := hA.lt
  have lB := hB.lt
  have lT := hT.lt
  have hX := HX.out
  have hY := HY.out
  have hE := Row.made w2 5 [] #[] rfl (Nat.le_refl _) (by decide)
  rw [List.length_nil] at hE
  have hbE : Below w2.heap.size w2 (w2.alloc (.cells #[] 5)) := (Below.refl _ w2).alloc (Nat.le_refl _) _
  obtain ⟨u1, z1, r1, S1, g1, _⟩ := app_row _ hE (hT.below hbE) hbE.size (by simp; omega)
  have e1 := below_grow hbE hE hbE.size g1
  rw [List.nil_append] at S1
  obtain ⟨u2, z2, r2, S2, g2, _⟩ := app_row z1 S1 (hA.below e1) e1.size (by omega)
  have e2 := below_grow e1 S1 e1.size g2
  obtain ⟨u3, z3, r3, S3, g3, _⟩ := app_row z2 S2 (hB.below e2) e2.size (by simp only [List.length_append]; omega)
  have e3 := below_grow e2 S2 e2.size g3
  obtain ⟨u4, z4, r4, S4, g4, _⟩ := app_row z3 S3 (hT.below e3) e3.size (by simp only [List.length_append]; omega)
  have e4 := below_grow e3 S3 e3.size g4
  have hlen4 : (r ++ X ++ Y ++ r).length = r.length + (p.length + 6) + (q.length + 6) + r.length := by simp only [List.length_append]; omega
  obtain ⟨a4, c4, rfl, _⟩ := S4.1.shape
  have hone1 := one_any _ _ r.length z4 S4.1 (by omega)
  rw [O1.out] at hone1
  have K1 := Lib.hid r1
  have K2 := Lib.hid r2
  have K3 := Lib.hid r3
  have K4 := Lib.hid r4
  have HS4 := Lib.hid S4.1
  have HE4 := Lib.hid e4
  have HB2 := Lib.hid hb2
  have HA := Lib.hid hA
  have HBB := Lib.hid hB
  have HONE := Lib.hid hone1
  rw [hlen4] at *
  clear hb2 b2 hA hB hT lA lB lT hE hbE r1 r2 r3 r4 S1 S2 S3 S4 g1 g2 g3 g4 e1 e2 e3 e4 hone1 hlen4 HR1 HQ R2 hX hY HB1
  go_wp2_with (at_builtin; first
    | (refine wpList_append_run _ rfl _ _ 22 22 rfl _ _ rfl rfl u1 z1 K1.out ?_)
    | (refine wpList_append_run _ rfl _ _ 22 22 rfl _ _ rfl rfl u2 z2 K2.out ?_)
    | (refine wpList_append_run _ rfl _ _ 22 22 rfl _ _ rfl rfl u3 z3 K3.out ?_)
    | (refine wpList_append_run _ rfl _ _ 22 22 rfl _ _ rfl rfl _ z4 K4.out ?_))
  refine HONE.out.mono ?_
  rintro e w5 ⟨v5, rfl, R5, b5⟩
  have hb4 := HB2.out.trans (HE4.out.mono HB2.out.size)
  have hb5 := hb4.trans (b5.mono hb4.size)
  have hrX : (r ++ X).length = r.length + 6 + p.length := by rw [List.length_append, HX.out]; omega
  have ho2 := O2.out
  rw [hrX] at ho2
  have hone2 := one_any _ _ (r.length + 6 + p.length) w5 (HS4.out.below b5) (by simp only [List.length_append, HX.out, HY.out]; omega)
  rw [ho2] at hone2
  have HONE2 := Lib.hid hone2
  have HB5 := Lib.hid hb5
  have HV5 := Lib.hid R5.1
  have HA5 := Lib.hid ((HA.out.below HE4.out).below b5)
  have HBB5 := Lib.hid ((HBB.out.below HE4.out).below b5)
  obtain ⟨a5, c5, rfl, _⟩ := R5.1.shape
  clear R5 b5 hb4 hb5 hrX ho2 hone2 HONE HS4 HE4 HB2 HA HBB K1 K2 K3 K4
  go_wp2_with fail
  refine HONE2.out.mono ?_
  rintro e w6 ⟨v6, rfl, R6, b6⟩
  have hb6 := HB5.out.trans (b6.mono HB5.out.size)
  have hA := HA5.out.below b6
  have hB := HBB5.out.below b6
  have hX := HX.out
  have hY := HY.out
  have hE := Row.made w6 5 [] #[] rfl (Nat.le_refl _) (by decide)
  rw [List.length_nil] at hE
  have hbE : Below w6.heap.size w6 (w6.alloc (.cells #[] 5)) := (Below.refl _ w6).alloc (Nat.le_refl _) _
  obtain ⟨u1, z1, r1, S1, g1, _⟩ := app_row _ hE (hA.below hbE) hbE.size (by simp; omega)
  have e1 := below_grow hbE hE hbE.size g1
  rw [List.nil_append] at S1
  obtain ⟨u2, z2, r2, S2, g2, _⟩ := app_row z1 S1 (hB.below e1) e1.size (by omega)
  have e2 := below_grow e1 S1 e1.size g2
  have hscan := scan_any _ _ z2 S2.1 (by rw [List.length_append]; omega)
  rw [O3.out] at hscan
  have HSC := Lib.hid hscan
  have K1 := Lib.hid r1
  have K2 := Lib.hid r2
  have HE2 := Lib.hid e2
  have HB6 := Lib.hid hb6
  have HV6 := Lib.hid R6.1
  have HV5b := Lib.hid (HV5.out.below b6)
  obtain ⟨a6, c6, rfl, _⟩ := R6.1.shape
  obtain ⟨ax, cx, rfl, _⟩ := S2.1.shape
  rw [List.length_append] at *
  clear R6 b6 hb6 hA hB hE hbE r1 S1 g1 e1 r2 S2 g2 e2 hscan HV5 HA5 HBB5 HB5 HONE2 hX hY
  go_wp2_with (at_builtin; first
    | (refine wpList_append_run _ rfl _ _ 22 22 rfl _ _ rfl rfl u1 z1 K1.out ?_)
    | (refine wpList_append_run _ rfl _ _ 22 22 rfl _ _ rfl rfl _ z2 K2.out ?_))
  refine HSC.out.mono ?_
  rintro e w9 ⟨v9, rfl, R9, b9⟩
  have hb8 := HB6.out.trans (HE2.out.mono HB6.out.size)
  have HB9 := Lib.hid (hb8.trans (b9.mono hb8.size))
  have HV59 := Lib.hid ((HV5b.out.below HE2.out).below b9)
  have HV69 := Lib.hid ((HV6.out.below HE2.out).below b9)
  have HR9 := Lib.hid R9
  obtain ⟨a9, c9, rfl, _⟩ := R9.shape
  clear R9 b9 hb8 HSC HB6 HE2 HV5b HV6 K1 K2
  go_wp2_with fail
  refine (live_any w9).mono ?_
  rintro e w10 ⟨rfl, b10⟩
  have hb10 := HB9.out.trans (b10.mono HB9.out.size)
  have hU := HU.out.below hb10
  have hV := HV.out.below hb10
  have hc1 := run_byt_string (P := Try.prog) w10 22 9 5 Try.underlying22 Try.underlying5 Try.underlying9 (HV59.out.below b10)
  have hc2 := run_byt_string (P := Try.prog) w10 22 9 5 Try.underlying22 Try.underlying5 Try.underlying9 hU
  have hc3 := run_byt_string (P := Try.prog) w10 22 9 5 Try.underlying22 Try.underlying5 Try.underlying9 (HV69.out.below b10)
  have hc4 := run_byt_string (P := Try.prog) w10 22 9 5 Try.underlying22 Try.underlying5 Try.underlying9 hV
  have hbS : Below w10.heap.size w10 (w10.alloc (.cells #[.slice a p.length c, .slice b q.length d] 22)) := (Below.refl _ w10).alloc (Nat.le_refl _) _
  have hsm := same_any _ _ [p, q] _ ((HR9.out.rds.below b10).below hbS) (rds_two hU hV) (by simp)
  have HSM := Lib.hid hsm
  have HBS := Lib.hid (hb10.trans (hbS.mono hb10.size))
  have hX := HX.out
  have hY := HY.out
  have hend : ((r.length + 6 + p.length + 6 + q.length : Nat) : Int) = ((r.length + (p.length + 6) + (q.length + 6) + r.length : Nat) : Int) - (r.length : Int) := by omega
  clear hsm hbS hb10 hU hV b10 HR9 HV59 HV69 HB9
  go_wp2_with fail
  refine HSM.out.mono ?_
  rintro e w11 ⟨rfl, b11⟩
  have HB11 := Lib.hid (HBS.out.trans (b11.mono HBS.out.size))
  clear b11
  go_wp2
  go_ret
  exact ⟨rfl, HB11.out⟩

theorem walk_back (u v t : Value) (p q r : List UInt8) (w : World) (hu : Byt w u p) (hv : Byt w v q) (ht : Byt w t r) (hr : r.length ≤ 100000000) :
    Calls Try.prog 7 #[u, v, t] w fun e w' => e = .returned (.bool true) ∧ Below w.heap.size w w' := by
  by_cases hp : packE p ≠ 0
  · exact back_bad u v t p q w hu hv (Or.inl hp)
  · by_cases hq : packE q ≠ 0
    · exact back_bad u v t p q w hu hv (Or.inr hq)
    · have h : ∀ l, ¬ packE l ≠ 0 → l.length ≠ 0 ∧ l.length ≤ 2000 := fun l h => by
        unfold packE at h
        by_cases h0 : l.length = 0
        · rw [if_pos h0] at h; simp at h
        · by_cases h1 : 2000 < l.length
          · rw [if_neg h0, if_pos h1] at h; simp at h
          · exact ⟨h0, by omega⟩
      exact back_good u v t p q r w hu hv ht (h p hp).1 (h p hp).2 (h q hq).1 (h q hq).2 hr
end Go.Proofs.Ytjlhcgimijcghaa
