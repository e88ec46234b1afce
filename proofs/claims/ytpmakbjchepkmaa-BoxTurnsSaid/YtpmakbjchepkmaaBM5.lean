/- Box: BoxTurns, walked. -/
import Derived.Test.YtpmakbjchepkmaaBW5
import Derived.Test.YtpmakbjchepkmaaBM3
namespace Go.Proofs.Ytpmakbjchepkmaa
open Go Go.RowKit

theorem rflag_any (name : ByteArray) (valid next : Int) (sv : Value) (ps : List LV) (u how : Int) (flags : UInt8) (w : World) (h : Lets w sv ps) (hlen : ps.length ≤ 9223372036854775807) :
    Calls Try.prog 19 #[boxV name valid next sv, .int .i64 u, .int .i64 how, .int .u8 (flags.toNat : Int)] w (TurnR w (flagE valid next (ps.map (·.1)) u how flags) name valid next (flagL (ps.map (·.1)) u how flags)) := by
  by_cases hbad : chk valid next (ps.map (·.1)) ≠ 0 ∨ how < 0 ∨ 2 < how ∨ 32 ≤ flags.toNat
  · exact rflag_bad name valid next sv ps u how flags w h hlen hbad
  · obtain ⟨k, rfl⟩ : ∃ k : Nat, how = (k : Int) := ⟨how.toNat, by omega⟩
    exact rflag_good name valid next sv ps u k flags w h (by by_cases hc : chk valid next (ps.map (·.1)) = 0; exact hc; exact absurd (Or.inl hc) hbad) (by omega) (by omega)
/-- What a call that turns a box tells, in one form. -/
def TurnT (W : World) (E : Int) (name : ByteArray) (valid next : Int) (L : List Letr) (e : Ending) (w' : World) : Prop :=
  ∃ a c qs, e = .returned (.tuple #[boxV name valid next (.slice a qs.length c), .int .i64 E]) ∧ Lets w' (.slice a qs.length c) qs ∧ qs.map (·.1) = L ∧ Below W.heap.size W w'
theorem TurnR.tell {W w' : World} {E : Int} {name : ByteArray} {valid next : Int} {L : List Letr} {e : Ending} (h : TurnR W E name valid next L e w') :
    TurnT W E (if E = 0 then name else ⟨#[]⟩) (if E = 0 then valid else 0) (if E = 0 then next else 0) (if E = 0 then L else []) e w' := by
  obtain ⟨hb, hbad, hok⟩ := h
  by_cases hE : E = 0
  · obtain ⟨a, c, qs, e1, e2, e3⟩ := hok hE
    simp only [if_pos hE]
    exact ⟨a, c, qs, by rw [e1, hE], e2, e3, hb⟩
  · simp only [if_neg hE]
    exact ⟨none, 0, [], hbad hE, Lets.nil _ _ _, rfl, hb⟩
theorem flag_both (name : ByteArray) (valid next : Int) (ps : List LV) (u how : Int) (flags : UInt8) :
    ∃ (nm : ByteArray) (vl nx : Int) (L : List Letr), L.length ≤ 32 ∧
      (∀ sv w, Lets w sv ps → ps.length ≤ 9223372036854775807 → Calls Try.prog 18 #[boxV name valid next sv, .int .i64 u, .int .i64 how, .int .u8 (flags.toNat : Int)] w (TurnT w (flagE valid next (ps.map (·.1)) u how flags) nm vl nx L)) ∧
      (∀ sv w, Lets w sv ps → ps.length ≤ 9223372036854775807 → Calls Try.prog 19 #[boxV name valid next sv, .int .i64 u, .int .i64 how, .int .u8 (flags.toNat : Int)] w (TurnT w (flagE valid next (ps.map (·.1)) u how flags) nm vl nx L)) := by
  refine ⟨_, _, _, _, ?_, fun sv w h hlen => (flag_any name valid next sv ps u how flags w h hlen).mono fun e w' ⟨h1, h2, h3⟩ => TurnR.tell (name := name) (valid := valid) (next := next) (L := flagL (ps.map (·.1)) u how flags) ⟨h1, h2, fun hE => ?_⟩, fun sv w h hlen => (rflag_any name valid next sv ps u how flags w h hlen).mono fun e w' hr => hr.tell⟩
  · split
    · rename_i hE
      unfold flagL
      rw [List.length_modify]
      unfold flagE at hE
      split at hE
      · rename_i h0; exact absurd hE h0
      · rename_i h0
        exact (chk_ok (by simpa using h0)).2.2.1
    · simp
  · obtain ⟨a, c, qs, e1, e2, e3, e4⟩ := h3 hE
    exact ⟨a, c, qs, e1, e2.lets (fun p hp => (e4 p hp).1.1.z), e3⟩
theorem cut_both (name : ByteArray) (valid next : Int) (ps : List LV) (u : Int) :
    ∃ (nm : ByteArray) (vl nx : Int) (L : List Letr), L.length ≤ 32 ∧
      (∀ sv w, Lets w sv ps → ps.length ≤ 9223372036854775807 → Calls Try.prog 20 #[boxV name valid next sv, .int .i64 u] w (TurnT w (cutE valid next (ps.map (·.1)) u) nm vl nx L)) ∧
      (∀ sv w, Lets w sv ps → ps.length ≤ 9223372036854775807 → Calls Try.prog 21 #[boxV name valid next sv, .int .i64 u] w (TurnT w (cutE valid next (ps.map (·.1)) u) nm vl nx L)) := by
  refine ⟨_, _, _, _, ?_, fun sv w h hlen => (cut_any name valid next sv ps u w h hlen).mono fun e w' ⟨h1, h2, h3⟩ => TurnR.tell (name := name) (valid := valid) (next := next) (L := cutL (ps.map (·.1)) u) ⟨h1, h2, fun hE => ?_⟩, fun sv w h hlen => (rcut_any name valid next sv ps u w h hlen).mono fun e w' hr => hr.tell⟩
  · split
    · rename_i hE
      unfold cutE at hE
      split at hE
      · rename_i h0; exact absurd hE h0
      · rename_i h0
        exact Nat.le_trans (List.length_filter_le _ _) (chk_ok (by simpa using h0)).2.2.1
    · simp
  · obtain ⟨a, c, qs, e1, e2, e3, e4⟩ := h3 hE
    exact ⟨a, c, qs, e1, e2.lets (fun p hp => (e4 p hp).1.1.z), e3⟩

set_option maxHeartbeats 8000000 in
set_option maxRecDepth 100000 in
theorem walk_turns (name : ByteArray) (valid next : Int) (sv : Value) (ps : List LV) (u how : Int) (fl : UInt8) (w : World) (h : BoxIn w name valid next sv ps) (hM : Ml w) :
    Calls Try.prog 5 #[boxV name valid next sv, turnV u how fl] w fun e w' => e = .returned (.bool true) ∧ Below w.heap.size w w' := by
  obtain ⟨nm, vl, nx, L, hL, hf, hrf⟩ := flag_both name valid next ps u how fl
  obtain ⟨nm', vl', nx', L', hL', hc, hrc⟩ := cut_both name valid next ps u
  have hb0 : Below w.heap.size w ((w.alloc (.cells #[.string name, .int .i64 valid, .int .i64 next, sv] 24)).alloc (.cells #[.int .i64 u, .int .i64 how, .int .u8 (fl.toNat : Int)] 36)) := ((Below.refl _ w).alloc (Nat.le_refl _) _).alloc (by simp) _
  have hbx : BoxW ((w.alloc (.cells #[.string name, .int .i64 valid, .int .i64 next, sv] 24)).alloc (.cells #[.int .i64 u, .int .i64 how, .int .u8 (fl.toNat : Int)] 36)) w.heap.size name valid next sv :=
    (BoxW.new w name valid next sv 24).below ((Below.refl _ _).alloc (Nat.le_refl _) _) (by simp)
  have htn : TurnW ((w.alloc (.cells #[.string name, .int .i64 valid, .int .i64 next, sv] 24)).alloc (.cells #[.int .i64 u, .int .i64 how, .int .u8 (fl.toNat : Int)] 36)) (w.heap.size + 1) u how fl := by
    have a := fun j v (hj : (#[.int .i64 u, .int .i64 how, .int .u8 (fl.toNat : Int)] : Array Value)[j]? = some v) => (two_boxes w #[.string name, .int .i64 valid, .int .i64 next, sv] #[.int .i64 u, .int .i64 how, .int .u8 (fl.toNat : Int)] 24 36 j).2.trans hj
    exact ⟨a 0 _ rfl, a 1 _ rfl, a 2 _ rfl⟩
  obtain ⟨W0, hW0⟩ : ∃ W0, W0 = (w.alloc (.cells #[.string name, .int .i64 valid, .int .i64 next, sv] 24)).alloc (.cells #[.int .i64 u, .int .i64 how, .int .u8 (fl.toNat : Int)] 36) := ⟨_, rfl⟩
  rw [← hW0] at hb0 hbx htn
  have hl0 := h.lets.below hb0
  have hM0 := hM.below hb0
  have hlen := h.len
  obtain ⟨sa, sc, rfl, _⟩ := h.lets.shape
  generalize flagE valid next (ps.map (·.1)) u how fl = E at *
  generalize cutE valid next (ps.map (·.1)) u = X at *
  have HF := Lib.hid (hf _ W0 hl0 hlen)
  have HG := Lib.hid (fun W (hW : Below W0.heap.size W0 W) => hrf _ W (hl0.below hW) hlen)
  have HC := Lib.hid (fun W (hW : Below W0.heap.size W0 W) => hc _ W (hl0.below hW) hlen)
  have HD := Lib.hid (fun W (hW : Below W0.heap.size W0 W) => hrc _ W (hl0.below hW) hlen)
  have HLL := Lib.hid hL
  have HLL' := Lib.hid hL'
  unfold boxV at HF HG HC HD ⊢
  unfold turnV
  have HMM := Lib.hid hM0
  have HB := Lib.hid hb0
  have HW := Lib.hid hW0
  have HBX := Lib.hid hbx
  have HTN := Lib.hid htn
  have hu := fl.toNat_lt
  obtain ⟨c0, c1, c2, c3, _⟩ := id hbx
  obtain ⟨d0, d1, d2⟩ := id htn
  clear hL hL' hf hrf hc hrc hb0 hbx htn hW0 hl0 hM0 hM h hlen
  go_enter Try.func5, Try.ntmps5
  go_wp2_with (rw [← HW.out])
  refine HF.out.mono ?_
  rintro e w1 ⟨a1, k1, q1, rfl, hl1, hm1, hb1⟩
  unfold boxV
  have hx1 := BoxW.new w1 nm vl nx (.slice a1 q1.length k1) 24
  have hy1 : Below w1.heap.size w1 (w1.alloc (.cells #[.string nm, .int .i64 vl, .int .i64 nx, .slice a1 q1.length k1] 24)) := (Below.refl _ w1).alloc (Nat.le_refl _) _
  obtain ⟨W1, hW1⟩ : ∃ W1, W1 = w1.alloc (.cells #[.string nm, .int .i64 vl, .int .i64 nx, .slice a1 q1.length k1] 24) := ⟨_, rfl⟩
  rw [← hW1] at hx1 hy1
  have HW1 := Lib.hid hW1
  have HB1 := Lib.hid (hb1.trans (hy1.mono hb1.size))
  have HL1 := Lib.hid (hl1.below hy1)
  have HX1 := Lib.hid hx1
  have HM1 := Lib.hid hm1
  have HG1 := Lib.hid (HG.out W1 HB1.out)
  clear c0 c1 c2 c3 d0 d1 d2 hW1 hb1 hy1 hl1 hx1 hm1 HF HG
  obtain ⟨c0, c1, c2, c3, _⟩ := HBX.out.below HB1.out HBX.out.lt
  obtain ⟨d0, d1, d2⟩ := HTN.out.below HB1.out HTN.out.lt
  go_wp2_with (first | rw [← HW1.out])
  refine HG1.out.mono ?_
  rintro e w2 ⟨a2, k2, q2, rfl, hl2, hm2, hb2⟩
  unfold boxV
  have hx2 := BoxW.new w2 nm vl nx (.slice a2 q2.length k2) 24
  have hy2 : Below w2.heap.size w2 (w2.alloc (.cells #[.string nm, .int .i64 vl, .int .i64 nx, .slice a2 q2.length k2] 24)) := (Below.refl _ w2).alloc (Nat.le_refl _) _
  obtain ⟨W2, hW2⟩ : ∃ W2, W2 = w2.alloc (.cells #[.string nm, .int .i64 vl, .int .i64 nx, .slice a2 q2.length k2] 24) := ⟨_, rfl⟩
  rw [← hW2] at hx2 hy2
  have HW2 := Lib.hid hW2
  have hbb := hb2.trans (hy2.mono hb2.size)
  have HB2 := Lib.hid (HB1.out.trans (hbb.mono HB1.out.size))
  have h1 := HL1.out.below hbb
  have h2 := hl2.below hy2
  have hqq : q1.map (·.1) = q2.map (·.1) := by rw [HM1.out, hm2]
  have h33 : q1.length ≤ 32 := by have := HLL.out; rw [← HM1.out, List.length_map] at this; exact this
  have HLA := Lib.hid h1
  have HLB := Lib.hid h2
  have HQQ := Lib.hid hqq
  have H33 := Lib.hid h33
  have HX12 := Lib.hid (HX1.out.below hbb HX1.out.lt)
  have HX2 := Lib.hid hx2
  have HC2 := Lib.hid (HC.out W2 HB2.out)
  clear c0 c1 c2 c3 d0 d1 d2 hW2 hb2 hy2 hl2 hx2 hm2 hbb h1 h2 hqq h33 HG1 HL1 HX1 HM1 HLL HC HB1
  obtain ⟨c0, c1, c2, c3, _⟩ := HBX.out.below HB2.out HBX.out.lt
  obtain ⟨d0, d1, d2⟩ := HTN.out.below HB2.out HTN.out.lt
  go_wp2_with (first | rw [← HW2.out])
  refine HC2.out.mono ?_
  rintro e w3 ⟨a3, k3, q3, rfl, hl3, hm3, hb3⟩
  unfold boxV
  have hx3 := BoxW.new w3 nm' vl' nx' (.slice a3 q3.length k3) 24
  have hy3 : Below w3.heap.size w3 (w3.alloc (.cells #[.string nm', .int .i64 vl', .int .i64 nx', .slice a3 q3.length k3] 24)) := (Below.refl _ w3).alloc (Nat.le_refl _) _
  obtain ⟨W3, hW3⟩ : ∃ W3, W3 = w3.alloc (.cells #[.string nm', .int .i64 vl', .int .i64 nx', .slice a3 q3.length k3] 24) := ⟨_, rfl⟩
  rw [← hW3] at hx3 hy3
  have HW3 := Lib.hid hW3
  have HB23 := Lib.hid (hb3.trans (hy3.mono hb3.size))
  have HB3 := Lib.hid (HB2.out.trans (HB23.out.mono HB2.out.size))
  have HL3 := Lib.hid (hl3.below hy3)
  have HX3 := Lib.hid hx3
  have HM3 := Lib.hid hm3
  have HD3 := Lib.hid (HD.out W3 HB3.out)
  clear c0 c1 c2 c3 d0 d1 d2 hW3 hb3 hy3 hl3 hx3 hm3 HC2 HD
  obtain ⟨c0, c1, c2, c3, _⟩ := HBX.out.below HB3.out HBX.out.lt
  obtain ⟨d0, d1, d2⟩ := HTN.out.below HB3.out HTN.out.lt
  go_wp2_with (first | rw [← HW3.out])
  refine HD3.out.mono ?_
  rintro e w4 ⟨a4, k4, q4, rfl, hl4, hm4, hb4⟩
  unfold boxV
  have hx4 := BoxW.new w4 nm' vl' nx' (.slice a4 q4.length k4) 24
  have hy4 : Below w4.heap.size w4 (w4.alloc (.cells #[.string nm', .int .i64 vl', .int .i64 nx', .slice a4 q4.length k4] 24)) := (Below.refl _ w4).alloc (Nat.le_refl _) _
  obtain ⟨W4, hW4⟩ : ∃ W4, W4 = w4.alloc (.cells #[.string nm', .int .i64 vl', .int .i64 nx', .slice a4 q4.length k4] 24) := ⟨_, rfl⟩
  rw [← hW4] at hx4 hy4
  have HW4 := Lib.hid hW4
  have hbb := hb4.trans (hy4.mono hb4.size)
  have hb24 := HB23.out.trans (hbb.mono HB23.out.size)
  have HB4 := Lib.hid (HB3.out.trans (hbb.mono HB3.out.size))
  have h3 := HL3.out.below hbb
  have h4 := hl4.below hy4
  have hqq : q3.map (·.1) = q4.map (·.1) := by rw [HM3.out, hm4]
  have h33 : q3.length ≤ 32 := by have := HLL'.out; rw [← HM3.out, List.length_map] at this; exact this
  have HS2 := Lib.hid (fun W (hb : Below W4.heap.size W4 W) => same_old nm' vl' nx' (.slice a3 q3.length k3) (.slice a4 q4.length k4) q3 q4 hb (h3.below hb) (h4.below hb) hqq (by omega))
  have HS1' := Lib.hid (fun W (hb : Below W4.heap.size W4 W) => same_old nm vl nx (.slice a1 q1.length k1) (.slice a2 q2.length k2) q1 q2 hb ((HLA.out.below hb24).below hb) ((HLB.out.below hb24).below hb) HQQ.out (by have := H33.out; omega))
  have HLV := Lib.hid (bring (W0 := W4) (Below.refl _ _) (live_any W4 (HMM.out.below HB4.out)))
  have HX14 := Lib.hid (HX12.out.below hb24 HX12.out.lt)
  have HX24 := Lib.hid (HX2.out.below hb24 HX2.out.lt)
  have HX34 := Lib.hid (HX3.out.below hbb HX3.out.lt)
  have HX4 := Lib.hid hx4
  have HB24 := Lib.hid hb24
  unfold boxV at HS2 HS1'
  clear c0 c1 c2 c3 d0 d1 d2 hW4 hb4 hy4 hl4 hx4 hm4 hbb hb24 h3 h4 hqq h33 HD3 HL3 HX3 HM3 HLL' HLA HLB HQQ H33 HX12 HX2
  go_wp2_with (first | rw [← HW4.out])
  refine HLV.out.mono ?_
  rintro e w5 ⟨rfl, hb5⟩
  obtain ⟨c0, c1, c2, c3, _⟩ := HX14.out.below hb5 HX14.out.lt
  obtain ⟨d0, d1, d2, d3, _⟩ := HX24.out.below hb5 HX24.out.lt
  have HS5 := Lib.hid (HS1'.out w5 hb5)
  have hb5' := hb5
  clear hb5 HLV HW1 HW2 HW3 HW4 HW HS1'
  go_wp2_with fail
  refine HS5.out.mono ?_
  rintro e w6 ⟨rfl, hb6⟩
  clear c0 c1 c2 c3 d0 d1 d2 hb5'
  obtain ⟨c0, c1, c2, c3, _⟩ := HX34.out.below hb6 HX34.out.lt
  obtain ⟨d0, d1, d2, d3, _⟩ := HX4.out.below hb6 HX4.out.lt
  have HS6 := Lib.hid (HS2.out w6 hb6)
  clear hb6 HS2 HS5
  go_wp2_with fail
  refine HS6.out.mono ?_
  rintro e w7 ⟨rfl, hb7⟩
  go_wp2
  go_ret
  exact ⟨by simp, HB.out.trans ((HB4.out.trans (hb7.mono HB4.out.size)).mono HB.out.size)⟩
end Go.Proofs.Ytpmakbjchepkmaa
