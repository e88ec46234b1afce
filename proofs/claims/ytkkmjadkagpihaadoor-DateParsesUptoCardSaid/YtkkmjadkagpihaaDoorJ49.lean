/- Date: the document's Parse where a pattern is matched whole. -/
import Derived.Test.YtkkmjadkagpihaaDoorJ50
import Derived.Deep.DeepCutAuto
namespace Go.Proofs.YtkkmjadkagpihaaDoor
open Go Go.RowKit

theorem mo_below2 {V W wm : World} (h : W = V ∨ ∃ o, W = V.alloc o) (hb : Below W.heap.size W wm) : Below V.heap.size V wm := by
  rcases h with rfl | ⟨o, rfl⟩
  · exact hb
  · exact (bal (Below.refl _ V) o).trans (hb.mono (bal (Below.refl _ V) o).size)
theorem al_below {V W : World} (h : Below V.heap.size V W) (o : Obj) : Below V.heap.size V (W.alloc o) := bal h o
theorem st_below {V W : World} {q : Nat} (h : Below V.heap.size V W) (hq : V.heap.size ≤ q) (x y : Value) : Below V.heap.size V ((W.setCell ⟨q, 0, none⟩ x).setCell ⟨q, 1, none⟩ y) := Below.setCell (Below.setCell h (p := ⟨q, 0, none⟩) hq x) (p := ⟨q, 1, none⟩) hq y
theorem row_two {w : World} {q : Nat} {a b : Value} {T : TypeId} (h : w.heap[q]? = some (.cells #[a, b] T (0, 0))) (x y : Value) : ((w.setCell ⟨q, 0, none⟩ x).setCell ⟨q, 1, none⟩ y).heap[q]? = some (.cells #[x, y] T (0, 0)) := by
  have h1 : (w.setCell ⟨q, 0, none⟩ x).heap[q]? = some (.cells #[x, b] T (0, 0)) := by rw [heap_setCell_same w q 0 _ _ _ h]; rfl
  rw [heap_setCell_same _ q 1 _ _ _ h1]; rfl
set_option maxRecDepth 100000 in
set_option maxHeartbeats 2000000 in
theorem parse_walk (t : ByteArray) (w : World) (L : List ByteArray) (n0 p c a k e e4 e9 e12 e14 e15 ez x1 : Nat) (WK D MO Y H MI S Z : Int) (hT : Tabs w)
    (HL : Hid (∀ W, Tabs W → Calls Tryd.prog 43 #[.string t] W fun e w' => ∃ v, e = .returned v ∧ Ltr w' v L ∧ Below W.heap.size W w'))
    (HB : Hid (∀ W v v2, Ltr W v L → Ltr W v2 (parsePL.map toB) → Calls Tryd.prog 45 #[v, v2] W fun e w' => e = .returned (.tuple #[.int .i64 (n0 : Int), .int .i64 (p : Int)]) ∧ Below W.heap.size W w'))
    (HY : Hid (∀ W v, Ltr W v L → YK W v L c a k e e4 e9 e12 e15 ez WK D MO Y H MI S Z (x1 = 1)))
    (hn0 : n0 < 32) (hx1 : x1 < 2) (hk : k = 1 ∨ k = 2) (hc : c < 2) (ha : a = 5 * x1) (he : e = a + k + 1) (he4 : e4 = e + 4) (he9 : e9 = e + 9) (he12 : e12 = e9 + 3) (he14 : e14 = e9 + 5) (he15 : e15 = e14 + 1) (hez : ez = e14 + 3 * c + 1)
    (hP0 : nb (patS n0) 0 = if x1 = 1 then 87 else 57) (hP1 : nb (patS n0) (a + 1) = if k = 2 then 57 else 32) (hPl : 7 ≤ (patS n0).length)
    (hLl : e14 < L.length) (hLc : L[e14] = ⟨#[if c = 1 then 58 else 32]⟩)
    (hMO : 0 ≤ MO + 1) (hMO2 : MO ≤ 12) (hH0 : 0 ≤ H) (hH1 : H ≤ 99) (hM0 : 0 ≤ MI) (hM1 : MI ≤ 99) (hS0 : c = 1 → 0 ≤ S ∧ S ≤ 99) (hZ0 : -1439 ≤ Z) (hZ1 : Z ≤ 1439) (hWK : x1 = 1 → 0 ≤ WK ∧ WK < 7) (CL : Int) (hCL : CL = 3600 * H + 60 * MI + (if c = 1 then S else 0)) (hC0 : 0 ≤ CL) (hC1 : CL < 86400) :
    Calls Tryd.prog 19 #[.string t] w fun e w' => e = .returned (momV (if rt Y (MO + 1) D = true then (if x1 = 1 ∧ WK ≠ (num Y (MO + 1) D + 3) % 7 then (0, 0, 0, 2) else (num Y (MO + 1) D * 86400 + CL - 60 * Z, Z, 0, 0)) else (0, 0, 0, 2))) ∧ Below w.heap.size w w' := by
  obtain ⟨RR, hRR⟩ : ∃ RR, (if rt Y (MO + 1) D = true then (if x1 = 1 ∧ WK ≠ (num Y (MO + 1) D + 3) % 7 then ((0, 0, 0, 2) : Int × Int × Int × Int) else (num Y (MO + 1) D * 86400 + CL - 60 * Z, Z, 0, 0)) else (0, 0, 0, 2)) = RR := ⟨_, rfl⟩
  rw [hRR]
  have HRR := Lib.hid hRR
  have HCL := Lib.hid hCL
  have HCB := Lib.hid (And.intro hC0 hC1)
  clear hRR hCL hC0 hC1
  obtain ⟨W0, hW⟩ : ∃ W0, w.alloc (.cells #[.int .i64 0, .int .i64 0] 35) = W0 := ⟨_, rfl⟩
  have K0 := Lib.hid (TK.new w)
  rw [hW] at K0
  have hT0 := Lib.hid (hT.below K0.out.b (Nat.le_refl _))
  have HW := Lib.hid hW
  have HLC := Lib.hid hLc
  have HMO := Lib.hid (And.intro hMO hMO2)
  have HH := Lib.hid (And.intro hH0 hH1)
  have HM := Lib.hid (And.intro hM0 hM1)
  have HS := Lib.hid hS0
  have HZ := Lib.hid (And.intro hZ0 hZ1)
  have HWK := Lib.hid hWK
  have HP0 := Lib.hid hP0
  have HP1 := Lib.hid hP1
  have hn0i : ¬ (n0 : Int) < 0 := by omega
  clear hW hT hLc hMO hMO2 hH0 hH1 hM0 hM1 hS0 hZ0 hZ1 hWK hP0 hP1
  go_enter Tryd.func19, Tryd.ntmps19
  go_wp2_with fail
  rw [HW.out]
  refine (HL.out _ hT0.out).mono ?_
  rintro e w1 ⟨v, rfl, hv, hb1⟩
  have K1 := Lib.hid (K0.out.go hb1)
  have HV1 := Lib.hid hv
  clear K0 hv hb1
  go_wp2_with fail
  refine (patterns_any _).mono ?_
  rintro e w2 ⟨v2, rfl, hv2, hb2⟩
  have K2 := Lib.hid (K1.out.go hb2)
  have HV2 := Lib.hid (HV1.out.below hb2)
  have HP2 := Lib.hid (parsePL_row hv2)
  clear K1 HV1 hv2 hb2
  go_wp2_with fail
  refine (HB.out _ _ _ HV2.out HP2.out).mono ?_
  rintro e w3 ⟨rfl, hb3⟩
  have K3 := Lib.hid (K2.out.go hb3)
  have HY3 := Lib.hid (HY.out _ _ (HV2.out.below hb3))
  have HV3 := Lib.hid (HV2.out.below hb3)
  obtain ⟨g, cp, rfl, hcp, hg, hcell⟩ := (HV2.out.below hb3).at (by omega)
  obtain ⟨g2, cp2, rfl, hcp2, hg2, hcell2⟩ := (HP2.out.below hb3).at (by rw [List.length_map, parsePL_len]; omega)
  have hpl : (parsePL.map toB).length = 32 := by rw [List.length_map, parsePL_len]
  rw [hpl] at hcp2 ⊢
  have hpc : w3.cell? ⟨g2, n0, none⟩ = some (.string (toB (patS n0))) := by
    rw [hcell2 n0 (by omega), List.getElem_map, parsePL_get]
  have HLe := Lib.hid (hcell e14 hLl)
  obtain ⟨SS, hSS⟩ : ∃ SS, toB (patS n0) = SS := ⟨_, rfl⟩
  have hs0 : ∀ h : 0 < SS.size, (SS[0]'h).toNat = if x1 = 1 then 87 else 57 := by
    subst hSS; intro h; rw [toB_get, HP0.out]; split <;> rfl
  have hs1 : ∀ h : a + 1 < SS.size, (SS[a + 1]'h).toNat = if k = 2 then 57 else 32 := by
    subst hSS; intro h; rw [toB_get, HP1.out]; split <;> rfl
  have hsz : 7 ≤ SS.size := by rw [← hSS, toB_size]; exact hPl
  rw [hSS] at hpc
  clear K2 HV2 HP2 hb3 hcell hcell2 hSS HP0 HP1 HL HB HY hT0 HW hPl
  obtain ⟨q0, hq0⟩ : ∃ q0 : Nat, (if x1 = 1 then 87 else 57) = q0 := ⟨_, rfl⟩
  obtain ⟨q1, hq1⟩ : ∃ q1 : Nat, (if k = 2 then 57 else 32) = q1 := ⟨_, rfl⟩
  rw [hq0] at hs0
  rw [hq1] at hs1
  have hs00 : 0 < SS.size := by omega
  have hs0 := hs0 hs00
  have hs10 : a + 1 < SS.size := by omega
  have hs1 := hs1 hs10
  have HS1 := Lib.hid hs1
  have hs10i : ((a : Int) + 1) < (SS.size : Int) := by omega
  have HQ0 := Lib.hid hq0
  have HQ1 := Lib.hid hq1
  have HA := Lib.hid ha
  have HE := Lib.hid (And.intro he (And.intro he4 (And.intro he9 (And.intro he12 (And.intro he14 (And.intro he15 hez))))))
  have HK := Lib.hid hk
  have HX1 := Lib.hid hx1
  clear hs1 hq0 hq1 ha he he4 he9 he12 he14 he15 hez hk hx1
  go_upto_if 48 with fail
  obtain ⟨B0, hB0⟩ : ∃ B0, ((q0 : Int) == 87) = B0 := ⟨_, rfl⟩
  rw [hB0]
  have HB0 := Lib.hid hB0
  clear hB0
  go_cut [12, 13] from 49 (fun p12 p13 wx => p12 = .int .i64 (a : Int) ∧ p13 = .int .i64 (if x1 = 1 then WK else -1) ∧ Below w3.heap.size w3 wx)
  case first =>
    have hb0 := Below.refl w3.heap.size w3
    rcases (show x1 = 0 ∨ x1 = 1 by have := HX1.out; omega) with rfl | rfl
    · obtain rfl : B0 = false := by rw [← HB0.out]; have := HQ0.out; rw [if_neg (by decide)] at this; exact beq_eq_false_iff_ne.2 (by omega)
      go_wp2_with fail
      go_meet
      exact ⟨by rw [HA.out]; rfl, rfl, hb0⟩
    · obtain rfl : B0 = true := by rw [← HB0.out]; have := HQ0.out; rw [if_pos rfl] at this; exact beq_iff_eq.2 (by omega)
      go_wp2_with fail
      refine (refWeeks _).mono ?_
      rintro e w4 ⟨rfl, hb4, hN4⟩
      have hb40 := hb0.trans hb4
      go_wp2_with fail
      refine (HY3.out.weeks (by simp) _ _ hb40 hN4).mono ?_
      rintro e w5 ⟨rfl, hb5⟩
      go_wp2_with fail
      go_meet
      exact ⟨by rw [HA.out]; rfl, rfl, hb40.trans (hb5.mono hb40.size)⟩
  case rest =>
    obtain ⟨rfl, rfl, hbc⟩ := hcut
    have qa : IntKind.i64.wrap ((a : Int) + 1) = ((a + 1 : Nat) : Int) := by rw [IntWalk.i64_in _ (by have := HA.out; have := HX1.out; omega)]; omega
    have HB4 := Lib.hid hbc
    have hs1 := HS1.out
    obtain ⟨WKx, hWKx⟩ : ∃ WKx, (if x1 = 1 then WK else -1) = WKx := ⟨_, rfl⟩
    rw [hWKx]
    have HWKx := Lib.hid hWKx
    clear hbc hWKx HS1 hs0
    go_upto_if 56 with fail
    obtain ⟨B1, hB1⟩ : ∃ B1, ((q1 : Int) == 57) = B1 := ⟨_, rfl⟩
    rw [hB1]
    have HB1 := Lib.hid hB1
    clear hB1
    go_cut [14] from 57 (fun p14 wx => p14 = .int .i64 (k : Int) ∧ wx = wc)
    case first =>
      rcases HK.out with rfl | rfl
      · obtain rfl : B1 = false := by rw [← HB1.out]; have := HQ1.out; rw [if_neg (by decide)] at this; exact beq_eq_false_iff_ne.2 (by omega)
        go_wp2_with fail
        go_meet
        exact ⟨rfl, rfl⟩
      · obtain rfl : B1 = true := by rw [← HB1.out]; have := HQ1.out; rw [if_pos rfl] at this; exact beq_iff_eq.2 (by omega)
        go_wp2_with fail
        go_meet
        exact ⟨rfl, rfl⟩
    case rest =>
      obtain ⟨rfl, rfl⟩ := hcut
      obtain ⟨wA, rfl⟩ : ∃ wA, wA = wc := ⟨_, rfl⟩
      clear hs1 qa
      have h1E := HE.out
      have h1A := HA.out
      have h1X := HX1.out
      have h1K := HK.out
      obtain ⟨n1, hn1⟩ : ∃ n1, a + k = n1 := ⟨_, rfl⟩
      obtain ⟨e17, he17⟩ : ∃ e17, e14 + 3 = e17 := ⟨_, rfl⟩
      obtain ⟨M1, hM1⟩ : ∃ M1, MO + 1 = M1 := ⟨_, rfl⟩
      have hmo := HMO.out
      have hh := HH.out
      have hm := HM.out
      have qk1 : IntKind.i64.wrap ((a : Int) + (k : Int)) = (n1 : Int) := by rw [IntWalk.i64_in _ (by omega)]; omega
      have qk2 : IntKind.i64.wrap ((n1 : Int) + 1) = (e : Int) := by rw [IntWalk.i64_in _ (by omega)]; omega
      have qk3 : IntKind.i64.wrap ((e : Int) + 4) = (e4 : Int) := by rw [IntWalk.i64_in _ (by omega)]; omega
      have qk4 : IntKind.i64.wrap ((e : Int) + 9) = (e9 : Int) := by rw [IntWalk.i64_in _ (by omega)]; omega
      have qk5 : IntKind.i64.wrap ((e9 : Int) + 3) = (e12 : Int) := by rw [IntWalk.i64_in _ (by omega)]; omega
      have qk6 : IntKind.i64.wrap ((e9 : Int) + 5) = (e14 : Int) := by rw [IntWalk.i64_in _ (by omega)]; omega
      have qk7 : IntKind.i64.wrap ((e14 : Int) + 1) = (e15 : Int) := by rw [IntWalk.i64_in _ (by omega)]; omega
      have qk8 : IntKind.i64.wrap ((e14 : Int) + 3) = (e17 : Int) := by rw [IntWalk.i64_in _ (by omega)]; omega
      have qm1 : IntKind.i64.wrap (1 + MO) = M1 := by rw [IntWalk.i64_in _ (by omega)]; omega
      have qm2 : IntKind.i64.wrap (3600 * H) = 3600 * H := IntWalk.i64_in _ (by omega)
      have qm3 : IntKind.i64.wrap (60 * MI) = 60 * MI := IntWalk.i64_in _ (by omega)
      have qm4 : IntKind.i64.wrap (3600 * H + 60 * MI) = 3600 * H + 60 * MI := IntWalk.i64_in _ (by omega)
      have qLl : (e14 : Int) < (L.length : Int) := by omega
      have hcr := HCL.out
      rw [hM1] at HRR
      have H17 := Lib.hid he17
      have HM1 := Lib.hid hM1
      clear h1E h1A h1X h1K hn1 hmo hh hm he17 hM1 hcr
      go_wp2_with fail
      refine (HY3.out.day _ HB4.out).mono ?_
      rintro e wd ⟨rfl, rfl⟩
      obtain ⟨W1, hW1⟩ : ∃ W1, wA.alloc (.cells #[.int .i64 0, .int .i64 0, .int .i64 D] 23) = W1 := ⟨_, rfl⟩
      have hd1 : DayAt W1 wA.heap.size 0 0 D := by rw [← hW1]; exact heap_alloc_new wA _
      have hbW1 : Below w3.heap.size w3 W1 := by rw [← hW1]; exact bal HB4.out _
      have hbd : w3.heap.size ≤ wA.heap.size := HB4.out.size
      have HbW1 := Lib.hid hbW1
      have HD1 := Lib.hid hd1
      have HW1 := Lib.hid hW1
      clear hbW1 hd1 hW1
      go_wp2_with fail
      rw [HW1.out]
      refine (refMonths _).mono ?_
      rintro e w6 ⟨rfl, hb6, hN6⟩
      have hb60 := HbW1.out.trans (hb6.mono HbW1.out.size)
      have HN6 := Lib.hid hN6
      have Hb60 := Lib.hid hb60
      have HD6 := Lib.hid (HD1.out.below hb6)
      clear hb6 hN6 hb60 HD1 HbW1
      go_wp2_with fail
      refine (HY3.out.mon _ _ Hb60.out HN6.out).mono ?_
      rintro e w7 ⟨rfl, hb7⟩
      have hb70 := Hb60.out.trans (hb7.mono Hb60.out.size)
      have hd7 := HD6.out.below hb7
      obtain ⟨W2, hW2⟩ : ∃ W2, w7.setCell ⟨wA.heap.size, 1, none⟩ (.int .i64 M1) = W2 := ⟨_, rfl⟩
      have HD2 := Lib.hid (show DayAt W2 wA.heap.size 0 M1 D by rw [← hW2]; exact hd7.set1 M1)
      have HbW2 := Lib.hid (show Below w3.heap.size w3 W2 by rw [← hW2]; exact hb70.setCell hbd _)
      have HW2 := Lib.hid hW2
      have c1 := hd7.c1
      have f1 := hd7.f 1
      clear hW2 hb70 hb7 hd7 Hb60 HD6 HN6
      go_wp2_with fail
      rw [HW2.out]
      clear c1 f1
      refine (HY3.out.year _ HbW2.out).mono ?_
      rintro e w8 ⟨rfl, rfl⟩
      have c0 := HD2.out.c0
      have f0 := HD2.out.f 0
      obtain ⟨W3, hW3⟩ : ∃ W3, W2.setCell ⟨wA.heap.size, 0, none⟩ (.int .i64 Y) = W3 := ⟨_, rfl⟩
      have HD3 := Lib.hid (show DayAt W3 wA.heap.size Y M1 D by rw [← hW3]; exact HD2.out.set0 Y)
      have HbW3 := Lib.hid (show Below w3.heap.size w3 W3 by rw [← hW3]; exact HbW2.out.setCell hbd _)
      have HW3 := Lib.hid hW3
      clear hW3 HD2 HbW2
      go_wp2_with fail
      rw [HW3.out]
      clear c0 f0
      refine (HY3.out.hour _ HbW3.out).mono ?_
      rintro e w9 ⟨rfl, rfl⟩
      go_wp2_with fail
      refine (HY3.out.min _ HbW3.out).mono ?_
      rintro e w10 ⟨rfl, rfl⟩
      have hle : W3.cell? ⟨g, e14, none⟩ = some (.string ⟨#[if c = 1 then 58 else 32]⟩) := by
        rw [← HLC.out]; exact (HbW3.out.cell hg).trans HLe.out
      obtain ⟨TT, hTT⟩ : ∃ TT : ByteArray, (⟨#[if c = 1 then 58 else 32]⟩ : ByteArray) = TT := ⟨_, rfl⟩
      rw [hTT] at hle
      have HTT := Lib.hid hTT
      clear hTT
      go_upto_if 95 with fail
      obtain ⟨B2, hB2⟩ : ∃ B2, (TT.toList == [58]) = B2 := ⟨_, rfl⟩
      rw [hB2]
      have HB2 := Lib.hid hB2
      obtain ⟨ey, hey⟩ : ∃ ey, e14 + 3 * c = ey := ⟨_, rfl⟩
      have HEY := Lib.hid hey
      clear hB2 hey
      have hsec := HS.out
      have hcl := HCL.out
      have hle14 := HE.out
      have hah := HA.out
      have hxh := HX1.out
      have hkh := HK.out
      have qe1 : IntKind.i64.wrap ((ey : Int) + 1) = (ez : Int) := by have := HEY.out; rw [IntWalk.i64_in _ (by omega)]; omega
      have Qe1 := Lib.hid qe1
      have hhh := HH.out
      have hmm := HM.out
      have qs : c = 1 → IntKind.i64.wrap (3600 * H + 60 * MI + S) = 3600 * H + 60 * MI + S := fun h => by have := hsec h; exact IntWalk.i64_in _ (by omega)
      have QS := Lib.hid qs
      clear hsec hcl hle14 hah hxh hkh qe1 hhh hmm qs
      go_cut [12, 16] from 96 (fun p12 p16 wx => p12 = .int .i64 (ey : Int) ∧ p16 = .int .i64 CL ∧ wx = W3)
      case first =>
        rcases (show c = 0 ∨ c = 1 by omega) with rfl | rfl
        · obtain rfl : B2 = false := by rw [← HB2.out, ← HTT.out]; decide +kernel
          obtain rfl : e14 = ey := by have := HEY.out; omega
          go_wp2_with fail
          go_meet
          exact ⟨rfl, by rw [HCL.out]; simp, rfl⟩
        · obtain rfl : B2 = true := by rw [← HB2.out, ← HTT.out]; decide +kernel
          have qs := QS.out rfl
          go_wp2_with fail
          refine (HY3.out.sec (by simp) _ HbW3.out).mono ?_
          rintro e w11 ⟨rfl, rfl⟩
          go_wp2_with fail
          go_meet
          exact ⟨by have := HEY.out; have := H17.out; congr 1; omega, by rw [HCL.out]; simp, rfl⟩
      case rest =>
        obtain ⟨rfl, rfl, rfl⟩ := hcut
        obtain ⟨wB, rfl⟩ : ∃ wB, wB = wc := ⟨_, rfl⟩
        clear hle qLl qk1 qk2 qk3 qk4 qk5 qk6 qk7 qk8 qm1 qm2 qm3 qm4
        have qe1 := Qe1.out
        obtain ⟨SC, ZC, ER, HMo, hRes⟩ : ∃ SC ZC ER : Int, Hid (∀ W, Calls Tryd.prog 51 #[.agg #[.int .i64 Y, .int .i64 M1, .int .i64 D], .int .i64 CL, .int .i64 Z] W fun e w' => e = .returned (.tuple #[.agg #[.int .i64 SC, .int .i64 ZC], .int .i64 0, .int .i64 ER]) ∧ Below W.heap.size W w') ∧ Hid ((rt Y M1 D = true ∧ SC = num Y M1 D * 86400 + CL - 60 * Z ∧ ZC = Z ∧ ER = 0) ∨ (rt Y M1 D = false ∧ SC = 0 ∧ ZC = 0 ∧ ER = 2)) := by
          have hz := HZ.out
          have hb := HCB.out
          cases hr : rt Y M1 D with
          | true => exact ⟨_, _, _, Lib.hid (fun W => refMoment_yes Y M1 D CL Z W hr hb.1 hb.2 hz.1 hz.2), Lib.hid (Or.inl ⟨rfl, rfl, rfl, rfl⟩)⟩
          | false => exact ⟨_, _, _, Lib.hid (fun W => refMoment_no Y M1 D CL Z W hr hb.1 hb.2 hz.1 hz.2), Lib.hid (Or.inr ⟨rfl, rfl, rfl, rfl⟩)⟩
        go_upto_region 26 with fail
        go_cut [17, 18, 19] from 104 (fun p17 p18 p19 wx => ∃ q, p17 = .pointer (some ⟨q, 0, none⟩) ∧ p18 = .int .i64 0 ∧ p19 = .int .i64 ER ∧ w3.heap.size ≤ q ∧ wx.heap[q]? = some (.cells #[.int .i64 SC, .int .i64 ZC] 35 (0, 0)) ∧ Below w3.heap.size w3 wx ∧ DayAt wx wA.heap.size Y M1 D)
        case first =>
          have hdy : DayAt wB.drew wA.heap.size Y M1 D := HD3.out
          have hvv : Ltr wB.drew (.slice (some ⟨g, 0, none⟩) L.length cp) L := HV3.out.below (HbW3.out.drew)
          have HF0 := Lib.hid (Below.refl wB.drew.heap.size wB.drew)
          have HA0 : Hid (Below wB.drew.heap.size wB.drew (wB.alloc (.cells #[.int .i64 0, .int .i64 0] 35)).drew) := Lib.hid (show Below wB.drew.heap.size wB.drew (wB.drew.alloc (.cells #[.int .i64 0, .int .i64 0] 35)) from bal (Below.refl _ _) _)
          have HKS : Hid (∀ u : World, Below wB.drew.heap.size wB.drew u → Below wB.drew.heap.size wB.drew u ∧ u.cell? ⟨wA.heap.size, 0, none⟩ = some (.int .i64 Y) ∧ u.cell? ⟨wA.heap.size, 1, none⟩ = some (.int .i64 M1) ∧ u.cell? ⟨wA.heap.size, 2, none⟩ = some (.int .i64 D)) := Lib.hid (fun u hu => ⟨hu, (hdy.below hu).c0, (hdy.below hu).c1, (hdy.below hu).c2⟩)
          have HSL := Lib.hid (fun (u : World) (hu : Below wB.drew.heap.size wB.drew u) => hvv.below hu)
          have HDY := Lib.hid hdy
          have d0 := hdy.c0
          have d1 := hdy.c1
          have d2 := hdy.c2
          clear hdy hvv
          go_region_held3 (fun u => Below wB.drew.heap.size wB.drew u ∧ u.cell? ⟨wA.heap.size, 0, none⟩ = some (.int .i64 Y) ∧ u.cell? ⟨wA.heap.size, 1, none⟩ = some (.int .i64 M1) ∧ u.cell? ⟨wA.heap.size, 2, none⟩ = some (.int .i64 D))
            (first | exact HKS.out _ HF0.out | exact HKS.out _ HA0.out | exact HKS.out _ (by assumption) | exact HKS.out _ (bal HF0.out _) | exact HKS.out _ (al_below (by assumption) _) | exact HKS.out _ (st_below (by assumption) (by first | exact Nat.le_refl _ | assumption | (simp; done)) _ _))
            (first
              | (go_at_call 52; ((with_reducible refine (HY3.out.off _ (HSL.out _ (by first | exact HF0.out | exact HA0.out | assumption))).mono ?_); rintro e wn ⟨rfl, rfl⟩))
              | (go_at_call 51; ((with_reducible refine (HMo.out _).mono ?_); rintro e wm ⟨rfl, hbm⟩; have hbM : Below wB.drew.heap.size wB.drew wm := mo_below2 (by first | exact Or.inl rfl | exact Or.inr ⟨_, rfl⟩) hbm; first | (have hzr : wm.heap[wB.heap.size]? = some (.cells #[.int .i64 0, .int .i64 0] 35 (0, 0)) := (hbm.block wB.heap.size (show wB.heap.size < (wB.alloc (.cells #[.int .i64 0, .int .i64 0] 35)).heap.size by rw [World.size_alloc]; exact Nat.lt_succ_self _)).trans (heap_alloc_new wB (.cells #[.int .i64 0, .int .i64 0] 35)); have HZR := Lib.hid hzr; have z0 := cell_of_row _ _ 0 _ _ _ hzr; have z1 := cell_of_row _ _ 1 _ _ _ hzr; have y0 := frozen_of_row _ _ 0 _ _ hzr; have y1 := frozen_of_row _ _ 1 _ _ hzr; clear hzr hbm) | (clear hbm))))
          all_goals
            go_wp2_with fail
            go_meet
            first
              | exact ⟨wm.heap.size, rfl, rfl, rfl, Nat.le_trans HbW3.out.size hbM.size, heap_alloc_new wm _, HbW3.out.drew.trans ((al_below hbM _).mono HbW3.out.drew.size), HDY.out.below (al_below hbM _)⟩
              | exact ⟨wB.heap.size, rfl, rfl, rfl, HbW3.out.size, row_two HZR.out _ _, HbW3.out.drew.trans ((st_below hbM (Nat.le_refl _) _ _).mono HbW3.out.drew.size), HDY.out.below (st_below hbM (Nat.le_refl _) _ _)⟩
        case rest =>
          obtain ⟨q, rfl, rfl, rfl, hq, hrow, hbx, hday⟩ := hcut
          have hKx := K3.out.go hbx
          have HK9 := Lib.hid hKx
          have d0 := hday.c0
          have d1 := hday.c1
          have d2 := hday.c2
          have z0 := cell_of_row _ _ 0 _ _ _ hrow
          have z1 := cell_of_row _ _ 1 _ _ _ hrow
          have HROW := Lib.hid hrow
          have HBE := Lib.hid hKx.b
          have k0 := hKx.c0
          have k1 := hKx.c1
          have f0 := hKx.f0
          have f1 := hKx.f1
          clear hKx hrow hday hbx hq qe1
          rcases hRes.out with ⟨hr, hSC, hZC, rfl⟩ | ⟨hr, hSC, hZC, rfl⟩
          · have hin := num_in hr
            rcases (show x1 = 0 ∨ x1 = 1 by have := HX1.out; omega) with rfl | rfl
            · obtain rfl : WKx = -1 := by rw [← HWKx.out, if_neg (by decide)]
              have HRx : Hid (RR = (SC, ZC, 0, 0)) := Lib.hid (by rw [← HRR.out, if_pos hr, if_neg (by simp), hSC, hZC])
              clear hSC hZC hr hin
              go_wp2
              exact bodyPost_ret (v := .tuple #[.agg #[.int .i64 SC, .int .i64 ZC], .int .i64 0, .int .i64 0]) (by simp [results, Tryd.results19, go_sem, k0, k1]) rfl ⟨by rw [HRx.out]; rfl, (HBE.out.setCell (Nat.le_refl _) _).setCell (Nat.le_refl _) _⟩
            · obtain rfl : WKx = WK := by rw [← HWKx.out, if_pos rfl]
              have hwk := (HWK.out rfl).1
              have HDs := Lib.hid (fun W => refDays_yes Y M1 D W hr)
              unfold dayV at HDs
              obtain ⟨nn, hnn⟩ : ∃ nn, num Y M1 D = nn := ⟨_, rfl⟩
              have hrr := HRR.out
              rw [if_pos hr, ← hSC, hnn] at hrr
              rw [hnn] at HDs hin
              have HWd := Lib.hid (fun W => refWeek nn W (by omega) (by omega))
              obtain ⟨DW, hDW⟩ : ∃ DW, (nn + 3) % 7 = DW := ⟨_, rfl⟩
              rw [hDW] at HWd hrr
              have HR2 := Lib.hid hrr
              have HZC := Lib.hid hZC
              clear hnn hDW hrr hSC hZC hr hin
              go_wp2_with fail
              refine (HDs.out _).mono ?_
              rintro e w20 ⟨rfl, hb20⟩
              have hKy := HK9.out.go hb20
              have hry := (hb20.block q (Array.getElem?_eq_some_iff.1 HROW.out).1).trans HROW.out
              clear d0 d1 d2 z0 z1 k0 k1 f0 f1 HBE
              have z0 := cell_of_row _ _ 0 _ _ _ hry
              have z1 := cell_of_row _ _ 1 _ _ _ hry
              have HBE := Lib.hid hKy.b
              have k0 := hKy.c0
              have k1 := hKy.c1
              have f0 := hKy.f0
              have f1 := hKy.f1
              clear hKy hry hb20
              go_wp2_with fail
              refine (HWd.out _).mono ?_
              rintro e w21 ⟨rfl, rfl⟩
              by_cases hw : DW = WKx
              · have HRx : Hid (RR = (SC, ZC, 0, 0)) := Lib.hid (by rw [← HR2.out, if_neg (fun h => h.2 hw.symm), HZC.out])
                subst hw
                go_wp2
                exact bodyPost_ret (v := .tuple #[.agg #[.int .i64 SC, .int .i64 ZC], .int .i64 0, .int .i64 0]) (by simp [results, Tryd.results19, go_sem, k0, k1]) rfl ⟨by rw [HRx.out]; rfl, (HBE.out.setCell (Nat.le_refl _) _).setCell (Nat.le_refl _) _⟩
              · have HRx : Hid (RR = (0, 0, 0, 2)) := Lib.hid (by rw [← HR2.out, if_pos ⟨by first | trivial | rfl, fun h => hw h.symm⟩])
                go_wp2
                exact bodyPost_ret (v := .tuple #[.agg #[.int .i64 0, .int .i64 0], .int .i64 0, .int .i64 2]) (by simp [results, Tryd.results19, go_sem, k0, k1]) rfl ⟨by rw [HRx.out]; rfl, (HBE.out.setCell (Nat.le_refl _) _).setCell (Nat.le_refl _) _⟩
          · have HRx : Hid (RR = (SC, ZC, 0, 2)) := Lib.hid (by rw [← HRR.out, if_neg (by rw [hr]; decide), hSC, hZC])
            clear hSC hZC hr
            go_wp2
            all_goals exact bodyPost_ret (v := .tuple #[.agg #[.int .i64 SC, .int .i64 ZC], .int .i64 0, .int .i64 2]) (by simp [results, Tryd.results19, go_sem, k0, k1]) rfl ⟨by rw [HRx.out]; rfl, (HBE.out.setCell (Nat.le_refl _) _).setCell (Nat.le_refl _) _⟩
end Go.Proofs.YtkkmjadkagpihaaDoor
