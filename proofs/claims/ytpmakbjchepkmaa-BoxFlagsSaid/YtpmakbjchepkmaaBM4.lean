/- Box: BoxFlags, where Flag goes well. -/
import Derived.Test.YtpmakbjchepkmaaBM3
namespace Go.Proofs.Ytpmakbjchepkmaa
open Go Go.RowKit

set_option maxHeartbeats 8000000 in
set_option maxRecDepth 100000 in
theorem walk_flags_ok (name : ByteArray) (valid next : Int) (sv : Value) (ps : List LV) (u how : Int) (fl : UInt8) (w : World) (h : BoxIn w name valid next sv ps) (hM : Ml w) (hE : flagE valid next (ps.map (·.1)) u how fl = 0) :
    Calls Try.prog 7 #[boxV name valid next sv, turnV u how fl] w fun e w' => e = .returned (.bool true) ∧ Below w.heap.size w w' := by
  have hb0 : Below w.heap.size w ((w.alloc (.cells #[.string name, .int .i64 valid, .int .i64 next, sv] 24)).alloc (.cells #[.int .i64 u, .int .i64 how, .int .u8 (fl.toNat : Int)] 36)) := ((Below.refl _ w).alloc (Nat.le_refl _) _).alloc (by simp) _
  have hbx : BoxW ((w.alloc (.cells #[.string name, .int .i64 valid, .int .i64 next, sv] 24)).alloc (.cells #[.int .i64 u, .int .i64 how, .int .u8 (fl.toNat : Int)] 36)) w.heap.size name valid next sv :=
    (BoxW.new w name valid next sv 24).below ((Below.refl _ _).alloc (Nat.le_refl _) _) (by simp)
  have htn : TurnW ((w.alloc (.cells #[.string name, .int .i64 valid, .int .i64 next, sv] 24)).alloc (.cells #[.int .i64 u, .int .i64 how, .int .u8 (fl.toNat : Int)] 36)) (w.heap.size + 1) u how fl := by
    have a := fun j v (hj : (#[.int .i64 u, .int .i64 how, .int .u8 (fl.toNat : Int)] : Array Value)[j]? = some v) => (two_boxes w #[.string name, .int .i64 valid, .int .i64 next, sv] #[.int .i64 u, .int .i64 how, .int .u8 (fl.toNat : Int)] 24 36 j).2.trans hj
    exact ⟨a 0 _ rfl, a 1 _ rfl, a 2 _ rfl⟩
  obtain ⟨W0, hW0⟩ : ∃ W0, W0 = (w.alloc (.cells #[.string name, .int .i64 valid, .int .i64 next, sv] 24)).alloc (.cells #[.int .i64 u, .int .i64 how, .int .u8 (fl.toNat : Int)] 36) := ⟨_, rfl⟩
  rw [← hW0] at hb0 hbx htn
  have hl0 := h.lets.below hb0
  have hM0 := hM.below hb0
  obtain ⟨hck, hhow, hfl, hfi⟩ := flagE_ok hE
  obtain ⟨_, _, h32, _⟩ := chk_ok hck
  rw [List.length_map] at h32
  obtain ⟨sa, sc, rfl, _⟩ := h.lets.shape
  have hf := flag_good name valid next sa sc ps.length ps u how fl W0 hl0 rfl h32 hE
  unfold boxV turnV
  have HF := Lib.hid hf
  have HMM := Lib.hid hM0
  have HB := Lib.hid hb0
  have HW := Lib.hid hW0
  have HE := Lib.hid hE
  have HL0 := Lib.hid hl0
  have HBX := Lib.hid hbx
  have HTN := Lib.hid htn
  have HHOW := Lib.hid hhow
  have H32 := Lib.hid h32
  obtain ⟨c0, c1, c2, c3, _⟩ := id hbx
  obtain ⟨d0, d1, d2⟩ := id htn
  clear hf hb0 hW0 hl0 hM0 hM h hbx htn hE hck hhow hfl hfi h32
  go_enter Try.func7, Try.ntmps7
  go_wp2_with (rw [← HW.out])
  refine HF.out.mono ?_
  rintro e w1 ⟨a1, k1, l1, W1, rfl, hW1, hn1, hq1, hx1, hl1, hb1, hz1⟩
  have hE1 := fun how' (h' : 0 ≤ how' ∧ how' ≤ 2) => flag_more HE.out h'
  rw [← hq1] at hE1
  have HF2 := Lib.hid (flag_good name valid next a1 k1 ps.length l1 u how fl W1 hl1 hn1 H32.out (hE1 how HHOW.out))
  have HW1 := Lib.hid hW1
  have HN1 := Lib.hid hn1
  have HQ1 := Lib.hid hq1
  have HX1 := Lib.hid hx1
  have HL1 := Lib.hid hl1
  have HB1 := Lib.hid hb1
  have HE1 := Lib.hid hE1
  clear c0 c1 c2 c3 d0 d1 d2 HF hW1 hn1 hq1 hl1 hE1 hz1
  obtain ⟨d0, d1, d2⟩ := HTN.out.below hb1 HTN.out.lt
  obtain ⟨e0, e1, e2, e3, _⟩ := hx1
  clear hb1
  go_wp2_with (first | rw [← HW1.out])
  refine HF2.out.mono ?_
  rintro e w2 ⟨a2, k2, l2, W2, rfl, hW2, hn2, hq2, hx2, hl2, hb2, hz2⟩
  have HF3 := Lib.hid (flag_good name valid next a1 k1 ps.length l1 u 1 fl W2 (HL1.out.below hb2) HN1.out H32.out (HE1.out 1 (by decide)))
  have HW2 := Lib.hid hW2
  have HN2 := Lib.hid hn2
  have HQ2 := Lib.hid hq2
  have HX2 := Lib.hid hx2
  have HL2 := Lib.hid hl2
  have HB2 := Lib.hid (HB1.out.trans (hb2.mono HB1.out.size))
  have HB12 := Lib.hid hb2
  clear e0 e1 e2 e3 d0 d1 d2 HF2 hW2 hn2 hq2 hl2 hx2 hz2
  obtain ⟨d0, d1, d2⟩ := HTN.out.below HB2.out HTN.out.lt
  obtain ⟨e0, e1, e2, e3, _⟩ := HX1.out.below hb2 HX1.out.lt
  clear hb2
  go_wp2_with (first | rw [← HW2.out])
  refine HF3.out.mono ?_
  rintro e w3 ⟨a3, k3, l3, W3, rfl, hW3, hn3, hq3, hx3, hl3, hb3, hz3⟩
  have hE3 := flag_more (how' := 2) (HE1.out 1 (by decide)) (by decide)
  rw [← hq3] at hE3
  have HF4 := Lib.hid (flag_good name valid next a3 k3 ps.length l3 u 2 fl W3 hl3 hn3 H32.out hE3)
  have HW3 := Lib.hid hW3
  have HQ3 := Lib.hid hq3
  have HB3 := Lib.hid (HB2.out.trans (hb3.mono HB2.out.size))
  have HB13 := Lib.hid (HB12.out.trans (hb3.mono HB12.out.size))
  have HB23 := Lib.hid hb3
  clear e0 e1 e2 e3 d0 d1 d2 HF3 hW3 hn3 hq3 hl3 hE3 hz3
  obtain ⟨d0, d1, d2⟩ := HTN.out.below HB3.out HTN.out.lt
  obtain ⟨e0, e1, e2, e3, _⟩ := hx3
  clear hb3
  go_wp2_with (first | rw [← HW3.out])
  refine HF4.out.mono ?_
  rintro e w4 ⟨a4, k4, l4, W4, rfl, hW4, hn4, hq4, hx4, hl4, hb4, hz4⟩
  have HB14 := Lib.hid (HB13.out.trans (hb4.mono HB13.out.size))
  have HB24 := Lib.hid (HB23.out.trans (hb4.mono HB23.out.size))
  have HF5 := Lib.hid (flag_good name valid next a1 k1 ps.length l1 u 2 fl W4 (HL1.out.below HB14.out) HN1.out H32.out (HE1.out 2 (by decide)))
  have HW4 := Lib.hid hW4
  have HN4 := Lib.hid hn4
  have HQ4 := Lib.hid hq4
  have HX4 := Lib.hid hx4
  have HL4 := Lib.hid hl4
  have HB4 := Lib.hid (HB3.out.trans (hb4.mono HB3.out.size))
  clear e0 e1 e2 e3 d0 d1 d2 HF4 hW4 hn4 hq4 hl4 hx4 hb4 hz4
  obtain ⟨d0, d1, d2⟩ := HTN.out.below HB4.out HTN.out.lt
  obtain ⟨e0, e1, e2, e3, _⟩ := HX1.out.below HB14.out HX1.out.lt
  go_wp2_with (first | rw [← HW4.out])
  refine HF5.out.mono ?_
  rintro e w5 ⟨a5, k5, l5, W5, rfl, hW5, hn5, hq5, hx5, hl5, hb5, hz5⟩
  have HW5 := Lib.hid hW5
  have HB5 := Lib.hid (HB4.out.trans (hb5.mono HB4.out.size))
  have h15 := HB14.out.trans (hb5.mono HB14.out.size)
  have h25 := HB24.out.trans (hb5.mono HB24.out.size)
  have x1 := HX1.out.below h15 HX1.out.lt
  have x2 := HX2.out.below h25 HX2.out.lt
  have x4 := HX4.out.below hb5 HX4.out.lt
  have x0 := HBX.out.below HB5.out HBX.out.lt
  have xt := HTN.out.below HB5.out HTN.out.lt
  have y1 := HL1.out.below h15
  have y2 := HL2.out.below h25
  have y4 := HL4.out.below hb5
  have y0 := HL0.out.below HB5.out
  have q12 : l1.map (·.1) = l2.map (·.1) := by rw [HQ2.out, HQ1.out, flag_twice]
  have q45 : l4.map (·.1) = l5.map (·.1) := by rw [HQ4.out, HQ3.out, hq5, flag_more_less]
  have HS1 := Lib.hid (fun W (hb : Below W5.heap.size W5 W) => same_old name valid next (.slice a1 ps.length k1) (.slice a2 ps.length k2) l1 l2 hb (y1.below hb) (y2.below hb) q12 (by rw [HN1.out]; have := H32.out; omega))
  have HS2 := Lib.hid (fun W (hb : Below W5.heap.size W5 W) => same_old name valid next (.slice a4 ps.length k4) (.slice a5 ps.length k5) l4 l5 hb (y4.below hb) (hl5.below hb) q45 (by rw [HN4.out]; have := H32.out; omega))
  unfold boxV at HS1 HS2
  have HK := Lib.hid (fun wx (hb : Below W5.heap.size W5 wx) => (⟨hb, box_reads (t := 24) x1 wx hb, box_reads (t := 24) x2 wx hb, box_reads (t := 24) x4 wx hb, box_reads (t := 24) hx5 wx hb, (box_reads (t := 24) x0 wx hb).2.2.2⟩ :
    Below W5.heap.size W5 wx ∧ (wx.cell? ⟨w1.heap.size, 0, none⟩ = some (.string name) ∧ wx.cell? ⟨w1.heap.size, 1, none⟩ = some (.int .i64 valid) ∧ wx.cell? ⟨w1.heap.size, 2, none⟩ = some (.int .i64 next) ∧ wx.cell? ⟨w1.heap.size, 3, none⟩ = some (.slice a1 ps.length k1)) ∧
      (wx.cell? ⟨w2.heap.size, 0, none⟩ = some (.string name) ∧ wx.cell? ⟨w2.heap.size, 1, none⟩ = some (.int .i64 valid) ∧ wx.cell? ⟨w2.heap.size, 2, none⟩ = some (.int .i64 next) ∧ wx.cell? ⟨w2.heap.size, 3, none⟩ = some (.slice a2 ps.length k2)) ∧
      (wx.cell? ⟨w4.heap.size, 0, none⟩ = some (.string name) ∧ wx.cell? ⟨w4.heap.size, 1, none⟩ = some (.int .i64 valid) ∧ wx.cell? ⟨w4.heap.size, 2, none⟩ = some (.int .i64 next) ∧ wx.cell? ⟨w4.heap.size, 3, none⟩ = some (.slice a4 ps.length k4)) ∧
      (wx.cell? ⟨w5.heap.size, 0, none⟩ = some (.string name) ∧ wx.cell? ⟨w5.heap.size, 1, none⟩ = some (.int .i64 valid) ∧ wx.cell? ⟨w5.heap.size, 2, none⟩ = some (.int .i64 next) ∧ wx.cell? ⟨w5.heap.size, 3, none⟩ = some (.slice a5 ps.length k5)) ∧
      wx.cell? ⟨w.heap.size, 3, none⟩ = some (.slice sa ps.length sc)))
  have HX0 := Lib.hid x0
  have HXT := Lib.hid xt
  have HX15 := Lib.hid x1
  have HY0 := Lib.hid y0
  have HY1 := Lib.hid y1
  clear e0 e1 e2 e3 d0 d1 d2 HF5 hW5 hn5 hq5 hl5 hx5 hb5 hz5 h15 h25 x1 x2 x4 x0 xt y1 y2 y4 y0 q12 q45 HE1 HB1 HB2 HB3 HB4 HB12 HB13 HB14 HB23 HB24 HBX HTN HX1 HX2 HX4 HL0 HL1 HL2 HL4 HQ2 HQ3 HQ4 HN2 HN4 HE
  obtain ⟨_, ⟨m0, m1, m2, m3⟩, ⟨n0, n1, n2, n3⟩, _, _, z3⟩ := HK.out W5 (Below.refl _ _)
  go_wp2_with (first | rw [← HW5.out])
  refine (HS1.out _ (Below.refl _ _)).mono ?_
  rintro e w6 ⟨rfl, hb6⟩
  clear m0 m1 m2 m3 n0 n1 n2 n3 z3 HW1 HW2 HW3 HW4 HW5
  obtain ⟨_, ⟨m0, m1, m2, m3⟩, _, ⟨n0, n1, n2, n3⟩, ⟨r0, r1, r2, r3⟩, z3⟩ := HK.out w6 hb6
  go_wp2_with fail
  refine (HS2.out _ hb6).mono ?_
  rintro e w7 ⟨rfl, hb7⟩
  clear m0 m1 m2 m3 n0 n1 n2 n3 r0 r1 r2 r3 z3 hb6
  obtain ⟨_, ⟨m0, m1, m2, m3⟩, _, _, _, z3⟩ := HK.out w7 hb7
  have HB7 := Lib.hid hb7
  clear hb7 HS1 HS2
  go_wp2
  clear m0 m1 m2 m3 z3
  go_loopw [15] (fun i wr => ∃ k : Nat, k ≤ ps.length ∧ i = .int .i64 k ∧ Below W5.heap.size W5 wr) (fun i _ => ps.length - (intOf i).toNat)
  case atStart => exact ⟨0, Nat.zero_le _, rfl, HB7.out⟩
  case round =>
    obtain ⟨k, hk, rfl, hb⟩ := hrel
    obtain ⟨_, ⟨m0, m1, m2, m3⟩, _, _, _, z3⟩ := HK.out wr hb
    have HBR := Lib.hid hb
    by_cases hlt : k < ps.length
    · have hpk := List.getElem?_eq_getElem hlt
      generalize ps[k] = p at hpk
      have hlt2 : k < l1.length := by rw [HN1.out]; exact hlt
      have hqk := List.getElem?_eq_getElem hlt2
      generalize l1[k] = q at hqk
      have hne1 : ps ≠ [] := fun e => by subst e; simp at hlt
      have hne2 : l1 ≠ [] := fun e => by subst e; simp at hlt2
      obtain ⟨f, hf1, hf2⟩ := flag_at (ps.map (·.1)) u how fl k p.1 (by rw [List.getElem?_map, hpk]; rfl)
      have hqf : q.1 = { p.1 with flags := f } := by
        have : (l1.map (·.1))[k]? = some q.1 := by rw [List.getElem?_map, hqk]; rfl
        rw [HQ1.out, hf1] at this
        injection this with this
        exact this.symm
      obtain ⟨sa', sc', hsv, g1, o1, hg1, hc1⟩ := HY0.out.opened
      obtain ⟨ta', tc', htv, g2, o2, hg2, hc2⟩ := HY1.out.opened
      injection hsv with e1 _ e3
      injection htv with e4 e5 e6
      clear e5
      subst e1 e3 e4 e6
      obtain ⟨rfl, hgl1⟩ := hg1 hne1
      obtain ⟨rfl, hgl2⟩ := hg2 hne2
      obtain ⟨p0, p1, p2⟩ := hc1 k _ hpk
      obtain ⟨q0, q1, q2⟩ := hc2 k _ hqk
      obtain ⟨x, pv⟩ := p
      obtain ⟨y, qv⟩ := q
      simp only at hqf
      subst hqf
      have i0 := (hb.cell (p := ⟨g1, o1 + k * 3, none⟩) hgl1).trans p0
      have i1 := (hb.cell (p := ⟨g1, o1 + k * 3 + 1, none⟩) hgl1).trans p1
      have i2 := (hb.cell (p := ⟨g1, o1 + k * 3 + 2, none⟩) hgl1).trans p2
      have j0 := (hb.cell (p := ⟨g2, o2 + k * 3, none⟩) hgl2).trans q0
      have j1 := (hb.cell (p := ⟨g2, o2 + k * 3 + 1, none⟩) hgl2).trans q1
      have j2 := (hb.cell (p := ⟨g2, o2 + k * 3 + 2, none⟩) hgl2).trans q2
      have y1 := (HY0.out.bytes _ (List.mem_of_getElem? hpk)).below hb
      have y2 := (HY1.out.bytes _ (List.mem_of_getElem? hqk)).below hb
      simp only at i0 i1 i2 j0 j1 j2 y1 y2 hf2
      obtain ⟨⟨pa, pc, rfl⟩, _⟩ := id y1
      obtain ⟨⟨qa, qc, rfl⟩, _⟩ := id y2
      have hcv1 : ∀ n, (convert 30 9 (.slice pa x.bytes.length pc)).run Try.prog (wr.drewN n) = .ok (.string ⟨x.bytes.toArray⟩) (wr.drewN n) := fun n => run_byz_string _ _ _ 5 Try.underlying30 Try.underlying5 Try.underlying9 (y1.below ⟨rfl, rfl, rfl, Nat.le_refl _, fun _ _ => rfl⟩)
      have hcv2 : ∀ n, (convert 30 9 (.slice qa x.bytes.length qc)).run Try.prog (wr.drewN n) = .ok (.string ⟨x.bytes.toArray⟩) (wr.drewN n) := fun n => run_byz_string _ _ _ 5 Try.underlying30 Try.underlying5 Try.underlying9 (y2.below ⟨rfl, rfl, rfl, Nat.le_refl _, fun _ _ => rfl⟩)
      have hcw1 : (convert 30 9 (.slice pa x.bytes.length pc)).run Try.prog wr = .ok (.string ⟨x.bytes.toArray⟩) wr := run_byz_string _ _ _ 5 Try.underlying30 Try.underlying5 Try.underlying9 y1
      have hcw2 : (convert 30 9 (.slice qa x.bytes.length qc)).run Try.prog wr = .ok (.string ⟨x.bytes.toArray⟩) wr := run_byz_string _ _ _ 5 Try.underlying30 Try.underlying5 Try.underlying9 y2
      have hk1 : (k : Int) < (ps.length : Int) := by omega
      obtain ⟨d0, _, _⟩ := HXT.out.below hb HXT.out.lt
      have HF2 := Lib.hid hf2
      clear p0 p1 p2 q0 q1 q2 y1 y2 hpk hqk hne1 hne2 hb hf1 hf2 hlt2 hg1 hg2 hc1 hc2 m0 m1 m2
      by_cases hu : x.uid = u
      · have hu' : (x.uid != u) = false := by simpa using hu
        clear hu HF2
        go_wp2_with fail
        go_quiet (fail)
        have HBW2 := Lib.hid (HBR.out.trans (show Below _ wr (wr.drewN nq) from ⟨rfl, rfl, rfl, Nat.le_refl _, fun _ _ => rfl⟩))
        clear hcv1 hcv2 hcw1 hcw2 i0 i1 i2 j0 j1 j2 d0 m3 z3
        generalize wr.drewN nq = W8 at *
        have hlen : ps.length ≤ 9223372036854775807 := by have := H32.out; omega
        go_wp2
        go_roundw
        case rel => exact ⟨k + 1, by omega, by go_num, HBW2.out⟩
        case measure => simp [intOf]; omega
      · have hu' : (x.uid != u) = true := by simpa using hu
        obtain rfl := HF2.out hu
        clear hu HF2
        go_wp2_with fail
        go_quiet (fail)
        have HBW2 := Lib.hid (HBR.out.trans (show Below _ wr (wr.drewN nq) from ⟨rfl, rfl, rfl, Nat.le_refl _, fun _ _ => rfl⟩))
        clear hcv1 hcv2 hcw1 hcw2 i0 i1 i2 j0 j1 j2 d0 m3 z3
        generalize wr.drewN nq = W8 at *
        have hlen : ps.length ≤ 9223372036854775807 := by have := H32.out; omega
        go_wp2
        go_roundw
        case rel => exact ⟨k + 1, by omega, by go_num, HBW2.out⟩
        case measure => simp [intOf]; omega
    · have HLV := Lib.hid (fun W (hb : Below W5.heap.size W5 W) => bring (W0 := W5) hb (live_any W ((HMM.out.below HB5.out).below hb)))
      go_wp2_with fail
      refine (HLV.out _ hb).mono ?_
      rintro e w8 ⟨rfl, hb8⟩
      go_wp2
      go_ret
      exact ⟨rfl, HB.out.trans ((HB5.out.trans (hb8.mono HB5.out.size)).mono HB.out.size)⟩
theorem walk_flags (name : ByteArray) (valid next : Int) (sv : Value) (ps : List LV) (u how : Int) (fl : UInt8) (w : World) (h : BoxIn w name valid next sv ps) (hM : Ml w) :
    Calls Try.prog 7 #[boxV name valid next sv, turnV u how fl] w fun e w' => e = .returned (.bool true) ∧ Below w.heap.size w w' := by
  by_cases hE : flagE valid next (ps.map (·.1)) u how fl = 0
  · exact walk_flags_ok name valid next sv ps u how fl w h hM hE
  · exact walk_flags_bad name valid next sv ps u how fl w h hM hE
end Go.Proofs.Ytpmakbjchepkmaa
