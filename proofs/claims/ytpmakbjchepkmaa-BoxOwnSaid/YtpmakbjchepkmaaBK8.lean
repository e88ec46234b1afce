/- Box: Cut, walked. -/
import Derived.Test.YtpmakbjchepkmaaBK7
namespace Go.Proofs.Ytpmakbjchepkmaa
open Go Go.RowKit

set_option maxHeartbeats 8000000 in
set_option maxRecDepth 100000 in
theorem cut_any (name : ByteArray) (valid next : Int) (sv : Value) (ps : List LV) (u : Int) (w : World) (h : Lets w sv ps) (hlen : ps.length ≤ 9223372036854775807) :
    Calls Try.prog 20 #[boxV name valid next sv, .int .i64 u] w (CutR w name valid next ps u) := by
  have hb0 : Below w.heap.size w ((w.alloc (.cells #[.string name, .int .i64 valid, .int .i64 next, sv] 24)).alloc (.cells #[.string ⟨#[]⟩, .int .i64 0, .int .i64 0, .slice none 0 0] 24)) := ((Below.refl _ w).alloc (Nat.le_refl _) _).alloc (by simp) _
  have h0 := h.below hb0
  have hBx : BoxW ((w.alloc (.cells #[.string name, .int .i64 valid, .int .i64 next, sv] 24)).alloc (.cells #[.string ⟨#[]⟩, .int .i64 0, .int .i64 0, .slice none 0 0] 24)) w.heap.size name valid next sv :=
    (BoxW.new w name valid next sv 24).below ((Below.refl _ _).alloc (Nat.le_refl _) _) (by simp)
  have hBr : BoxW ((w.alloc (.cells #[.string name, .int .i64 valid, .int .i64 next, sv] 24)).alloc (.cells #[.string ⟨#[]⟩, .int .i64 0, .int .i64 0, .slice none 0 0] 24)) (w.heap.size + 1) ⟨#[]⟩ 0 0 (.slice none 0 0) := by
    have := BoxW.new (w.alloc (.cells #[.string name, .int .i64 valid, .int .i64 next, sv] 24)) ⟨#[]⟩ 0 0 (.slice none 0 0) 24
    simpa using this
  have hsz0 : ((w.alloc (.cells #[.string name, .int .i64 valid, .int .i64 next, sv] 24)).alloc (.cells #[.string ⟨#[]⟩, .int .i64 0, .int .i64 0, .slice none 0 0] 24)).heap.size = w.heap.size + 2 := by simp
  have hck := check_any name valid next sv ps _ h0 hlen
  obtain ⟨sa, sc, rfl, _⟩ := h.shape
  generalize hX : cutE valid next (ps.map (·.1)) u = X
  have HX := Lib.hid hX
  unfold cutE at hX
  have HCKZ := Lib.hid (fun h : chk valid next (ps.map (·.1)) = 0 => chk_ok h)
  unfold boxV at hck ⊢
  generalize chk valid next (ps.map (·.1)) = ck at *
  have HCK := Lib.hid hck
  have HBX := Lib.hid hBx
  have HBR := Lib.hid hBr
  have HB0 := Lib.hid hb0
  have HSZ := Lib.hid hsz0
  have HL0 := Lib.hid h0
  have HXX := Lib.hid hX
  clear hck hBx hBr hb0 hsz0 h0 h hX
  go_enter Try.func20, Try.ntmps20
  go_wp2_with fail
  refine HCK.out.mono ?_
  rintro e w1 ⟨rfl, hb1⟩
  have hB1 := HBX.out.below hb1 (by rw [HSZ.out]; omega)
  have hR1 := HBR.out.below hb1 (by rw [HSZ.out]; omega)
  have hbb := HB0.out.trans (hb1.mono HB0.out.size)
  have hz1 : w.heap.size + 2 ≤ w1.heap.size := by have := hb1.size; rw [HSZ.out] at this; exact this
  have HL1 := Lib.hid (HL0.out.below hb1)
  have HB1 := Lib.hid hB1
  have HR1 := Lib.hid hR1
  have HBB := Lib.hid hbb
  obtain ⟨W4, hW4, hb4, hf4⟩ := hR1.put4 ⟨#[]⟩ 0 0 (.slice none 0 0)
  have hbb4 : Below w.heap.size w W4 := hbb.trans (hf4.below hbb.size (fun k e => by subst e; omega))
  obtain ⟨k0, k1, k2, k3, _⟩ := hb4
  have HBB4 := Lib.hid hbb4
  have HW4 := Lib.hid hW4
  obtain ⟨c0, c1, c2, c3, f0, f1, f2, f3⟩ := hB1
  obtain ⟨d0, d1, d2, d3, g0, g1, g2, g3⟩ := hR1
  have hX := HXX.out
  clear hb1 hbb hbb4 hf4 hW4 HB0 HBX HBR HCK HSZ HL0
  by_cases hc : ck = 0
  · subst hc
    rw [if_neg (by simp)] at hX
    obtain ⟨hv1, hn1, hl32, hright⟩ := HCKZ.out rfl
    rw [List.length_map] at hl32
    have hby : ∀ q ∈ ps, q.1.bytes.length ≤ 1000000 := fun q hq => by have := hright.bytes q.1 (List.mem_map.2 ⟨q, hq, rfl⟩); omega
    have hI : ∀ b W, W.cell? ⟨b, 0, none⟩ = some (.int .i64 u) → Below w1.heap.size w1 W → Calls Try.prog 31 #[.slice sa ps.length sc, .func (.func 42) #[] #[.pointer (some ⟨b, 0, none⟩)]] W fun e w' => e = .returned (.bool (decide (findU (ps.map (·.1)) u ≠ ps.length))) ∧ Below w1.heap.size w1 w' := fun b W hc hW =>
      (containsL_any _ ps u b W (HL1.out.below hW) hc (by omega)).mono fun e w' ⟨h1, h2⟩ => ⟨h1, hW.trans (h2.mono hW.size)⟩
    have hN : ∀ W, Below w1.heap.size w1 W → Calls Try.prog 29 #[.int .i64 u] W (NumR w1 u) := fun W hW =>
      (numbered_any u W).mono fun e w' ⟨b, h1, h2, h3⟩ => ⟨b, h1, h2, hW.trans (h3.mono hW.size)⟩
    have hcl := fun W (hW : Below w1.heap.size w1 W) => clone_any name valid next (.slice sa ps.length sc) ps W (HL1.out.below hW) (by omega) hby
    unfold boxV at hcl
    have hfl0 : findU (ps.map (·.1)) u ≤ (ps.map (·.1)).length := List.findIdx_le_length
    rw [List.length_map] at hX hfl0
    have hlt0 : w.heap.size < w1.heap.size := by omega
    have hlt1 : w.heap.size + 1 < w1.heap.size := by omega
    clear HXX hv1 hn1 hright hby HL1 HCKZ d0 d1 d2 d3 g0 g1 g2 g3 k0 k1 k2 k3 HW4 HBB4
    generalize findU (ps.map (·.1)) u = fi at *
    by_cases hg : fi = ps.length
    · rw [if_pos hg] at hX
      subst hX
      have hdf : decide (fi ≠ ps.length) = false := by simp [hg]
      rw [hdf] at hI
      have HI := Lib.hid hI
      have HN := Lib.hid hN
      clear hI hN hcl hdf hg hfl0
      go_wp2_with fail
      go_region_with (first
        | (go_at_call 31; (with_reducible refine (HI.out _ _ (by assumption) (by assumption)).mono ?_); rintro e wm ⟨rfl, hbm⟩)
        | (go_at_call 29; (with_reducible refine (HN.out _ ((Below.refl _ _).drew)).mono ?_); rintro e wn ⟨b, rfl, hcb, hbn⟩; have n3 := (hbn.cell (p := ⟨w.heap.size, 3, none⟩) hlt0).trans c3))
      all_goals
        have hR2 := HR1.out.below hbm hlt1
        obtain ⟨W5, hW5, hb5, hf5⟩ := hR2.put4 ⟨#[]⟩ 0 0 (.slice none 0 0)
        have hbbm := HBB.out.trans (hbm.mono HBB.out.size)
        have HB5 := Lib.hid (hbbm.trans (hf5.below hbbm.size (fun k e => by subst e; omega)))
        obtain ⟨k0, k1, k2, k3, _⟩ := hb5
        have HW5 := Lib.hid hW5
        obtain ⟨d0, d1, d2, d3, g0, g1, g2, g3⟩ := hR2
        clear hf5 hW5 hbbm
        go_wp2
        rw [← HW5.out]
        exact bodyPost_ret (v := .tuple #[boxV0, .int .i64 9]) (by simp [results, Try.results20, go_sem, k0, k1, k2, k3, boxV0, boxV]) rfl (CutR.bad HX.out (by decide) HB5.out)
    · rw [if_neg hg] at hX
      subst hX
      have hdf : decide (fi ≠ ps.length) = true := by simp [hg]
      rw [hdf] at hI
      have HI := Lib.hid hI
      have HN := Lib.hid hN
      have HCL := Lib.hid hcl
      have HFL := Lib.hid (show fi < ps.length by omega)
      have HL32 := Lib.hid hl32
      clear hI hN hcl hdf hg hfl0
      go_wp2_with fail
      go_region_with (first
        | (go_at_call 31; (with_reducible refine (HI.out _ _ (by assumption) (by assumption)).mono ?_); rintro e wm ⟨rfl, hbm⟩)
        | (go_at_call 29; (with_reducible refine (HN.out _ ((Below.refl _ _).drew)).mono ?_); rintro e wn ⟨b, rfl, hcb, hbn⟩; have n3 := (hbn.cell (p := ⟨w.heap.size, 3, none⟩) hlt0).trans c3))
      all_goals
        have hbbm := HBB.out.trans (hbm.mono HBB.out.size)
        have hB2 := HB1.out.below hbm hlt0
        have hR2 := HR1.out.below hbm hlt1
        have hzm := hbm.size
        have HC1 := Lib.hid (HCL.out _ hbm)
        have HB2 := Lib.hid hB2
        have HR2 := Lib.hid hR2
        have HBBM := Lib.hid hbbm
        obtain ⟨d0, d1, d2, d3, g0, g1, g2, g3⟩ := hB2
        clear hbm hbbm hR2 n3 hbn hcb HI HN HCL HB1 HR1 HBB c0 c1 c2 c3 f0 f1 f2 f3
        go_wp2_with fail
        refine HC1.out.mono ?_
        rintro e w2 ⟨a, c, qs, rfl, hown, hqs, hfr, hb2⟩
        have hB3 := HB2.out.below hb2 (by omega)
        have hR3 := HR2.out.below hb2 (by omega)
        obtain ⟨gl, W3, rfl, hW3, hb3, hlt3, hEND⟩ := cut_mid (u := u) (by omega) HBBM.out hB3 hR3 hown hqs hfr hb2 HFL.out HL32.out HX.out
        have HEND := Lib.hid hEND
        have HW3 := Lib.hid hW3
        have hN3 : ∀ W, Below W3.heap.size W3 W → Calls Try.prog 29 #[.int .i64 u] W (NumN W3 u) := fun W hW =>
          (numbered_new u W).mono fun e w' ⟨b, h1, h2, h3, h4⟩ => ⟨b, h1, h2, Nat.le_trans hW.size h3, hW.trans (h4.mono hW.size)⟩
        have HN3 := Lib.hid hN3
        have HB3 := Lib.hid hb3
        obtain ⟨p0, p1, p2, p3, q0, q1, q2, q3⟩ := hb3
        have hlt4 : w.heap.size < W3.heap.size := by omega
        clear hEND hW3 hN3 hb2 hfr hqs hown hR3 HC1 HB2 HR2 HBBM d0 d1 d2 d3 g0 g1 g2 g3 HFL HL32 HX
        obtain ⟨d0, d1, d2, d3, g0, g1, g2, g3⟩ := hB3
        go_wp2_with (rw [← HW3.out])
        clear d0 d1 d2 d3 g0 g1 g2 g3
        go_region_with (first
          | (go_at_call 32; (with_reducible refine (HEND.out _ _ (by assumption) (by assumption) (by assumption)).mono ?_); rintro e w4 ⟨m, W4, W5, rfl, ⟨o0, o1, o2, o3, y0, y1, y2, y3⟩, hr4, hW4, hb4, hr5, hW5, hb5, hd⟩)
          | (go_at_call 29; (with_reducible refine (HN3.out _ ((Below.refl _ _).drew)).mono ?_); rintro e wn ⟨b, rfl, hcb, hbs, hbn⟩; obtain ⟨n0, n1, n2, n3, m0, m1, m2, m3⟩ := HB3.out.below hbn hlt4))
        all_goals
          obtain ⟨r0, r1, r2, r3, s0, s1, s2, s3⟩ := hb4
          obtain ⟨t0, t1, t2, t3, v0, v1, v2, v3⟩ := hr5
          obtain ⟨k0, k1, k2, k3, _⟩ := hb5
          have HD := Lib.hid hd
          have HW5 := Lib.hid hW5
          rw [← hW4]
          clear hd hW4 hW5 hr4 o0 o1 o2 o3 y0 y1 y2 y3 HEND HN3 HB3 p0 p1 p2 p3 q0 q1 q2 q3 n0 n1 n2 n3 m0 m1 m2 m3
          go_wp2
          rw [← HW5.out]
          exact bodyPost_ret (v := .tuple #[.agg #[.string name, .int .i64 valid, .int .i64 next, .slice (some ⟨gl, 0, none⟩) m c], .int .i64 0]) (by simp [results, Try.results20, go_sem, k0, k1, k2, k3]) rfl HD.out
  · have hc' : (ck != 0) = true := by simpa using hc
    rw [if_pos hc] at hX
    subst hX
    clear HXX HL1 HB1 HR1 HCKZ
    go_wp2
    rw [← HW4.out]
    exact bodyPost_ret (v := .tuple #[boxV0, .int .i64 ck]) (by simp [results, Try.results20, go_sem, k0, k1, k2, k3, boxV0, boxV]) rfl (CutR.bad HX.out hc HBB4.out)
end Go.Proofs.Ytpmakbjchepkmaa
