/- Box: Flag, walked. -/
import Derived.Test.YtpmakbjchepkmaaBK2
namespace Go.Proofs.Ytpmakbjchepkmaa
open Go Go.RowKit

set_option maxHeartbeats 2000000 in
set_option maxRecDepth 100000 in
theorem flag_any (name : ByteArray) (valid next : Int) (sv : Value) (ps : List LV) (u how : Int) (flags : UInt8) (w : World) (h : Lets w sv ps) (hlen : ps.length ≤ 9223372036854775807) :
    Calls Try.prog 18 #[boxV name valid next sv, .int .i64 u, .int .i64 how, .int .u8 (flags.toNat : Int)] w (FlagR w name valid next ps u how flags) := by
  have hb0 : Below w.heap.size w ((w.alloc (.cells #[.string name, .int .i64 valid, .int .i64 next, sv] 24)).alloc (.cells #[.string ⟨#[]⟩, .int .i64 0, .int .i64 0, .slice none 0 0] 24)) := ((Below.refl _ w).alloc (Nat.le_refl _) _).alloc (by simp) _
  have h0 := h.below hb0
  have hBx : BoxW ((w.alloc (.cells #[.string name, .int .i64 valid, .int .i64 next, sv] 24)).alloc (.cells #[.string ⟨#[]⟩, .int .i64 0, .int .i64 0, .slice none 0 0] 24)) w.heap.size name valid next sv :=
    (BoxW.new w name valid next sv 24).below ((Below.refl _ _).alloc (Nat.le_refl _) _) (by simp)
  have hBr : BoxW ((w.alloc (.cells #[.string name, .int .i64 valid, .int .i64 next, sv] 24)).alloc (.cells #[.string ⟨#[]⟩, .int .i64 0, .int .i64 0, .slice none 0 0] 24)) (w.heap.size + 1) ⟨#[]⟩ 0 0 (.slice none 0 0) := by
    have := BoxW.new (w.alloc (.cells #[.string name, .int .i64 valid, .int .i64 next, sv] 24)) ⟨#[]⟩ 0 0 (.slice none 0 0) 24
    simpa using this
  have hsz0 : ((w.alloc (.cells #[.string name, .int .i64 valid, .int .i64 next, sv] 24)).alloc (.cells #[.string ⟨#[]⟩, .int .i64 0, .int .i64 0, .slice none 0 0] 24)).heap.size = w.heap.size + 2 := by simp
  have hck := check_any name valid next sv ps _ h0 hlen
  obtain ⟨sa, sc, rfl, _⟩ := h.shape
  have hu := flags.toNat_lt
  generalize hX : flagE valid next (ps.map (·.1)) u how flags = X
  have HX := Lib.hid hX
  unfold flagE at hX
  have HCKZ := Lib.hid (fun h : chk valid next (ps.map (·.1)) = 0 => chk_ok h)
  unfold boxV at hck ⊢
  generalize chk valid next (ps.map (·.1)) = ck at *
  have HCK := Lib.hid hck
  have HBX := Lib.hid hBx
  have HBR := Lib.hid hBr
  have HB0 := Lib.hid hb0
  have HSZ := Lib.hid hsz0
  have HL0 := Lib.hid h0
  have HXX := Lib.hid hX
  clear hck hBx hBr hb0 hsz0 h0 h hX
  go_enter Try.func18, Try.ntmps18
  go_wp2_with fail
  refine HCK.out.mono ?_
  rintro e w1 ⟨rfl, hb1⟩
  have hB1 := HBX.out.below hb1 (by rw [HSZ.out]; omega)
  have hR1 := HBR.out.below hb1 (by rw [HSZ.out]; omega)
  have hbb := HB0.out.trans (hb1.mono HB0.out.size)
  have hz1 : w.heap.size + 2 ≤ w1.heap.size := by have := hb1.size; rw [HSZ.out] at this; exact this
  have HL1 := Lib.hid (HL0.out.below hb1)
  have HB1 := Lib.hid hB1
  have HR1 := Lib.hid hR1
  have HBB := Lib.hid hbb
  obtain ⟨W4, hW4, hb4, hf4⟩ := hR1.put4 ⟨#[]⟩ 0 0 (.slice none 0 0)
  have hbb4 : Below w.heap.size w W4 := hbb.trans (hf4.below hbb.size (fun k e => by subst e; omega))
  obtain ⟨k0, k1, k2, k3, _⟩ := hb4
  have HBB4 := Lib.hid hbb4
  have HW4 := Lib.hid hW4
  obtain ⟨c0, c1, c2, c3, f0, f1, f2, f3⟩ := hB1
  obtain ⟨d0, d1, d2, d3, g0, g1, g2, g3⟩ := hR1
  have hX := HXX.out
  clear hb1 hbb hbb4 hf4 hW4 HB0 HBX HBR HCK HSZ HL0
  by_cases hc : ck = 0
  · subst hc
    rw [if_neg (by simp)] at hX
    by_cases hbad : how < 0 ∨ 2 < how ∨ 32 ≤ flags.toNat
    · rw [if_pos hbad] at hX
      subst hX
      have hcase : how < 0 ∨ (¬ how < 0 ∧ 2 < how) ∨ (¬ how < 0 ∧ ¬ 2 < how ∧ 32 ≤ flags.toNat) := by omega
      clear HXX hbad HL1 HB1 HR1 HCKZ
      rcases hcase with h1 | ⟨h1, h2⟩ | ⟨h1, h2, h3⟩
      all_goals
        go_wp2
        rw [← HW4.out]
        exact bodyPost_ret (v := .tuple #[boxV0, .int .i64 2]) (by simp [results, Try.results18, go_sem, k0, k1, k2, k3, boxV0, boxV]) rfl (FlagR.bad HX.out (by decide) HBB4.out)
    rw [if_neg hbad] at hX
    obtain ⟨hv1, hn1, hl32, hright⟩ := HCKZ.out rfl
    rw [List.length_map] at hl32
    have hby : ∀ q ∈ ps, q.1.bytes.length ≤ 1000000 := fun q hq => by have := hright.bytes q.1 (List.mem_map.2 ⟨q, hq, rfl⟩); omega
    have h1 : ¬ how < 0 := by omega
    have h2 : ¬ 2 < how := by omega
    have h3 : ¬ 32 ≤ flags.toNat := by omega
    have hI : ∀ b W, W.cell? ⟨b, 0, none⟩ = some (.int .i64 u) → Below w1.heap.size w1 W → Calls Try.prog 28 #[.slice sa ps.length sc, .func (.func 42) #[] #[.pointer (some ⟨b, 0, none⟩)]] W fun e w' => e = .returned (.int .i64 (if findU (ps.map (·.1)) u = (ps.map (·.1)).length then -1 else ((findU (ps.map (·.1)) u : Nat) : Int))) ∧ Below w1.heap.size w1 w' := fun b W hc hW =>
      (idxL_any _ ps u b W (HL1.out.below hW) hc (by omega)).mono fun e w' ⟨h1, h2⟩ => ⟨by rw [h1, idxFrom_eq]; simp only [Nat.zero_add]; rfl, hW.trans (h2.mono hW.size)⟩
    have hN : ∀ W, Below w1.heap.size w1 W → Calls Try.prog 29 #[.int .i64 u] W (NumR w1 u) := fun W hW =>
      (numbered_any u W).mono fun e w' ⟨b, h1, h2, h3⟩ => ⟨b, h1, h2, hW.trans (h3.mono hW.size)⟩
    have hcl := fun W (hW : Below w1.heap.size w1 W) => clone_any name valid next (.slice sa ps.length sc) ps W (HL1.out.below hW) (by omega) hby
    unfold boxV at hcl
    have HI := Lib.hid hI
    have HN := Lib.hid hN
    have HCL := Lib.hid hcl
    have HFI := Lib.hid (show findU (ps.map (·.1)) u ≤ (ps.map (·.1)).length from List.findIdx_le_length)
    have hlt0 : w.heap.size < w1.heap.size := by omega
    have hlt1 : w.heap.size + 1 < w1.heap.size := by omega
    clear hI hN hcl hbad HXX hv1 hn1 hright hby HL1 HCKZ d0 d1 d2 d3 g0 g1 g2 g3 k0 k1 k2 k3 HW4 HBB4
    have hln : (ps.map (·.1)).length = ps.length := List.length_map ..
    generalize hFI : findU (ps.map (·.1)) u = fi at *
    have HFU := Lib.hid hFI
    rw [hln] at hX HI HFI
    have HLN := Lib.hid hln
    clear hFI hln
    by_cases hg : fi = ps.length
    · rw [if_pos hg] at hX HI
      subst hX
      clear HFI HCL
      go_wp2_with fail
      go_region_with (first
        | (go_at_call 28; (with_reducible refine (HI.out _ _ (by assumption) (by assumption)).mono ?_); rintro e wm ⟨rfl, hbm⟩)
        | (go_at_call 29; (with_reducible refine (HN.out _ ((Below.refl _ _).drew)).mono ?_); rintro e wn ⟨b, rfl, hcb, hbn⟩; have n3 := (hbn.cell (p := ⟨w.heap.size, 3, none⟩) hlt0).trans c3))
      all_goals
        have hR2 := HR1.out.below hbm hlt1
        obtain ⟨W5, hW5, hb5, hf5⟩ := hR2.put4 ⟨#[]⟩ 0 0 (.slice none 0 0)
        have hbbm := HBB.out.trans (hbm.mono HBB.out.size)
        have HB5 := Lib.hid (hbbm.trans (hf5.below hbbm.size (fun k e => by subst e; omega)))
        obtain ⟨k0, k1, k2, k3, _⟩ := hb5
        have HW5 := Lib.hid hW5
        obtain ⟨d0, d1, d2, d3, g0, g1, g2, g3⟩ := hR2
        clear hf5 hW5 hbbm
        go_wp2
        rw [← HW5.out]
        exact bodyPost_ret (v := .tuple #[boxV0, .int .i64 9]) (by simp [results, Try.results18, go_sem, k0, k1, k2, k3, boxV0, boxV]) rfl (FlagR.bad HX.out (by decide) HB5.out)
    · rw [if_neg hg] at hX HI
      subst hX
      have hfl : fi < ps.length := by have := HFI.out; omega
      go_wp2_with fail
      go_region_with (first
        | (go_at_call 28; (with_reducible refine (HI.out _ _ (by assumption) (by assumption)).mono ?_); rintro e wm ⟨rfl, hbm⟩)
        | (go_at_call 29; (with_reducible refine (HN.out _ ((Below.refl _ _).drew)).mono ?_); rintro e wn ⟨b, rfl, hcb, hbn⟩; have n3 := (hbn.cell (p := ⟨w.heap.size, 3, none⟩) hlt0).trans c3))
      all_goals
        have hbbm := HBB.out.trans (hbm.mono HBB.out.size)
        have hB2 := HB1.out.below hbm hlt0
        have hR2 := HR1.out.below hbm hlt1
        have hzm := hbm.size
        have HC1 := Lib.hid (HCL.out _ hbm)
        have HB2 := Lib.hid hB2
        have HR2 := Lib.hid hR2
        have HBBM := Lib.hid hbbm
        have HFL := Lib.hid hfl
        obtain ⟨d0, d1, d2, d3, g0, g1, g2, g3⟩ := hB2
        clear hbm hbbm hR2 n3 hbn hcb HI HN HCL HB1 HR1 HBB c0 c1 c2 c3 f0 f1 f2 f3
        go_wp2_with fail
        refine HC1.out.mono ?_
        rintro e w2 ⟨a, c, qs, rfl, hown, hqs, hfr, hb2⟩
        have hB3 := HB2.out.below hb2 (by omega)
        have hR3 := HR2.out.below hb2 (by omega)
        obtain ⟨gl, p, W3, rfl, hfq, hW3, hb3, hr3, x1, x2, hEND⟩ := flag_mid (how := how) (flags := flags) (by omega) HBBM.out hB3 hR3 hown hqs hfr hb2 HFL.out HFU.out HX.out
        have HEND := Lib.hid hEND
        have HW3 := Lib.hid hW3
        obtain ⟨p0, p1, p2, p3, q0, q1, q2, q3⟩ := hb3
        obtain ⟨o0, o1, o2, o3, y0, y1, y2, y3⟩ := hr3
        clear hEND hW3 hb2 hfr hqs hown hR3 HC1 HB2 HR2 HBBM d0 d1 d2 d3 g0 g1 g2 g3 HFL hfl HX HFI HFU HLN hg
        obtain ⟨d0, d1, d2, d3, g0, g1, g2, g3⟩ := hB3
        have hh : how = 0 ∨ how = 1 ∨ how = 2 := by omega
        rcases hh with rfl | rfl | rfl
        · obtain ⟨W4, W5, hW4, hb4, hr4, hW5, hb5, hd⟩ := HEND.out flags (by simp [layF])
          obtain ⟨r0, r1, r2, r3, s0, s1, s2, s3⟩ := hb4
          obtain ⟨t0, t1, t2, t3, v0, v1, v2, v3⟩ := hr4
          obtain ⟨k0, k1, k2, k3, _⟩ := hb5
          have HD := Lib.hid hd
          have HW4 := Lib.hid hW4
          have HW5 := Lib.hid hW5
          clear hd hW4 hW5 HEND
          go_wp2_with (first | rw [← HW3.out] | rw [← HW4.out])
          rw [← HW5.out]
          exact bodyPost_ret (v := .tuple #[.agg #[.string name, .int .i64 valid, .int .i64 next, .slice (some ⟨gl, 0, none⟩) qs.length c], .int .i64 0]) (by simp [results, Try.results18, go_sem, k0, k1, k2, k3]) rfl HD.out
        · obtain ⟨W4, W5, hW4, hb4, hr4, hW5, hb5, hd⟩ := HEND.out (p.1.flags ||| flags) (by simp [layF])
          rw [← lay_or] at hW4
          obtain ⟨r0, r1, r2, r3, s0, s1, s2, s3⟩ := hb4
          obtain ⟨t0, t1, t2, t3, v0, v1, v2, v3⟩ := hr4
          obtain ⟨k0, k1, k2, k3, _⟩ := hb5
          have HD := Lib.hid hd
          have HW4 := Lib.hid hW4
          have HW5 := Lib.hid hW5
          clear hd hW4 hW5 HEND
          go_wp2_with (first | rw [← HW3.out] | rw [← HW4.out])
          rw [← HW5.out]
          exact bodyPost_ret (v := .tuple #[.agg #[.string name, .int .i64 valid, .int .i64 next, .slice (some ⟨gl, 0, none⟩) qs.length c], .int .i64 0]) (by simp [results, Try.results18, go_sem, k0, k1, k2, k3]) rfl HD.out
        · obtain ⟨W4, W5, hW4, hb4, hr4, hW5, hb5, hd⟩ := HEND.out (p.1.flags &&& (flags ^^^ 255)) (by simp [layF])
          rw [← lay_not] at hW4
          obtain ⟨r0, r1, r2, r3, s0, s1, s2, s3⟩ := hb4
          obtain ⟨t0, t1, t2, t3, v0, v1, v2, v3⟩ := hr4
          obtain ⟨k0, k1, k2, k3, _⟩ := hb5
          have HD := Lib.hid hd
          have HW4 := Lib.hid hW4
          have HW5 := Lib.hid hW5
          clear hd hW4 hW5 HEND
          go_wp2_with (first | rw [← HW3.out] | rw [← HW4.out])
          rw [← HW5.out]
          exact bodyPost_ret (v := .tuple #[.agg #[.string name, .int .i64 valid, .int .i64 next, .slice (some ⟨gl, 0, none⟩) qs.length c], .int .i64 0]) (by simp [results, Try.results18, go_sem, k0, k1, k2, k3]) rfl HD.out
  · have hc' : (ck != 0) = true := by simpa using hc
    rw [if_pos hc] at hX
    subst hX
    clear HXX HL1 HB1 HR1 HCKZ
    go_wp2
    rw [← HW4.out]
    exact bodyPost_ret (v := .tuple #[boxV0, .int .i64 ck]) (by simp [results, Try.results18, go_sem, k0, k1, k2, k3, boxV0, boxV]) rfl (FlagR.bad HX.out hc HBB4.out)
end Go.Proofs.Ytpmakbjchepkmaa
