/- Place: PlaceForks. -/
import Derived.Test.YtbmdhhafmieapaaH24
namespace Go.Proofs.Ytbmdhhafmieapaa
open Go Go.RowKit Go.Maps

theorem both_fork {wA w0 w2 w3 : World} {p1 b1 q1 p f : Nat} {n : Int} {k : Nat} {m : List Known} {v : Value} (h : Both wA w0 p1 b1 q1 n k m m) (hf : ForkM w0 n k m w2 p) (hg : w2.grownBy w3 none) (hfe : f = w2.heap.size) (hr : RefOwn w3 f n v m) : Both w0 w3 p w0.heap.size f n k m m := by
  obtain ⟨h1, h2⟩ := hf
  have := h1.lt
  have := h1.ne
  subst hfe
  exact ⟨h2.grown hg h2.size (fun j e => by cases e), Nat.le_refl _, h2.size, by omega, by omega, h1.grown hg (fun e => by cases e) (fun e => by cases e), ⟨v, hr⟩, h.rm, h.rr, h.sm, h.sr, h.len, h.len2⟩
theorem learn_nil' (w : World) : Calls Try.prog 17 #[.pointer none, .agg #[.string ⟨#[]⟩, .int .i64 0, .int .i64 0]] w fun e w' => e = .returned (.int .i64 1) ∧ Below w.heap.size w w' := learn_nil w _ ⟨_, _, _, rfl⟩

set_option maxRecDepth 100000 in
set_option maxHeartbeats 6400000 in
theorem walk_forks (v : Value) (l1 : List Known) (v2 : Value) (l : List Known) (u : ByteArray) (wA : World) (hv : Given wA v l1) (hv2 : Given wA v2 l) :
    Calls Try.prog 7 #[v, v2, .string u] wA fun e w' => e = .returned (.bool true) ∧ Below wA.heap.size wA w' := by
  have hn : (1 : Int) ≤ 3 ∧ (3 : Int) ≤ 4 := by decide
  have HP := Lib.hid (play_good 3 v l1 wA hv hn)
  have HN := Lib.hid hn
  have HV0 := Lib.hid hv2
  obtain ⟨a, cap, rfl, hcap, hl, _⟩ := hv2
  clear hv hn
  go_enter Try.func7, Try.ntmps7
  go_wp2_with fail
  refine HP.out.mono ?_
  rintro e w0 (⟨h, _⟩ | ⟨_, p1, b1, q1, k1, m1, rfl, hk1, hB⟩)
  · exact absurd HN.out h
  have HA := Lib.hid hB
  have HK1 := Lib.hid hk1
  have HV := Lib.hid (HV0.out.below hB.bel)
  have HF := Lib.hid (fork_any _ _ _ _ _ _ hB.map)
  obtain ⟨rv, hrv⟩ := hB.ref
  have HRV := Lib.hid hrv
  clear hB hk1 HV0 hrv HP
  go_wp2_with fail
  refine HF.out.mono ?_
  rintro e w2 ⟨p, rfl, hf⟩
  have HFK := Lib.hid hf
  have HRF := Lib.hid (refFork q1 3 rv m1 w2 (HRV.out.below hf.2))
  clear hf HF HRV
  go_wp2_with fail
  refine HRF.out.mono ?_
  rintro e w3 ⟨rfl, hg, _, hr, _⟩
  obtain ⟨q, hq⟩ : ∃ q, q = w2.heap.size := ⟨_, rfl⟩
  rw [← hq] at hr ⊢
  have H0 := both_fork HA.out HFK.out hg hq hr
  generalize w0.heap.size = b at *
  have H0 : Hid (∃ k0 m, k0 = k1 + 2 * 0 ∧ Both w0 w3 p b q 3 k0 m m) := Lib.hid ⟨_, m1, by simp, H0⟩
  clear hg hr HFK HRF hq
  go_wp2_with fail
  go_loopw [12] (fun iv wr => ∃ k : Nat, iv = .int .i64 (k : Int) ∧ k ≤ l.length ∧ k ≤ 100 ∧ Hid (∃ k0 m, k0 = k1 + 2 * k ∧ Both w0 wr p b q 3 k0 m m)) (fun iv _ => 100 - (intOf iv).toNat)
  case atStart => exact ⟨0, rfl, Nat.zero_le _, Nat.zero_le _, H0⟩
  case round =>
    clear H0
    obtain ⟨k, rfl, hk, hk2, hH⟩ := hrel
    obtain ⟨k0, m, hk0, hB⟩ := hH.out
    have HB := Lib.hid hB
    have HK := Lib.hid hk0
    clear hH hk0 hB
    by_cases hgo : k < l.length ∧ k < 100
    · obtain ⟨hkl, hk6⟩ := hgo
      obtain ⟨g, off, rfl, hg, hld⟩ := HV.out.load k _ (List.getElem?_eq_getElem hkl)
      have hsm : Sm l[k] := by
        obtain ⟨a', cap', he, _, _, h4⟩ := HV.out
        exact (h4 k _ (List.getElem?_eq_getElem hkl)).1
      generalize l[k] = x at *
      have hki : (k : Int) < (l.length : Int) := by omega
      have hki2 : (k : Int) < 100 := by omega
      have hidx : ∀ W, (Instr.indexAt 29 (.slice (some ⟨g, off, none⟩) l.length cap) (.int .i64 (k : Int))).run Try.prog W = .ok (.pointer (some ⟨g, off + k * 3, none⟩)) W := by
        intro W
        have i1 : (0 : Int) ≤ (k : Int) := by omega
        clear hld hsm
        go_simp
      have hbl : Calls Try.prog 17 #[.pointer (some ⟨p, 0, none⟩), .agg #[.string ⟨x.1.toArray⟩, .int .i64 x.2.1, .int .i64 x.2.2]] wr.drew fun e w' => e = .returned (.int .i64 (learnE m 3 x ⟨x.1.toArray⟩)) ∧ Both w0 w' p b q 3 (k0 + 1) (learnL m 3 x) m :=
        b_learn (HB.out.below (Below.refl _ wr).drew) HN.out x hsm (by have := HK.out; have := HK1.out; omega)
      have hbr : ∀ W, Both w0 W p b q 3 (k0 + 1) (learnL m 3 x) m → Calls Try.prog 22 #[.pointer (some ⟨q, 0, none⟩), .agg #[.string ⟨x.1.toArray⟩, .int .i64 x.2.1, .int .i64 x.2.2]] W fun e w' => e = .returned (.int .i64 (learnE m 3 x ⟨x.1.toArray⟩)) ∧ Both w0 w' p b q 3 (k0 + 2) (learnL m 3 x) (learnL m 3 x) :=
        fun W hW => b_rlearn hW HN.out x hsm (by have := HK.out; have := HK1.out; omega)
      have hs0 : Below w0.heap.size w0 wr.drew := HB.out.bel.drew
      generalize hM : learnL m 3 x = M at *
      generalize learnE m 3 x ⟨x.1.toArray⟩ = E at *
      clear hM
      have LD := Lib.hid hld
      have IDX := Lib.hid hidx
      have BL := Lib.hid hbl
      have BR := Lib.hid hbr
      have HS0 := Lib.hid hs0
      obtain ⟨lr, hlr⟩ : ∃ lr, lr = m := ⟨m, rfl⟩
      rw [← hlr] at BL BR
      clear hld hidx hbl hbr hs0 hsm hcap
      go_wp2_with fail
      refine wp_region_held_drew (S := Below w0.heap.size w0) (by kernel_rfl) HS0.out (fun hS0' => ?_)
      have hS0 := Lib.hid hS0'
      clear hS0'
      refine anyH_take 0 (some 42) (.pointer (some ⟨p, 0, none⟩)) rfl rfl (by kernel_rfl) (by kernel_rfl) (by kernel_rfl) (fun _ _ _ h => h) rfl (fun _ _ => rfl) hS0.out ?_
      simp only [Act.put, List.setIfInBounds_toArray, List.set_cons_zero, List.set_cons_succ]
      refine anyH_take 1 (some 43) (.slice (some ⟨g, off, none⟩) l.length cap) rfl rfl (by kernel_rfl) (by kernel_rfl) (by kernel_rfl) (fun _ _ _ h => h) rfl (fun _ _ => rfl) hS0.out ?_
      simp only [Act.put, List.setIfInBounds_toArray, List.set_cons_zero, List.set_cons_succ]
      refine anyH_take 2 (some 44) (.int .i64 (k : Int)) rfl rfl (by kernel_rfl) (by kernel_rfl) (by kernel_rfl) (fun _ _ _ h => h) rfl (fun _ _ => rfl) hS0.out ?_
      simp only [Act.put, List.setIfInBounds_toArray, List.set_cons_zero, List.set_cons_succ]
      refine anyH_take 3 (some 45) (.pointer (some ⟨g, off + k * 3, none⟩)) rfl rfl (by kernel_rfl) (by kernel_rfl) (by kernel_rfl) (fun _ _ _ h => h) rfl (fun W _ => ex_index 29 (.tmp 43) (.tmp 44) rfl _ _ _ rfl rfl (IDX.out W)) hS0.out ?_
      simp only [Act.put, List.setIfInBounds_toArray, List.set_cons_zero, List.set_cons_succ]
      refine anyH_take 4 (some 46) (.agg #[.string ⟨x.1.toArray⟩, .int .i64 x.2.1, .int .i64 x.2.2]) rfl rfl (by kernel_rfl) (by kernel_rfl) (by kernel_rfl) (fun _ _ _ h => h) rfl (fun W hW => ex_load 35 (.tmp 45) rfl _ _ rfl (LD.out W hW)) hS0.out ?_
      simp only [Act.put, List.setIfInBounds_toArray, List.set_cons_zero, List.set_cons_succ]
      refine anyH_take 6 (some 48) (.pointer (some ⟨q, 0, none⟩)) rfl rfl (by kernel_rfl) (by kernel_rfl) (by kernel_rfl) (fun _ _ _ h => h) rfl (fun _ _ => rfl) hS0.out ?_
      simp only [Act.put, List.setIfInBounds_toArray, List.set_cons_zero, List.set_cons_succ]
      refine anyH_take 7 (some 49) (.slice (some ⟨g, off, none⟩) l.length cap) rfl rfl (by kernel_rfl) (by kernel_rfl) (by kernel_rfl) (fun _ _ _ h => h) rfl (fun _ _ => rfl) hS0.out ?_
      simp only [Act.put, List.setIfInBounds_toArray, List.set_cons_zero, List.set_cons_succ]
      refine anyH_take 8 (some 50) (.int .i64 (k : Int)) rfl rfl (by kernel_rfl) (by kernel_rfl) (by kernel_rfl) (fun _ _ _ h => h) rfl (fun _ _ => rfl) hS0.out ?_
      simp only [Act.put, List.setIfInBounds_toArray, List.set_cons_zero, List.set_cons_succ]
      refine anyH_take 9 (some 51) (.pointer (some ⟨g, off + k * 3, none⟩)) rfl rfl (by kernel_rfl) (by kernel_rfl) (by kernel_rfl) (fun _ _ _ h => h) rfl (fun W _ => ex_index 29 (.tmp 49) (.tmp 50) rfl _ _ _ rfl rfl (IDX.out W)) hS0.out ?_
      simp only [Act.put, List.setIfInBounds_toArray, List.set_cons_zero, List.set_cons_succ]
      refine anyH_take 10 (some 52) (.agg #[.string ⟨x.1.toArray⟩, .int .i64 x.2.1, .int .i64 x.2.2]) rfl rfl (by kernel_rfl) (by kernel_rfl) (by kernel_rfl) (fun _ _ _ h => h) rfl (fun W hW => ex_load 35 (.tmp 51) rfl _ _ rfl (LD.out W hW)) hS0.out ?_
      simp only [Act.put, List.setIfInBounds_toArray, List.set_cons_zero, List.set_cons_succ]
      refine anyH_one 5 (by kernel_rfl) rfl rfl (fun K hK => ?_)
      refine wp_calls (some 47) rfl 17 #[.pointer (some ⟨p, 0, none⟩), .agg #[.string ⟨x.1.toArray⟩, .int .i64 x.2.1, .int .i64 x.2.2]] (ex_call2 17 (.tmp 42) (.tmp 46) _ rfl _ _ rfl rfl (fun _ _ => rfl)) (.int .i64 E) (fun w' => Both w0 w' p b q 3 (k0 + 1) M lr) (BL.out) (fun W1 hR1 => hK _ _ (hR1.bel) ?_)
      clear hK K
      simp only [Act.put, List.setIfInBounds_toArray, List.set_cons_zero, List.set_cons_succ]
      have B1 := Lib.hid hR1
      clear hR1
      refine anyH_one 11 (by kernel_rfl) rfl rfl (fun K hK => ?_)
      refine wp_calls (some 53) rfl 22 #[.pointer (some ⟨q, 0, none⟩), .agg #[.string ⟨x.1.toArray⟩, .int .i64 x.2.1, .int .i64 x.2.2]] (ex_call2 22 (.tmp 48) (.tmp 52) _ rfl _ _ rfl rfl (fun _ _ => rfl)) (.int .i64 E) (fun w' => Both w0 w' p b q 3 (k0 + 2) M M) (BR.out _ B1.out) (fun W1 hR1 => hK _ _ (hR1.bel) ?_)
      clear hK K
      simp only [Act.put, List.setIfInBounds_toArray, List.set_cons_zero, List.set_cons_succ]
      have B2 := Lib.hid hR1
      clear hR1
      refine anyH_take 12 (some 54) (.bool false) rfl rfl (by kernel_rfl) (by kernel_rfl) (by kernel_rfl) (fun _ _ _ h => h) rfl (fun _ _ => ex_neqI _ _ _ _ _ E rfl rfl rfl) B2.out.bel ?_
      simp only [Act.put, List.setIfInBounds_toArray, List.set_cons_zero, List.set_cons_succ]
      refine wpAnyH_done (by kernel_rfl) ?_ _
      clear BL BR LD IDX B1 hS0 HS0
      go_wp2
      go_roundw
      case rel => exact ⟨k + 1, by go_num, by omega, by omega, Lib.hid ⟨k0 + 2, M, by have := HK.out; omega, B2.out⟩⟩
      case measure => simp [intOf]; omega
    · have hgo' : ¬ (k : Int) < (l.length : Int) ∨ (k : Int) < (l.length : Int) ∧ ¬ (k : Int) < 100 := by omega
      have HA2 := Lib.hid (HA.out.below HB.out.bel)
      have HB0 := Lib.hid (HA.out.bel.trans (HB.out.bel.mono HA.out.bel.size))
      clear hgo HV HA
      rcases hgo' with hq | ⟨hq, hq2⟩
      all_goals
        go_wp2_with fail
        refine (seat_nil _ _).mono ?_
        rintro e w4 ⟨rfl, b4⟩
        have HA4 := Lib.hid (HA2.out.below b4)
        have HB4 := Lib.hid (HB.out.below b4)
        clear b4 HA2 HB HB0
        go_wp2_with fail
        have b5 := below_alloc w4 (.cells #[.string ⟨#[]⟩, .int .i64 0, .int .i64 0] 35)
        have HA5 := Lib.hid (HA4.out.below b5)
        have HB5 := Lib.hid (HB4.out.below b5)
        generalize w4.alloc (.cells #[.string ⟨#[]⟩, .int .i64 0, .int .i64 0] 35) = w5 at *
        clear b5 HA4 HB4
        obtain ⟨rv1, hrv1⟩ := HA5.out.ref
        obtain ⟨rv2, hrv2⟩ := HB5.out.ref
        have LV := Lib.hid (fun W (hW : Below w5.heap.size w5 W) => (live_any W).mono (fun e w' (h : _ ∧ _) => (⟨h.1, hW.trans (h.2.mono hW.size)⟩ : _ ∧ Below w5.heap.size w5 w')))
        have S1 := Lib.hid (fun W (hW : Below w5.heap.size w5 W) => b_seats (HA5.out.below hW) (by have := HK1.out; omega))
        have S2 := Lib.hid (fun W (hW : Below w5.heap.size w5 W) => b_seats (HB5.out.below hW) (by have := HK1.out; have := HK.out; omega))
        have M1 := Lib.hid (fun W (hW : Below w5.heap.size w5 W) v' (h1 : Full W v' m1) => same_any v' rv1 m1 W h1 (hrv1.below hW).full (by have := HA5.out.len; have := HK1.out; omega))
        have M2 := Lib.hid (fun W (hW : Below w5.heap.size w5 W) v' (h1 : Full W v' m) => same_any v' rv2 m W h1 (hrv2.below hW).full (by have := HB5.out.len; have := HK1.out; have := HK.out; omega))
        have L1 := Lib.hid (fun W (hW : Below w5.heap.size w5 W) => show (Instr.loadAt 29 (.pointer (some ⟨q1, 1, none⟩))).run Try.prog W = .ok rv1 W from by
          have hc : W.cell? ⟨q1, 1, none⟩ = some rv1 := (hrv1.below hW).c1
          obtain ⟨_, _, rfl⟩ := hrv1.full.len
          clear LV S1 S2 M1 M2 hrv1 hrv2
          go_simp)
        have L2 := Lib.hid (fun W (hW : Below w5.heap.size w5 W) => show (Instr.loadAt 29 (.pointer (some ⟨q, 1, none⟩))).run Try.prog W = .ok rv2 W from by
          have hc : W.cell? ⟨q, 1, none⟩ = some rv2 := (hrv2.below hW).c1
          obtain ⟨_, _, rfl⟩ := hrv2.full.len
          clear LV S1 S2 M1 M2 L1 hrv1 hrv2
          go_simp)
        have D0 : Hid (Below w5.heap.size w5 w5.drew) := Lib.hid (Below.refl _ w5).drew
        have FA := Lib.hid HA5.out.bel
        clear hrv1 hrv2 HA5 HB5
        refine wp_region_held_drew (S := Below w5.heap.size w5) (by kernel_rfl) D0.out (fun _ => ?_)
        refine anyH_oneG 0 (by kernel_rfl) rfl rfl (fun K hK => ?_)
        refine wp_calls (some 61) rfl 10 _ (ex_call0 10 _ rfl (fun _ _ => rfl)) (.bool true) (fun w' => Below w5.heap.size w5 w') (LV.out _ D0.out) (fun W1 hR1 => hK _ _ hR1 ?_)
        clear hK K
        simp only [Act.put, List.setIfInBounds_toArray, List.set_cons_zero, List.set_cons_succ]
        have D1 := Lib.hid hR1
        clear hR1
        refine anyH_take 1 (some 62) (.bool true) rfl rfl (by kernel_rfl) (by kernel_rfl) (by kernel_rfl) (fun _ _ _ h => h) rfl (fun _ _ => rfl) D1.out ?_
        simp only [Act.put, List.setIfInBounds_toArray, List.set_cons_zero, List.set_cons_succ]
        refine anyH_take 2 (some 63) (.pointer (some ⟨p1, 0, none⟩)) rfl rfl (by kernel_rfl) (by kernel_rfl) (by kernel_rfl) (fun _ _ _ h => h) rfl (fun _ _ => rfl) D1.out ?_
        simp only [Act.put, List.setIfInBounds_toArray, List.set_cons_zero, List.set_cons_succ]
        refine anyH_take 4 (some 65) (.pointer (some ⟨q1, 0, none⟩)) rfl rfl (by kernel_rfl) (by kernel_rfl) (by kernel_rfl) (fun _ _ _ h => h) rfl (fun _ _ => rfl) D1.out ?_
        simp only [Act.put, List.setIfInBounds_toArray, List.set_cons_zero, List.set_cons_succ]
        refine anyH_take 5 (some 66) (.pointer (some ⟨q1, 0, none⟩)) rfl rfl (by kernel_rfl) (by kernel_rfl) (by kernel_rfl) (fun _ _ _ h => h) rfl (fun _ _ => ex_nilCheck (.tmp 65) rfl _ rfl) D1.out ?_
        simp only [Act.put, List.setIfInBounds_toArray, List.set_cons_zero, List.set_cons_succ]
        refine anyH_take 6 (some 67) (.pointer (some ⟨q1, 1, none⟩)) rfl rfl (by kernel_rfl) (by kernel_rfl) (by kernel_rfl) (fun _ _ _ h => h) rfl (fun _ _ => by kernel_rfl) D1.out ?_
        simp only [Act.put, List.setIfInBounds_toArray, List.set_cons_zero, List.set_cons_succ]
        refine anyH_take 7 (some 68) (rv1) rfl rfl (by kernel_rfl) (by kernel_rfl) (by kernel_rfl) (fun _ _ _ h => h) rfl (fun W hW => ex_load 29 (.tmp 67) rfl _ _ rfl (L1.out W hW)) D1.out ?_
        simp only [Act.put, List.setIfInBounds_toArray, List.set_cons_zero, List.set_cons_succ]
        refine anyH_oneG 3 (by kernel_rfl) rfl rfl (fun K hK => ?_)
        refine wp_callsX (some 64) rfl 19 _ (ex_call1 19 (.tmp 63) _ rfl _ rfl (fun _ _ => rfl)) (fun w' v' => Full w' v' m1 ∧ Below w5.heap.size w5 w') ((S1.out _ D1.out).mono fun e w' ⟨v', ss, h1, h2, h3, h4⟩ => ⟨v', h1, h2 ▸ h3.full, D1.out.trans (h4.mono D1.out.size)⟩) (fun W1 sv3 hR1 => hK _ _ hR1.2 ?_)
        clear hK K
        simp only [Act.put, List.setIfInBounds_toArray, List.set_cons_zero, List.set_cons_succ]
        have FU1 := Lib.hid hR1.1
        have D2 := Lib.hid hR1.2
        clear hR1
        refine anyH_oneG 8 (by kernel_rfl) rfl rfl (fun K hK => ?_)
        refine wp_calls (some 69) rfl 18 _ (ex_call2 18 (.tmp 64) (.tmp 68) _ rfl _ _ rfl rfl (fun _ _ => rfl)) (.bool true) (fun w' => Below w5.heap.size w5 w') ((M1.out _ D2.out _ FU1.out).mono fun e w' h => ⟨h.1, D2.out.trans (h.2.mono D2.out.size)⟩) (fun W1 hR1 => hK _ _ hR1 ?_)
        clear hK K
        simp only [Act.put, List.setIfInBounds_toArray, List.set_cons_zero, List.set_cons_succ]
        have D3 := Lib.hid hR1
        clear hR1
        refine anyH_take 9 (some 70) (.bool true) rfl rfl (by kernel_rfl) (by kernel_rfl) (by kernel_rfl) (fun _ _ _ h => h) rfl (fun _ _ => rfl) D3.out ?_
        simp only [Act.put, List.setIfInBounds_toArray, List.set_cons_zero, List.set_cons_succ]
        refine anyH_take 10 (some 71) (.bool true) rfl rfl (by kernel_rfl) (by kernel_rfl) (by kernel_rfl) (fun _ _ _ h => h) rfl (fun _ _ => rfl) D3.out ?_
        simp only [Act.put, List.setIfInBounds_toArray, List.set_cons_zero, List.set_cons_succ]
        refine anyH_take 11 (some 72) (.pointer (some ⟨p, 0, none⟩)) rfl rfl (by kernel_rfl) (by kernel_rfl) (by kernel_rfl) (fun _ _ _ h => h) rfl (fun _ _ => rfl) D3.out ?_
        simp only [Act.put, List.setIfInBounds_toArray, List.set_cons_zero, List.set_cons_succ]
        refine anyH_take 13 (some 74) (.pointer (some ⟨q, 0, none⟩)) rfl rfl (by kernel_rfl) (by kernel_rfl) (by kernel_rfl) (fun _ _ _ h => h) rfl (fun _ _ => rfl) D3.out ?_
        simp only [Act.put, List.setIfInBounds_toArray, List.set_cons_zero, List.set_cons_succ]
        refine anyH_take 14 (some 75) (.pointer (some ⟨q, 0, none⟩)) rfl rfl (by kernel_rfl) (by kernel_rfl) (by kernel_rfl) (fun _ _ _ h => h) rfl (fun _ _ => ex_nilCheck (.tmp 74) rfl _ rfl) D3.out ?_
        simp only [Act.put, List.setIfInBounds_toArray, List.set_cons_zero, List.set_cons_succ]
        refine anyH_take 15 (some 76) (.pointer (some ⟨q, 1, none⟩)) rfl rfl (by kernel_rfl) (by kernel_rfl) (by kernel_rfl) (fun _ _ _ h => h) rfl (fun _ _ => by kernel_rfl) D3.out ?_
        simp only [Act.put, List.setIfInBounds_toArray, List.set_cons_zero, List.set_cons_succ]
        refine anyH_take 16 (some 77) (rv2) rfl rfl (by kernel_rfl) (by kernel_rfl) (by kernel_rfl) (fun _ _ _ h => h) rfl (fun W hW => ex_load 29 (.tmp 76) rfl _ _ rfl (L2.out W hW)) D3.out ?_
        simp only [Act.put, List.setIfInBounds_toArray, List.set_cons_zero, List.set_cons_succ]
        refine anyH_oneG 12 (by kernel_rfl) rfl rfl (fun K hK => ?_)
        refine wp_callsX (some 73) rfl 19 _ (ex_call1 19 (.tmp 72) _ rfl _ rfl (fun _ _ => rfl)) (fun w' v' => Full w' v' m ∧ Below w5.heap.size w5 w') ((S2.out _ D3.out).mono fun e w' ⟨v', ss, h1, h2, h3, h4⟩ => ⟨v', h1, h2 ▸ h3.full, D3.out.trans (h4.mono D3.out.size)⟩) (fun W1 sv12 hR1 => hK _ _ hR1.2 ?_)
        clear hK K
        simp only [Act.put, List.setIfInBounds_toArray, List.set_cons_zero, List.set_cons_succ]
        have FU2 := Lib.hid hR1.1
        have D4 := Lib.hid hR1.2
        clear hR1
        refine anyH_oneG 17 (by kernel_rfl) rfl rfl (fun K hK => ?_)
        refine wp_calls (some 78) rfl 18 _ (ex_call2 18 (.tmp 73) (.tmp 77) _ rfl _ _ rfl rfl (fun _ _ => rfl)) (.bool true) (fun w' => Below w5.heap.size w5 w') ((M2.out _ D4.out _ FU2.out).mono fun e w' h => ⟨h.1, D4.out.trans (h.2.mono D4.out.size)⟩) (fun W1 hR1 => hK _ _ hR1 ?_)
        clear hK K
        simp only [Act.put, List.setIfInBounds_toArray, List.set_cons_zero, List.set_cons_succ]
        have D5 := Lib.hid hR1
        clear hR1
        refine anyH_take 18 (some 79) (.bool true) rfl rfl (by kernel_rfl) (by kernel_rfl) (by kernel_rfl) (fun _ _ _ h => h) rfl (fun _ _ => rfl) D5.out ?_
        simp only [Act.put, List.setIfInBounds_toArray, List.set_cons_zero, List.set_cons_succ]
        refine anyH_take 19 (some 80) (.bool true) rfl rfl (by kernel_rfl) (by kernel_rfl) (by kernel_rfl) (fun _ _ _ h => h) rfl (fun _ _ => rfl) D5.out ?_
        simp only [Act.put, List.setIfInBounds_toArray, List.set_cons_zero, List.set_cons_succ]
        refine anyH_take 20 (some 81) (.int .i64 1) rfl rfl (by kernel_rfl) (by kernel_rfl) (by kernel_rfl) (fun _ _ _ h => h) rfl (fun _ _ => rfl) D5.out ?_
        simp only [Act.put, List.setIfInBounds_toArray, List.set_cons_zero, List.set_cons_succ]
        refine anyH_take 21 (some 82) (.bool true) rfl rfl (by kernel_rfl) (by kernel_rfl) (by kernel_rfl) (fun _ _ _ h => h) rfl (fun _ _ => ex_eqlI _ _ _ _ .i64 1 rfl rfl rfl) D5.out ?_
        simp only [Act.put, List.setIfInBounds_toArray, List.set_cons_zero, List.set_cons_succ]
        refine anyH_take 22 (some 83) (.bool true) rfl rfl (by kernel_rfl) (by kernel_rfl) (by kernel_rfl) (fun _ _ _ h => h) rfl (fun _ _ => rfl) D5.out ?_
        simp only [Act.put, List.setIfInBounds_toArray, List.set_cons_zero, List.set_cons_succ]
        refine anyH_take 23 (some 84) (.bool true) rfl rfl (by kernel_rfl) (by kernel_rfl) (by kernel_rfl) (fun _ _ _ h => h) rfl (fun _ _ => rfl) D5.out ?_
        simp only [Act.put, List.setIfInBounds_toArray, List.set_cons_zero, List.set_cons_succ]
        refine anyH_take 24 (some 85) (.pointer none) rfl rfl (by kernel_rfl) (by kernel_rfl) (by kernel_rfl) (fun _ _ _ h => h) rfl (fun _ _ => rfl) D5.out ?_
        simp only [Act.put, List.setIfInBounds_toArray, List.set_cons_zero, List.set_cons_succ]
        refine anyH_take 25 (some 86) (.agg #[.string ⟨#[]⟩, .int .i64 0, .int .i64 0]) rfl rfl (by kernel_rfl) (by kernel_rfl) (by kernel_rfl) (fun _ _ _ h => h) rfl (fun _ _ => by kernel_rfl) D5.out ?_
        simp only [Act.put, List.setIfInBounds_toArray, List.set_cons_zero, List.set_cons_succ]
        refine anyH_oneG 26 (by kernel_rfl) rfl rfl (fun K hK => ?_)
        refine wp_calls (some 87) rfl 17 _ (ex_call2 17 (.tmp 85) (.tmp 86) _ rfl _ _ rfl rfl (fun _ _ => rfl)) (.int .i64 1) (fun w' => Below w5.heap.size w5 w') ((learn_nil' _).mono fun e w' h => ⟨h.1, D5.out.trans (h.2.mono D5.out.size)⟩) (fun W1 hR1 => hK _ _ hR1 ?_)
        clear hK K
        simp only [Act.put, List.setIfInBounds_toArray, List.set_cons_zero, List.set_cons_succ]
        have D6 := Lib.hid hR1
        clear hR1
        refine anyH_take 27 (some 88) (.bool true) rfl rfl (by kernel_rfl) (by kernel_rfl) (by kernel_rfl) (fun _ _ _ h => h) rfl (fun _ _ => ex_eqlI _ _ _ _ .i64 1 rfl rfl rfl) D6.out ?_
        simp only [Act.put, List.setIfInBounds_toArray, List.set_cons_zero, List.set_cons_succ]
        refine anyH_take 28 (some 89) (.bool true) rfl rfl (by kernel_rfl) (by kernel_rfl) (by kernel_rfl) (fun _ _ _ h => h) rfl (fun _ _ => rfl) D6.out ?_
        simp only [Act.put, List.setIfInBounds_toArray, List.set_cons_zero, List.set_cons_succ]
        refine anyH_take 29 (some 90) (.bool true) rfl rfl (by kernel_rfl) (by kernel_rfl) (by kernel_rfl) (fun _ _ _ h => h) rfl (fun _ _ => rfl) D6.out ?_
        simp only [Act.put, List.setIfInBounds_toArray, List.set_cons_zero, List.set_cons_succ]
        refine anyH_take 30 (some 91) (.pointer none) rfl rfl (by kernel_rfl) (by kernel_rfl) (by kernel_rfl) (fun _ _ _ h => h) rfl (fun _ _ => rfl) D6.out ?_
        simp only [Act.put, List.setIfInBounds_toArray, List.set_cons_zero, List.set_cons_succ]
        refine anyH_oneG 31 (by kernel_rfl) rfl rfl (fun K hK => ?_)
        refine wp_calls (some 92) rfl 19 _ (ex_call1 19 (.tmp 91) _ rfl _ rfl (fun _ _ => rfl)) (.slice none 0 0) (fun w' => Below w5.heap.size w5 w') ((seats_nil _).mono fun e w' h => ⟨h.1, by rw [h.2]; exact D6.out⟩) (fun W1 hR1 => hK _ _ hR1 ?_)
        clear hK K
        simp only [Act.put, List.setIfInBounds_toArray, List.set_cons_zero, List.set_cons_succ]
        have D7 := Lib.hid hR1
        clear hR1
        refine anyH_take 32 (some 93) (.int .i64 0) rfl rfl (by kernel_rfl) (by kernel_rfl) (by kernel_rfl) (fun _ _ _ h => h) rfl (fun _ _ => by kernel_rfl) D7.out ?_
        simp only [Act.put, List.setIfInBounds_toArray, List.set_cons_zero, List.set_cons_succ]
        refine anyH_take 33 (some 94) (.bool true) rfl rfl (by kernel_rfl) (by kernel_rfl) (by kernel_rfl) (fun _ _ _ h => h) rfl (fun _ _ => ex_eqlI _ _ _ _ .i64 0 rfl rfl rfl) D7.out ?_
        simp only [Act.put, List.setIfInBounds_toArray, List.set_cons_zero, List.set_cons_succ]
        refine anyH_take 34 (some 95) (.bool true) rfl rfl (by kernel_rfl) (by kernel_rfl) (by kernel_rfl) (fun _ _ _ h => h) rfl (fun _ _ => rfl) D7.out ?_
        simp only [Act.put, List.setIfInBounds_toArray, List.set_cons_zero, List.set_cons_succ]
        refine anyH_take 35 (some 96) (.bool true) rfl rfl (by kernel_rfl) (by kernel_rfl) (by kernel_rfl) (fun _ _ _ h => h) rfl (fun _ _ => rfl) D7.out ?_
        simp only [Act.put, List.setIfInBounds_toArray, List.set_cons_zero, List.set_cons_succ]
        refine anyH_take 36 (some 97) (.pointer none) rfl rfl (by kernel_rfl) (by kernel_rfl) (by kernel_rfl) (fun _ _ _ h => h) rfl (fun _ _ => rfl) D7.out ?_
        simp only [Act.put, List.setIfInBounds_toArray, List.set_cons_zero, List.set_cons_succ]
        refine anyH_oneG 37 (by kernel_rfl) rfl rfl (fun K hK => ?_)
        refine wp_calls (some 98) rfl 20 _ (ex_call1 20 (.tmp 97) _ rfl _ rfl (fun _ _ => rfl)) (.pointer none) (fun w' => Below w5.heap.size w5 w') ((fork_nil _).mono fun e w' h => ⟨h.1, by rw [h.2]; exact D7.out⟩) (fun W1 hR1 => hK _ _ hR1 ?_)
        clear hK K
        simp only [Act.put, List.setIfInBounds_toArray, List.set_cons_zero, List.set_cons_succ]
        have D8 := Lib.hid hR1
        clear hR1
        refine anyH_take 38 (some 99) (.bool true) rfl rfl (by kernel_rfl) (by kernel_rfl) (by kernel_rfl) (fun _ _ _ h => h) rfl (fun _ _ => by kernel_rfl) D8.out ?_
        simp only [Act.put, List.setIfInBounds_toArray, List.set_cons_zero, List.set_cons_succ]
        refine anyH_take 39 (some 100) (.bool true) rfl rfl (by kernel_rfl) (by kernel_rfl) (by kernel_rfl) (fun _ _ _ h => h) rfl (fun _ _ => rfl) D8.out ?_
        simp only [Act.put, List.setIfInBounds_toArray, List.set_cons_zero, List.set_cons_succ]
        refine anyH_take 40 (some 6) (.bool true) rfl rfl (by kernel_rfl) (by kernel_rfl) (by kernel_rfl) (fun _ _ _ h => h) rfl (fun _ _ => rfl) D8.out ?_
        simp only [Act.put, List.setIfInBounds_toArray, List.set_cons_zero, List.set_cons_succ]
        refine wpAnyH_done (by kernel_rfl) ?_ _
        have FIN := Lib.hid (FA.out.trans (D8.out.mono FA.out.size))
        clear D0 D1 D2 D3 D4 D5 D6 D7 D8 FU1 FU2 L1 L2 M1 M2 S1 S2 LV FA
        go_wp2
        go_ret
        exact ⟨rfl, FIN.out⟩
end Go.Proofs.Ytbmdhhafmieapaa
