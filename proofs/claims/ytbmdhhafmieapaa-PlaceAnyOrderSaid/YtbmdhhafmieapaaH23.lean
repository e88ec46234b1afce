/- Place: what the law's play tells. -/
import Derived.Test.YtbmdhhafmieapaaH21
import Derived.Test.YtbmdhhafmieapaaH22
namespace Go.Proofs.Ytbmdhhafmieapaa
open Go Go.RowKit Go.Maps

set_option maxHeartbeats 1000000 in
theorem new_bad (n : Int) (w : World) (hn : ¬ (1 ≤ n ∧ n ≤ 4)) :
    Calls Try.prog 16 #[.int .i64 n] w fun e w' => e = .returned (.tuple #[.pointer none, .int .i64 2]) ∧ w' = w := by
  have hR := right_any n w
  rw [decide_eq_false hn] at hR
  clear hn
  go_enter Try.func16, Try.ntmps16
  go_wp2_with (go_at_call 23; refine hR.mono ?_; rintro e w' ⟨rfl, rfl⟩)
  go_ret2
  exact ⟨rfl, rfl⟩
set_option maxHeartbeats 400000 in
theorem refNew_bad (n : Int) (w : World) (hn : ¬ (1 ≤ n ∧ n ≤ 4)) :
    Calls Try.prog 24 #[.int .i64 n] w fun e w' => e = .returned (.tuple #[.pointer none, .int .i64 2]) ∧ w' = w := by
  have h1 : n < 1 ∨ (¬ n < 1 ∧ 4 < n) := by omega
  clear hn
  rcases h1 with h1 | ⟨h1, h2⟩
  all_goals
    go_enter Try.func24, Try.ntmps24
    go_wp2
    go_ret2
    exact ⟨rfl, rfl⟩
theorem ex_neqI {P : Program} {o : Oper} {a : Act} {w : World} (t u : TypeId) (x y : Operand) (k : IntKind) (n : Int) (ho : o.op = .binOp .neq t x y u) (hx : a.eval x = .int k n) (hy : a.eval y = .int k n) : (execOp a.eval o).run P w = .ok (.value (.bool false)) w := by
  unfold execOp
  simp [ho, hx, hy, eqGuard, Sem.run_bind, binOp_neq]
theorem wp_callsX {P : Program} {Q : Exit → Act → World → Prop} {o : Oper} {a : Act} {w : World} {K : Act → World → Prop} (d : Option Tmp) (hd : o.dst = d) (f : FuncId) (args : Array Value) (hr : (execOp a.eval o).run P w = .ok (.enter f args) w) (R : World → Value → Prop)
    (hc : Calls P f args w fun e w' => ∃ v, e = .returned v ∧ R w' v) (h : ∀ w' v, R w' v → K (a.put d v) w') : o.wp P a w K Q := by
  subst hd
  unfold Oper.wp
  rw [hr]
  refine hc.mono ?_
  rintro e w' ⟨v, rfl, hR⟩
  exact h w' v hR
/-- Both new. -/
theorem both_new {w w1 w2 : World} {n : Int} (b1 : Below w.heap.size w w1) (hz : w1.heap.size = w.heap.size + 2) (hm : IsMap w1 (w.heap.size + 1) w.heap.size n 0 (.map [])) (hg : w1.grownBy w2 none) (hr : RefOwn w2 w1.heap.size n (.slice none 0 0) []) : Both w w2 (w.heap.size + 1) w.heap.size w1.heap.size n 0 [] [] :=
  ⟨b1.grown hg b1.size (fun j e => by cases e), Nat.le_refl _, by omega, by omega, by omega, hm.grown hg (fun e => by cases e) (fun e => by cases e), ⟨_, hr⟩, List.Pairwise.nil, List.Pairwise.nil, fun x hx => (by cases hx), fun x hx => (by cases hx), Nat.le_refl _, Nat.le_refl _⟩
def Played (w : World) (n : Int) (e : Ending) (w' : World) : Prop :=
  (¬ (1 ≤ n ∧ n ≤ 4) ∧ e = .returned (.tuple #[.pointer none, .pointer none, .bool true]) ∧ Below w.heap.size w w') ∨
  ((1 ≤ n ∧ n ≤ 4) ∧ ∃ p b q k m, e = .returned (.tuple #[.pointer (some ⟨p, 0, none⟩), .pointer (some ⟨q, 0, none⟩), .bool true]) ∧ k ≤ 300 ∧ Both w w' p b q n k m m)

set_option maxRecDepth 100000 in
set_option maxHeartbeats 1600000 in
theorem play_bad (n : Int) (v : Value) (w : World) (hn : ¬ (1 ≤ n ∧ n ≤ 4)) :
    Calls Try.prog 13 #[.int .i64 n, v] w (Played w n) := by
  have HN := Lib.hid hn
  clear hn
  go_enter Try.func13, Try.ntmps13
  go_wp2_with fail
  refine (new_bad n _ HN.out).mono ?_
  rintro e w1 ⟨rfl, rfl⟩
  go_wp2_with fail
  refine (refNew_bad n _ HN.out).mono ?_
  rintro e w2 ⟨rfl, rfl⟩
  go_wp2_with fail
  refine wp_loop_rounds 1 ?_
  rw [rounds_succ]
  go_wp2_with fail
  go_quiet (fail)
  go_wp2
  exact bodyPost_ret (v := .tuple #[.pointer none, .pointer none, .bool true]) (by simp [results, Try.results13, go_sem]) rfl (Or.inl ⟨HN.out, rfl, ⟨rfl, rfl, rfl, Nat.le_refl _, fun _ _ => rfl⟩⟩)

set_option maxRecDepth 100000 in
set_option maxHeartbeats 6400000 in
theorem play_good (n : Int) (v : Value) (l : List Known) (w0 : World) (hv : Given w0 v l) (hn : 1 ≤ n ∧ n ≤ 4) :
    Calls Try.prog 13 #[.int .i64 n, v] w0 (Played w0 n) := by
  have HN := Lib.hid hn
  have HV := Lib.hid hv
  obtain ⟨a, cap, rfl, hcap, hl, _⟩ := hv
  clear hn
  go_enter Try.func13, Try.ntmps13
  go_wp2_with fail
  refine (new_any n _ HN.out).mono ?_
  rintro e w1 ⟨rfl, b1, hz, hm⟩
  have X1 := Lib.hid b1
  have X2 := Lib.hid hz
  have X3 := Lib.hid hm
  clear b1 hz hm
  go_wp2_with fail
  refine (refNew n _ HN.out).mono ?_
  rintro e w2 ⟨rfl, hg, _, hr⟩
  have H0 := Lib.hid (both_new X1.out X2.out X3.out hg hr)
  clear X1 X2 X3 hg hr
  generalize w1.heap.size = q at *
  obtain ⟨p, hp⟩ : ∃ p, w0.heap.size + 1 = p := ⟨_, rfl⟩
  rw [hp] at H0
  rw [hp]
  clear hp
  obtain ⟨b, hb⟩ : ∃ b, w0.heap.size = b := ⟨_, rfl⟩
  have H0 : Hid (∃ k0 m, k0 = 0 ∧ Both w0 w2 p b q n k0 m m) := Lib.hid ⟨0, [], rfl, hb ▸ H0.out⟩
  clear hb
  go_wp2_with fail
  go_loopw [11] (fun iv wr => ∃ k : Nat, iv = .int .i64 (k : Int) ∧ k ≤ l.length ∧ k ≤ 150 ∧ Hid (∃ k0 m, k0 = 2 * k ∧ Both w0 wr p b q n k0 m m)) (fun iv _ => 150 - (intOf iv).toNat)
  case atStart => exact ⟨0, rfl, Nat.zero_le _, Nat.zero_le _, H0⟩
  case round =>
    clear H0
    obtain ⟨k, rfl, hk, hk2, hH⟩ := hrel
    obtain ⟨k0, m, hk0, hB⟩ := hH.out
    have HB := Lib.hid hB
    have HK := Lib.hid hk0
    clear hH hk0 hB
    by_cases hgo : k < l.length ∧ k < 150
    · obtain ⟨hkl, hk6⟩ := hgo
      obtain ⟨g, off, rfl, hg, hld⟩ := HV.out.load k _ (List.getElem?_eq_getElem hkl)
      have hsm : Sm l[k] := by
        obtain ⟨a', cap', he, _, _, h4⟩ := HV.out
        exact (h4 k _ (List.getElem?_eq_getElem hkl)).1
      generalize l[k] = x at *
      have hki : (k : Int) < (l.length : Int) := by omega
      have hki2 : (k : Int) < 150 := by omega
      have hidx : ∀ W, (Instr.indexAt 29 (.slice (some ⟨g, off, none⟩) l.length cap) (.int .i64 (k : Int))).run Try.prog W = .ok (.pointer (some ⟨g, off + k * 3, none⟩)) W := by
        intro W
        have i1 : (0 : Int) ≤ (k : Int) := by omega
        clear hld hsm
        go_simp
      have hbl : Calls Try.prog 17 #[.pointer (some ⟨p, 0, none⟩), .agg #[.string ⟨x.1.toArray⟩, .int .i64 x.2.1, .int .i64 x.2.2]] wr.drew fun e w' => e = .returned (.int .i64 (learnE m n x ⟨x.1.toArray⟩)) ∧ Both w0 w' p b q n (k0 + 1) (learnL m n x) m :=
        b_learn (HB.out.below (Below.refl _ wr).drew) HN.out x hsm (by have := HK.out; omega)
      have hbr : ∀ W, Both w0 W p b q n (k0 + 1) (learnL m n x) m → Calls Try.prog 22 #[.pointer (some ⟨q, 0, none⟩), .agg #[.string ⟨x.1.toArray⟩, .int .i64 x.2.1, .int .i64 x.2.2]] W fun e w' => e = .returned (.int .i64 (learnE m n x ⟨x.1.toArray⟩)) ∧ Both w0 w' p b q n (k0 + 2) (learnL m n x) (learnL m n x) :=
        fun W hW => b_rlearn hW HN.out x hsm (by have := HK.out; omega)
      have hs0 : Below w0.heap.size w0 wr.drew := HB.out.bel.drew
      generalize hM : learnL m n x = M at *
      generalize learnE m n x ⟨x.1.toArray⟩ = E at *
      clear hM
      have LD := Lib.hid hld
      have IDX := Lib.hid hidx
      have BL := Lib.hid hbl
      have BR := Lib.hid hbr
      have HS0 := Lib.hid hs0
      obtain ⟨lr, hlr⟩ : ∃ lr, lr = m := ⟨m, rfl⟩
      rw [← hlr] at BL BR
      clear hld hidx hbl hbr hs0 hsm hcap
      go_wp2_with fail
      refine wp_region_held_drew (S := Below w0.heap.size w0) (by kernel_rfl) HS0.out (fun hS0' => ?_)
      have hS0 := Lib.hid hS0'
      clear hS0'
      refine anyH_take 0 (some 48) (.pointer (some ⟨p, 0, none⟩)) rfl rfl (by kernel_rfl) (by kernel_rfl) (by kernel_rfl) (fun _ _ _ h => h) rfl (fun _ _ => rfl) hS0.out ?_
      simp only [Act.put, List.setIfInBounds_toArray, List.set_cons_zero, List.set_cons_succ]
      refine anyH_take 1 (some 49) (.slice (some ⟨g, off, none⟩) l.length cap) rfl rfl (by kernel_rfl) (by kernel_rfl) (by kernel_rfl) (fun _ _ _ h => h) rfl (fun _ _ => rfl) hS0.out ?_
      simp only [Act.put, List.setIfInBounds_toArray, List.set_cons_zero, List.set_cons_succ]
      refine anyH_take 2 (some 50) (.int .i64 (k : Int)) rfl rfl (by kernel_rfl) (by kernel_rfl) (by kernel_rfl) (fun _ _ _ h => h) rfl (fun _ _ => rfl) hS0.out ?_
      simp only [Act.put, List.setIfInBounds_toArray, List.set_cons_zero, List.set_cons_succ]
      refine anyH_take 3 (some 51) (.pointer (some ⟨g, off + k * 3, none⟩)) rfl rfl (by kernel_rfl) (by kernel_rfl) (by kernel_rfl) (fun _ _ _ h => h) rfl (fun W _ => ex_index 29 (.tmp 49) (.tmp 50) rfl _ _ _ rfl rfl (IDX.out W)) hS0.out ?_
      simp only [Act.put, List.setIfInBounds_toArray, List.set_cons_zero, List.set_cons_succ]
      refine anyH_take 4 (some 52) (.agg #[.string ⟨x.1.toArray⟩, .int .i64 x.2.1, .int .i64 x.2.2]) rfl rfl (by kernel_rfl) (by kernel_rfl) (by kernel_rfl) (fun _ _ _ h => h) rfl (fun W hW => ex_load 35 (.tmp 51) rfl _ _ rfl (LD.out W hW)) hS0.out ?_
      simp only [Act.put, List.setIfInBounds_toArray, List.set_cons_zero, List.set_cons_succ]
      refine anyH_take 6 (some 54) (.pointer (some ⟨q, 0, none⟩)) rfl rfl (by kernel_rfl) (by kernel_rfl) (by kernel_rfl) (fun _ _ _ h => h) rfl (fun _ _ => rfl) hS0.out ?_
      simp only [Act.put, List.setIfInBounds_toArray, List.set_cons_zero, List.set_cons_succ]
      refine anyH_take 7 (some 55) (.slice (some ⟨g, off, none⟩) l.length cap) rfl rfl (by kernel_rfl) (by kernel_rfl) (by kernel_rfl) (fun _ _ _ h => h) rfl (fun _ _ => rfl) hS0.out ?_
      simp only [Act.put, List.setIfInBounds_toArray, List.set_cons_zero, List.set_cons_succ]
      refine anyH_take 8 (some 56) (.int .i64 (k : Int)) rfl rfl (by kernel_rfl) (by kernel_rfl) (by kernel_rfl) (fun _ _ _ h => h) rfl (fun _ _ => rfl) hS0.out ?_
      simp only [Act.put, List.setIfInBounds_toArray, List.set_cons_zero, List.set_cons_succ]
      refine anyH_take 9 (some 57) (.pointer (some ⟨g, off + k * 3, none⟩)) rfl rfl (by kernel_rfl) (by kernel_rfl) (by kernel_rfl) (fun _ _ _ h => h) rfl (fun W _ => ex_index 29 (.tmp 55) (.tmp 56) rfl _ _ _ rfl rfl (IDX.out W)) hS0.out ?_
      simp only [Act.put, List.setIfInBounds_toArray, List.set_cons_zero, List.set_cons_succ]
      refine anyH_take 10 (some 58) (.agg #[.string ⟨x.1.toArray⟩, .int .i64 x.2.1, .int .i64 x.2.2]) rfl rfl (by kernel_rfl) (by kernel_rfl) (by kernel_rfl) (fun _ _ _ h => h) rfl (fun W hW => ex_load 35 (.tmp 57) rfl _ _ rfl (LD.out W hW)) hS0.out ?_
      simp only [Act.put, List.setIfInBounds_toArray, List.set_cons_zero, List.set_cons_succ]
      refine anyH_one 5 (by kernel_rfl) rfl rfl (fun K hK => ?_)
      refine wp_calls (some 53) rfl 17 #[.pointer (some ⟨p, 0, none⟩), .agg #[.string ⟨x.1.toArray⟩, .int .i64 x.2.1, .int .i64 x.2.2]] (ex_call2 17 (.tmp 48) (.tmp 52) _ rfl _ _ rfl rfl (fun _ _ => rfl)) (.int .i64 E) (fun w' => Both w0 w' p b q n (k0 + 1) M lr) (BL.out) (fun W1 hR1 => hK _ _ (hR1.bel) ?_)
      clear hK K
      simp only [Act.put, List.setIfInBounds_toArray, List.set_cons_zero, List.set_cons_succ]
      have B1 := Lib.hid hR1
      clear hR1
      refine anyH_one 11 (by kernel_rfl) rfl rfl (fun K hK => ?_)
      refine wp_calls (some 59) rfl 22 #[.pointer (some ⟨q, 0, none⟩), .agg #[.string ⟨x.1.toArray⟩, .int .i64 x.2.1, .int .i64 x.2.2]] (ex_call2 22 (.tmp 54) (.tmp 58) _ rfl _ _ rfl rfl (fun _ _ => rfl)) (.int .i64 E) (fun w' => Both w0 w' p b q n (k0 + 2) M M) (BR.out _ B1.out) (fun W1 hR1 => hK _ _ (hR1.bel) ?_)
      clear hK K
      simp only [Act.put, List.setIfInBounds_toArray, List.set_cons_zero, List.set_cons_succ]
      have B2 := Lib.hid hR1
      clear hR1
      refine anyH_take 12 (some 60) (.bool false) rfl rfl (by kernel_rfl) (by kernel_rfl) (by kernel_rfl) (fun _ _ _ h => h) rfl (fun _ _ => ex_neqI _ _ _ _ _ E rfl rfl rfl) B2.out.bel ?_
      simp only [Act.put, List.setIfInBounds_toArray, List.set_cons_zero, List.set_cons_succ]
      refine wpAnyH_done (by kernel_rfl) ?_ _
      clear BL BR LD IDX B1 hS0 HS0
      go_wp2
      go_roundw
      case rel => exact ⟨k + 1, by go_num, by omega, by omega, Lib.hid ⟨k0 + 2, M, by have := HK.out; omega, B2.out⟩⟩
      case measure => simp [intOf]; omega
    · have hgo' : ¬ (k : Int) < (l.length : Int) ∨ (k : Int) < (l.length : Int) ∧ ¬ (k : Int) < 150 := by omega
      clear hgo HV
      rcases hgo' with hq | ⟨hq, hq2⟩
      all_goals
        go_wp2_with fail
        obtain ⟨rv, hrv⟩ := HB.out.ref
        have HS := Lib.hid (fun W (hW : Below wr.heap.size wr W) => b_seats (HB.out.below hW) (by have := HK.out; omega))
        have SM := Lib.hid (fun W (hW : Below wr.heap.size wr W) v' (h1 : Full W v' m) => same_any v' rv m W h1 (hrv.below hW).full (by have := HB.out.len; have := HK.out; omega))
        have HL := Lib.hid (fun W (hW : Below wr.heap.size wr W) => show (Instr.loadAt 29 (.pointer (some ⟨q, 1, none⟩))).run Try.prog W = .ok rv W from by
          have hc : W.cell? ⟨q, 1, none⟩ = some rv := (hrv.below hW).c1
          obtain ⟨_, _, rfl⟩ := hrv.full.len
          clear HS SM hrv
          go_simp)
        have BD : Hid (Below wr.heap.size wr wr.drew) := Lib.hid (Below.refl _ wr).drew
        clear hrv
        refine wp_region_held_drew (S := Below wr.heap.size wr) (by kernel_rfl) BD.out (fun _ => ?_)
        refine anyH_take 0 (some 63) (.pointer (some ⟨p, 0, none⟩)) rfl rfl (by kernel_rfl) (by kernel_rfl) (by kernel_rfl) (fun _ _ _ h => h) rfl (fun _ _ => rfl) BD.out ?_
        simp only [Act.put, List.setIfInBounds_toArray, List.set_cons_zero, List.set_cons_succ]
        refine anyH_take 1 (some 64) (.pointer (some ⟨q, 0, none⟩)) rfl rfl (by kernel_rfl) (by kernel_rfl) (by kernel_rfl) (fun _ _ _ h => h) rfl (fun _ _ => rfl) BD.out ?_
        simp only [Act.put, List.setIfInBounds_toArray, List.set_cons_zero, List.set_cons_succ]
        refine anyH_take 2 (some 65) (.pointer (some ⟨p, 0, none⟩)) rfl rfl (by kernel_rfl) (by kernel_rfl) (by kernel_rfl) (fun _ _ _ h => h) rfl (fun _ _ => rfl) BD.out ?_
        simp only [Act.put, List.setIfInBounds_toArray, List.set_cons_zero, List.set_cons_succ]
        refine anyH_take 3 (some 66) (.bool false) rfl rfl (by kernel_rfl) (by kernel_rfl) (by kernel_rfl) (fun _ _ _ h => h) rfl (fun _ _ => by kernel_rfl) BD.out ?_
        simp only [Act.put, List.setIfInBounds_toArray, List.set_cons_zero, List.set_cons_succ]
        refine anyH_take 4 (some 67) (.bool false) rfl rfl (by kernel_rfl) (by kernel_rfl) (by kernel_rfl) (fun _ _ _ h => h) rfl (fun _ _ => rfl) BD.out ?_
        simp only [Act.put, List.setIfInBounds_toArray, List.set_cons_zero, List.set_cons_succ]
        refine anyH_take 5 (some 68) (.pointer (some ⟨p, 0, none⟩)) rfl rfl (by kernel_rfl) (by kernel_rfl) (by kernel_rfl) (fun _ _ _ h => h) rfl (fun _ _ => rfl) BD.out ?_
        simp only [Act.put, List.setIfInBounds_toArray, List.set_cons_zero, List.set_cons_succ]
        refine anyH_take 7 (some 70) (.pointer (some ⟨q, 0, none⟩)) rfl rfl (by kernel_rfl) (by kernel_rfl) (by kernel_rfl) (fun _ _ _ h => h) rfl (fun _ _ => rfl) BD.out ?_
        simp only [Act.put, List.setIfInBounds_toArray, List.set_cons_zero, List.set_cons_succ]
        refine anyH_take 8 (some 71) (.pointer (some ⟨q, 0, none⟩)) rfl rfl (by kernel_rfl) (by kernel_rfl) (by kernel_rfl) (fun _ _ _ h => h) rfl (fun _ _ => ex_nilCheck (.tmp 70) rfl _ rfl) BD.out ?_
        simp only [Act.put, List.setIfInBounds_toArray, List.set_cons_zero, List.set_cons_succ]
        refine anyH_take 9 (some 72) (.pointer (some ⟨q, 1, none⟩)) rfl rfl (by kernel_rfl) (by kernel_rfl) (by kernel_rfl) (fun _ _ _ h => h) rfl (fun _ _ => by kernel_rfl) BD.out ?_
        simp only [Act.put, List.setIfInBounds_toArray, List.set_cons_zero, List.set_cons_succ]
        refine anyH_take 10 (some 73) (rv) rfl rfl (by kernel_rfl) (by kernel_rfl) (by kernel_rfl) (fun _ _ _ h => h) rfl (fun W hW => ex_load 29 (.tmp 72) rfl _ _ rfl (HL.out W hW)) BD.out ?_
        simp only [Act.put, List.setIfInBounds_toArray, List.set_cons_zero, List.set_cons_succ]
        refine anyH_oneG 6 (by kernel_rfl) rfl rfl (fun K hK => ?_)
        refine wp_callsX (some 69) rfl 19 _ (ex_call1 19 (.tmp 68) _ rfl _ rfl (fun _ _ => rfl)) (fun w' v' => ∃ ss, ss = m ∧ Mine wr.drew.heap.size w' v' ss ∧ Below wr.drew.heap.size wr.drew w') ((HS.out _ BD.out).mono fun e w' ⟨v', ss, h1, h2, h3, h4⟩ => ⟨v', h1, ss, h2, h3, h4⟩) (fun W1 sv hR1 => hK _ _ (by obtain ⟨_, _, _, hb⟩ := hR1; exact BD.out.trans (hb.mono BD.out.size)) ?_)
        clear hK K
        simp only [Act.put, List.setIfInBounds_toArray, List.set_cons_zero, List.set_cons_succ]
        obtain ⟨ss, hss, hmn, hb⟩ := hR1
        rw [hss] at hmn
        clear hss
        have BD2 := Lib.hid (BD.out.trans (hb.mono BD.out.size))
        have FU := Lib.hid hmn.full
        clear hmn hb
        refine anyH_oneG 11 (by kernel_rfl) rfl rfl (fun K hK => ?_)
        refine wp_calls (some 74) rfl 18 _ (ex_call2 18 (.tmp 69) (.tmp 73) _ rfl _ _ rfl rfl (fun _ _ => rfl)) (.bool true) (fun w' => Below wr.heap.size wr w') ((SM.out _ BD2.out _ FU.out).mono fun e w' h => ⟨h.1, BD2.out.trans (h.2.mono BD2.out.size)⟩) (fun W2 hR2 => hK _ _ hR2 ?_)
        clear hK K
        simp only [Act.put, List.setIfInBounds_toArray, List.set_cons_zero, List.set_cons_succ]
        have BD3 := Lib.hid hR2
        clear hR2
        refine anyH_take 12 (some 75) (.bool true) rfl rfl (by kernel_rfl) (by kernel_rfl) (by kernel_rfl) (fun _ _ _ h => h) rfl (fun _ _ => rfl) BD3.out ?_
        simp only [Act.put, List.setIfInBounds_toArray, List.set_cons_zero, List.set_cons_succ]
        refine anyH_take 13 (some 4) (.pointer (some ⟨p, 0, none⟩)) rfl rfl (by kernel_rfl) (by kernel_rfl) (by kernel_rfl) (fun _ _ _ h => h) rfl (fun _ _ => rfl) BD3.out ?_
        simp only [Act.put, List.setIfInBounds_toArray, List.set_cons_zero, List.set_cons_succ]
        refine anyH_take 14 (some 5) (.pointer (some ⟨q, 0, none⟩)) rfl rfl (by kernel_rfl) (by kernel_rfl) (by kernel_rfl) (fun _ _ _ h => h) rfl (fun _ _ => rfl) BD3.out ?_
        simp only [Act.put, List.setIfInBounds_toArray, List.set_cons_zero, List.set_cons_succ]
        refine anyH_take 15 (some 6) (.bool true) rfl rfl (by kernel_rfl) (by kernel_rfl) (by kernel_rfl) (fun _ _ _ h => h) rfl (fun _ _ => rfl) BD3.out ?_
        simp only [Act.put, List.setIfInBounds_toArray, List.set_cons_zero, List.set_cons_succ]
        refine wpAnyH_done (by kernel_rfl) ?_ _
        have HB3 := Lib.hid (HB.out.below BD3.out)
        clear BD BD2 BD3 HS SM HL FU HB
        go_wp2
        exact bodyPost_ret (v := .tuple #[.pointer (some ⟨p, 0, none⟩), .pointer (some ⟨q, 0, none⟩), .bool true]) (by simp [results, Try.results13, go_sem]) rfl (Or.inr ⟨HN.out, p, b, q, k0, m, rfl, by have := HK.out; omega, HB3.out⟩)
end Go.Proofs.Ytbmdhhafmieapaa
