/- Date: the document's Print, PrintShort. -/
import Derived.Test.YtkkmjadkagpihaaDoorJ11
import Derived.Test.YtkkmjadkagpihaaDoorJ12
namespace Go.Proofs.YtkkmjadkagpihaaDoor
open Go Go.RowKit

theorem refWeeks' (w : World) : Calls Tryd.prog 48 #[] w fun e w' => ∃ g, e = .returned (.slice (some ⟨g, 0, none⟩) 7 7) ∧ Bl w w' ∧ Names weeksL 7 g w' := (refWeeks w).mono fun _ _ h => ⟨_, h⟩
theorem refMonths' (w : World) : Calls Tryd.prog 50 #[] w fun e w' => ∃ g, e = .returned (.slice (some ⟨g, 0, none⟩) 12 12) ∧ Bl w w' ∧ Names monthsL 12 g w' := (refMonths w).mono fun _ _ h => ⟨_, h⟩
theorem dgs_two_low {d : Nat} (h : d < 10) : (⟨(dgs 2 d).toArray⟩ : ByteArray).extract 1 2 = ⟨(Lib.decDigits d).toArray⟩ := by
  rw [decDigits_low h, dgs2]; rfl
theorem dgs_two_high {d : Nat} (h : ¬ d < 10) (h2 : d < 100) : dgs 2 d = Lib.decDigits d := by
  rw [decDigits_high h, decDigits_low (by omega), dgs2]; rfl
theorem clk_split (o : Nat) (neg : Bool) (z : Nat) (X : List UInt8) : ((((X ++ [32]) ++ hmsL o) ++ [32]) ++ zonL neg z) = X ++ clkL o neg z := by
  cases neg <;> simp [clkL, hmsL, zonL]

structure Tl (o : Nat) (neg : Bool) (z : Nat) (X H Z X7 X8 X9 R : List UInt8) : Prop where
  hh : hmsL o = H
  zz : zonL neg z = Z
  x7 : ∀ w, (Op.stringOp .add ⟨X.toArray⟩ ⟨#[32]⟩).run Tryd.prog w = .ok (.string ⟨X7.toArray⟩) w
  x8 : ∀ w, (Op.stringOp .add ⟨X7.toArray⟩ ⟨H.toArray⟩).run Tryd.prog w = .ok (.string ⟨X8.toArray⟩) w
  x9 : ∀ w, (Op.stringOp .add ⟨X8.toArray⟩ ⟨#[32]⟩).run Tryd.prog w = .ok (.string ⟨X9.toArray⟩) w
  xr : ∀ w, (Op.stringOp .add ⟨X9.toArray⟩ ⟨Z.toArray⟩).run Tryd.prog w = .ok (.string ⟨R.toArray⟩) w
theorem tl_ex (o : Nat) (neg : Bool) (z : Nat) (X R : List UInt8) (hX : X.length ≤ 200) (hR : X ++ clkL o neg z = R) : ∃ H Z X7 X8 X9, Tl o neg z X H Z X7 X8 X9 R := by
  have l1 := hmsL_len o
  have l2 := zonL_len neg z
  refine ⟨_, _, _, _, _, ⟨rfl, rfl, add_to _ [32] _ rfl ?_, add_to _ _ _ rfl ?_, add_to _ [32] _ rfl ?_, add_to _ _ _ (by rw [← hR, clk_split]) ?_⟩⟩
  · simp only [List.length_append, List.length_cons, List.length_nil]; omega
  · simp only [List.length_append, List.length_cons, List.length_nil, l1]; omega
  · simp only [List.length_append, List.length_cons, List.length_nil, l1]; omega
  · rw [← hR, List.length_append, clkL_len]; omega

/-- The strings of the document's PrintShort, one by one. -/
structure Sh2 (D : List UInt8) (m y : Nat) (N2 Y X1 X2 X3 X4 : List UInt8) : Prop where
  n2 : nthL monthsL m = N2
  yy : dgs 4 y = Y
  x1 : ∀ w, (Op.stringOp .add ⟨D.toArray⟩ ⟨#[45]⟩).run Tryd.prog w = .ok (.string ⟨X1.toArray⟩) w
  x2 : ∀ w, (Op.stringOp .add ⟨X1.toArray⟩ ⟨N2.toArray⟩).run Tryd.prog w = .ok (.string ⟨X2.toArray⟩) w
  x3 : ∀ w, (Op.stringOp .add ⟨X2.toArray⟩ ⟨#[45]⟩).run Tryd.prog w = .ok (.string ⟨X3.toArray⟩) w
  x4 : ∀ w, (Op.stringOp .add ⟨X3.toArray⟩ ⟨Y.toArray⟩).run Tryd.prog w = .ok (.string ⟨X4.toArray⟩) w
theorem sh2_ex (D : List UInt8) (m y : Nat) (hD : D.length ≤ 3) (h2 : m < 12) : ∃ N2 Y X1 X2 X3 X4, Sh2 D m y N2 Y X1 X2 X3 X4 ∧ X4 = ((((D ++ [45]) ++ nthL monthsL m) ++ [45]) ++ dgs 4 y) ∧ X4.length ≤ 100 := by
  have l2 : (nthL monthsL m).length = 3 := nth_len (by show _ ≤ 36; omega)
  refine ⟨_, _, _, _, _, _, ⟨rfl, rfl, add_to _ [45] _ rfl ?_, add_to _ _ _ rfl ?_, add_to _ [45] _ rfl ?_, add_to _ _ _ rfl ?_⟩, rfl, ?_⟩
  all_goals
    simp only [List.length_append, dgs_len, l2, List.length_cons, List.length_nil]
    try omega

theorem refPrint_no (sec zone : Int) (w : World) (h : okT sec zone = false) (hs1 : -9223372036854775808 ≤ sec) (hs2 : sec ≤ 9223372036854775807) (hz1 : -9223372036854775808 ≤ zone) (hz2 : zone ≤ 9223372036854775807) :
    Calls Tryd.prog 25 #[timeV sec zone] w fun e w' => e = .returned (.tuple #[.string ⟨#[]⟩, .int .i64 2]) ∧ Below w.heap.size w w' := by
  have HT := Lib.hid (fun w => refThere_no sec zone w h hs1 hs2 hz1 hz2)
  clear h hs1 hs2 hz1 hz2
  unfold timeV at HT ⊢
  go_enter Tryd.func25, Tryd.ntmps25
  go_wp2_with fail
  refine (HT.out _).mono ?_
  rintro e w1 ⟨xa, xb, rfl, hb1⟩
  go_wp2
  go_ret2
  exact ⟨rfl, (bal (Below.refl _ _) _).trans (hb1.mono (by simp))⟩

set_option maxHeartbeats 2000000 in
set_option maxRecDepth 100000 in
theorem refPrint_yes (sec zone : Int) (y m d wk o : Nat) (w : World) (h : okT sec zone = true) (hr : rt y ((m : Int) + 1) d = true) (hn : num y ((m : Int) + 1) d = (sec + 60 * zone) / 86400) (hwk : (num y ((m : Int) + 1) d + 3) % 7 = (wk : Int)) (ho : (sec + 60 * zone) % 86400 = (o : Int)) :
    Calls Tryd.prog 25 #[timeV sec zone] w fun e w' => e = .returned (.tuple #[.string ⟨(printL wk d (m + 1) y o (decide (zone < 0)) zone.natAbs).toArray⟩, .int .i64 0]) ∧ Below w.heap.size w w' := by
  have HT := Lib.hid (fun w => refThere_yes sec zone w h)
  have HC := Lib.hid (fun w => refCivil_yes y ((m : Int) + 1) d w hr)
  have hin := num_in hr
  rw [rt_iff] at hr
  have hdm := dim_bd y ((m : Int) + 1)
  rw [okT_iff] at h
  have hz1 : -1439 ≤ zone := h.1
  have hz2 : zone ≤ 1439 := h.2.1
  have ho' : o < 86400 := by omega
  have hwk' : wk < 7 := by omega
  have hm12 : m < 12 := by omega
  have hd31 : d ≤ 31 := by omega
  have hwki : (wk : Int) < 7 := by omega
  have hmi : (m : Int) < 12 := by omega
  have hy4 : y ≤ 9999 := by omega
  obtain ⟨N1, N2, D, Y, X1, X2, X3, X4, X5, X6, KP, hX6, hXl⟩ := prt_ex wk d (m + 1) y hwk' hd31 (by omega) (by omega)
  obtain ⟨R, hR⟩ : ∃ R, printL wk d (m + 1) y o (decide (zone < 0)) zone.natAbs = R := ⟨_, rfl⟩
  obtain ⟨H, Z, X7, X8, X9, KT⟩ := tl_ex o (decide (zone < 0)) zone.natAbs X6 R (by omega) (by rw [← hR, printL, hX6])
  have HWk := Lib.hid (fun (w : World) => refWeek (num y ((m : Int) + 1) d) w (by omega) (by omega))
  rw [hwk, hn] at HWk
  have x1 := KP.x1; have x2 := KP.x2; have x3 := KP.x3; have x4 := KP.x4; have x5 := KP.x5; have x6 := KP.x6
  have x7 := KT.x7; have x8 := KT.x8; have x9 := KT.x9; have xr := KT.xr
  rw [hR]
  rw [hn] at HC
  rw [ho] at HT
  have hDD := Lib.hid KP.dd
  clear hX6 hXl hR
  clear hn ho hwk hin hdm h hr
  unfold timeV at HT ⊢
  unfold dayV at HC
  generalize (sec + 60 * zone) / 86400 = dn at *
  have hW : ∀ w1 : World, Below (w.alloc (.cells #[.int .i64 sec, .int .i64 zone] 35)).heap.size (w.alloc (.cells #[.int .i64 sec, .int .i64 zone] 35)) w1 → w1.cell? ⟨w.heap.size, 1, none⟩ = some (.int .i64 zone) := fun w1 hb => (hb.cell (by simp)).trans (World.cell?_alloc_mark _ _ _ _ _)
  have HW := Lib.hid hW
  have hB0 : Below w.heap.size w (w.alloc (.cells #[.int .i64 sec, .int .i64 zone] 35)) := bal (Below.refl _ _) _
  have HB0 := Lib.hid hB0
  clear hW hB0
  go_enter Tryd.func25, Tryd.ntmps25
  go_wp2_with fail
  refine (HT.out _).mono ?_
  rintro e w1 ⟨rfl, hb1⟩
  go_wp2_with fail
  refine (HC.out _).mono ?_
  rintro e w2 ⟨rfl, hb2⟩
  have hb3 := hb1.trans (hb2.mono hb1.size)
  obtain ⟨W1, hW1⟩ : ∃ W1, w2.alloc (.cells #[.int .i64 (y : Int), .int .i64 ((m : Int) + 1), .int .i64 (d : Int)] 23) = W1 := ⟨_, rfl⟩
  have hb4 : Below (w.alloc (.cells #[.int .i64 sec, .int .i64 zone] 35)).heap.size (w.alloc (.cells #[.int .i64 sec, .int .i64 zone] 35)) W1 := by rw [← hW1]; exact bal hb3 _
  have hz : w2.heap.size < W1.heap.size := by rw [← hW1]; simp
  have KC1 : ∀ wx, Below W1.heap.size W1 wx → wx.cell? ⟨w2.heap.size, 0, none⟩ = some (.int .i64 (y : Int)) ∧ wx.cell? ⟨w2.heap.size, 1, none⟩ = some (.int .i64 ((m : Int) + 1)) ∧ wx.cell? ⟨w2.heap.size, 2, none⟩ = some (.int .i64 (d : Int)) := fun wx hb => by
    refine ⟨(hb.cell hz).trans ?_, (hb.cell hz).trans ?_, (hb.cell hz).trans ?_⟩ <;> rw [← hW1] <;> exact World.cell?_alloc_mark _ _ _ _ _
  have HW1 := Lib.hid hW1
  have HKC1 := Lib.hid KC1
  obtain ⟨k10, k11, k12⟩ := KC1 W1 (Below.refl _ _)
  clear hW1 hz KC1 k10 k11
  go_wp2_with fail
  rw [HW1.out]
  refine (refDigits_of _ d 2 (by omega) _ rfl _ (by omega) (by omega) _ rfl).mono ?_
  rintro e W0 ⟨rfl, hb5⟩
  have KC : ∀ wx, Bl W0 wx → wx.cell? ⟨w2.heap.size, 0, none⟩ = some (.int .i64 (y : Int)) ∧ wx.cell? ⟨w2.heap.size, 1, none⟩ = some (.int .i64 ((m : Int) + 1)) ∧ wx.cell? ⟨w.heap.size, 1, none⟩ = some (.int .i64 zone) := fun wx hb => by
    have hq : Below W1.heap.size W1 wx := hb5.trans (hb.mono hb5.size)
    exact ⟨(HKC1.out wx hq).1, (HKC1.out wx hq).2.1, HW.out wx (hb4.trans (hq.mono hb4.size))⟩
  obtain ⟨q0, q1, q2⟩ := HKC1.out W0 hb5
  have hb6 := hb4.trans (hb5.mono hb4.size)
  have hwr1 : IntKind.i64.wrap ((m : Int) + 1 - 1) = (m : Int) := by rw [IntWalk.i64_in _ (by omega)]; omega
  have hwr2 : IntKind.i64.wrap (m : Int) = (m : Int) := IntWalk.i64_in _ (by omega)
  have hFin := Lib.hid (fun wx (hb : Bl W0 wx) => HB0.out.trans ((hb6.trans (Below.mono hb hb6.size)).mono HB0.out.size))
  clear q0 q1 k12 hb6
  by_cases h10 : d < 10
  · have hE := Lib.hid (dgs_two_low h10)
    rw [hDD.out] at hE
    have hs2 : (⟨(dgs 2 d).toArray⟩ : ByteArray).size = 2 := by rw [size_mk, dgs_len]
    generalize (⟨(dgs 2 d).toArray⟩ : ByteArray) = D2 at *
    go_wp2_with fail
    rw [hE.out]
    refine wp_held_bl (by kernel_rfl) (fun hS => ?_)
    generalize (W0).drew = wq0 at hS ⊢
    have bl0 := hS
    refine wpAnyH_bl hS _ _ _ _ ?_
    clear hS
    have hS := bl_refl wq0
    refine hh_take 1 (some 32) ?_ rfl rfl (by kernel_rfl) (by kernel_rfl) (by kernel_rfl) (fun _ _ _ h => h) (by rfl) ?_ hS ?_
    rotate_left
    · intro W hW; (try go_simp); (try with_reducible rfl)
    try simp only [Act.put, List.setIfInBounds_toArray, List.set_cons_zero, List.set_cons_succ]
    refine hh_take 6 (some 37) ?_ rfl rfl (by kernel_rfl) (by kernel_rfl) (by kernel_rfl) (fun _ _ _ h => h) (by rfl) ?_ hS ?_
    rotate_left
    · intro W hW; (try go_simp); (try with_reducible rfl)
    try simp only [Act.put, List.setIfInBounds_toArray, List.set_cons_zero, List.set_cons_succ]
    refine hh_take 10 (some 41) ?_ rfl rfl (by kernel_rfl) (by kernel_rfl) (by kernel_rfl) (fun _ _ _ h => h) (by rfl) ?_ hS ?_
    rotate_left
    · intro W hW; (try go_simp); (try with_reducible rfl)
    try simp only [Act.put, List.setIfInBounds_toArray, List.set_cons_zero, List.set_cons_succ]
    refine hh_take 11 (some 42) ?_ rfl rfl (by kernel_rfl) (by kernel_rfl) (by kernel_rfl) (fun _ _ _ h => h) (by rfl) ?_ hS ?_
    rotate_left
    · intro W hW; have _k0 := KC W (bl0.trans hW);(try go_simp); (try with_reducible rfl)
    try simp only [Act.put, List.setIfInBounds_toArray, List.set_cons_zero, List.set_cons_succ]
    refine hh_take 12 (some 43) ?_ rfl rfl (by kernel_rfl) (by kernel_rfl) (by kernel_rfl) (fun _ _ _ h => h) (by rfl) ?_ hS ?_
    rotate_left
    · intro W hW; (try go_simp); (try with_reducible rfl)
    try simp only [Act.put, List.setIfInBounds_toArray, List.set_cons_zero, List.set_cons_succ]
    refine hh_take 17 (some 48) ?_ rfl rfl (by kernel_rfl) (by kernel_rfl) (by kernel_rfl) (fun _ _ _ h => h) (by rfl) ?_ hS ?_
    rotate_left
    · intro W hW; (try go_simp); (try with_reducible rfl)
    try simp only [Act.put, List.setIfInBounds_toArray, List.set_cons_zero, List.set_cons_succ]
    refine hh_take 18 (some 49) ?_ rfl rfl (by kernel_rfl) (by kernel_rfl) (by kernel_rfl) (fun _ _ _ h => h) (by rfl) ?_ hS ?_
    rotate_left
    · intro W hW; have _k0 := KC W (bl0.trans hW);(try go_simp); (try with_reducible rfl)
    try simp only [Act.put, List.setIfInBounds_toArray, List.set_cons_zero, List.set_cons_succ]
    refine hh_take 22 (some 53) ?_ rfl rfl (by kernel_rfl) (by kernel_rfl) (by kernel_rfl) (fun _ _ _ h => h) (by rfl) ?_ hS ?_
    rotate_left
    · intro W hW; (try go_simp); (try with_reducible rfl)
    try simp only [Act.put, List.setIfInBounds_toArray, List.set_cons_zero, List.set_cons_succ]
    refine hh_take 26 (some 57) ?_ rfl rfl (by kernel_rfl) (by kernel_rfl) (by kernel_rfl) (fun _ _ _ h => h) (by rfl) ?_ hS ?_
    rotate_left
    · intro W hW; (try go_simp); (try with_reducible rfl)
    try simp only [Act.put, List.setIfInBounds_toArray, List.set_cons_zero, List.set_cons_succ]
    refine hh_take 27 (some 58) ?_ rfl rfl (by kernel_rfl) (by kernel_rfl) (by kernel_rfl) (fun _ _ _ h => h) (by rfl) ?_ hS ?_
    rotate_left
    · intro W hW; have _k0 := KC W (bl0.trans hW);(try go_simp); (try with_reducible rfl)
    try simp only [Act.put, List.setIfInBounds_toArray, List.set_cons_zero, List.set_cons_succ]
    refine hh_one 0 (by kernel_rfl) rfl rfl (fun K hK => ?_)
    go_simp
    refine (refWeeks' _).mono ?_
    rintro e wq1 ⟨g1, rfl, hq1, hn1⟩
    refine hK _ _ hq1 ?_
    clear hK K
    try simp only [Act.put, List.setIfInBounds_toArray, List.set_cons_zero, List.set_cons_succ]
    refine wpAnyH_bl hq1 _ _ _ _ ?_
    clear hS
    have hS := bl_refl wq1
    have bl0_1 := bl0.trans hq1
    have KW : ∀ wx, Bl wq1 wx → wx.cell? ⟨g1, wk, none⟩ = some (.string ⟨N1.toArray⟩) := fun wx h => by rw [(hn1.below h).2 wk hwk', KP.n1]
    clear hn1
    have bl1x : Bl wq1 wq1 := bl_refl _
    refine hh_one 2 (by kernel_rfl) rfl rfl (fun K hK => ?_)
    go_simp
    refine (HWk.out _).mono ?_
    rintro e wq2 ⟨rfl, hsame⟩
    have hq2 : Bl wq1 wq2 := by rw [hsame]; exact bl_refl _
    clear hsame
    refine hK _ _ hq2 ?_
    clear hK K
    try simp only [Act.put, List.setIfInBounds_toArray, List.set_cons_zero, List.set_cons_succ]
    refine wpAnyH_bl hq2 _ _ _ _ ?_
    clear hS
    have hS := bl_refl wq2
    have bl0_2 := bl0_1.trans hq2
    have bl1x_2 := bl1x.trans hq2
    refine hh_take 3 (some 34) ?_ rfl rfl (by kernel_rfl) (by kernel_rfl) (by kernel_rfl) (fun _ _ _ h => h) (by rfl) ?_ hS ?_
    rotate_left
    · intro W hW; (try go_simp); (try with_reducible rfl)
    try simp only [Act.put, List.setIfInBounds_toArray, List.set_cons_zero, List.set_cons_succ]
    refine hh_take 4 (some 35) ?_ rfl rfl (by kernel_rfl) (by kernel_rfl) (by kernel_rfl) (fun _ _ _ h => h) (by rfl) ?_ hS ?_
    rotate_left
    · intro W hW; have _k0 := KC W (bl0_2.trans hW); have _k1 := KW W (bl1x_2.trans hW);(try go_simp); (try with_reducible rfl)
    try simp only [Act.put, List.setIfInBounds_toArray, List.set_cons_zero, List.set_cons_succ]
    refine hh_take 5 (some 36) ?_ rfl rfl (by kernel_rfl) (by kernel_rfl) (by kernel_rfl) (fun _ _ _ h => h) (by rfl) ?_ hS ?_
    rotate_left
    · intro W hW; (try go_simp); (try with_reducible rfl)
    try simp only [Act.put, List.setIfInBounds_toArray, List.set_cons_zero, List.set_cons_succ]
    refine hh_take 7 (some 38) ?_ rfl rfl (by kernel_rfl) (by kernel_rfl) (by kernel_rfl) (fun _ _ _ h => h) (by rfl) ?_ hS ?_
    rotate_left
    · intro W hW; (try go_simp); (try with_reducible rfl)
    try simp only [Act.put, List.setIfInBounds_toArray, List.set_cons_zero, List.set_cons_succ]
    refine hh_take 8 (some 39) ?_ rfl rfl (by kernel_rfl) (by kernel_rfl) (by kernel_rfl) (fun _ _ _ h => h) (by rfl) ?_ hS ?_
    rotate_left
    · intro W hW; (try go_simp); (try with_reducible rfl)
    try simp only [Act.put, List.setIfInBounds_toArray, List.set_cons_zero, List.set_cons_succ]
    refine hh_one 9 (by kernel_rfl) rfl rfl (fun K hK => ?_)
    go_simp
    refine (refMonths' _).mono ?_
    rintro e wq3 ⟨g2, rfl, hq3, hn2⟩
    refine hK _ _ hq3 ?_
    clear hK K
    try simp only [Act.put, List.setIfInBounds_toArray, List.set_cons_zero, List.set_cons_succ]
    refine wpAnyH_bl hq3 _ _ _ _ ?_
    clear hS
    have hS := bl_refl wq3
    have bl0_3 := bl0_2.trans hq3
    have bl1x_3 := bl1x_2.trans hq3
    have KM : ∀ wx, Bl wq3 wx → wx.cell? ⟨g2, m, none⟩ = some (.string ⟨N2.toArray⟩) := fun wx h => by rw [(hn2.below h).2 m hm12]; have := KP.n2; rw [Nat.add_sub_cancel] at this; rw [this]
    clear hn2
    have bl3x : Bl wq3 wq3 := bl_refl _
    refine hh_take 13 (some 44) ?_ rfl rfl (by kernel_rfl) (by kernel_rfl) (by kernel_rfl) (fun _ _ _ h => h) (by rfl) ?_ hS ?_
    rotate_left
    · intro W hW; (try go_simp); (try with_reducible rfl)
    try simp only [Act.put, List.setIfInBounds_toArray, List.set_cons_zero, List.set_cons_succ]
    refine hh_take 14 (some 45) ?_ rfl rfl (by kernel_rfl) (by kernel_rfl) (by kernel_rfl) (fun _ _ _ h => h) (by rfl) ?_ hS ?_
    rotate_left
    · intro W hW; have _k0 := KC W (bl0_3.trans hW); have _k1 := KW W (bl1x_3.trans hW); have _k2 := KM W (bl3x.trans hW);(try go_simp); (try with_reducible rfl)
    try simp only [Act.put, List.setIfInBounds_toArray, List.set_cons_zero, List.set_cons_succ]
    refine hh_take 15 (some 46) ?_ rfl rfl (by kernel_rfl) (by kernel_rfl) (by kernel_rfl) (fun _ _ _ h => h) (by rfl) ?_ hS ?_
    rotate_left
    · intro W hW; (try go_simp); (try with_reducible rfl)
    try simp only [Act.put, List.setIfInBounds_toArray, List.set_cons_zero, List.set_cons_succ]
    refine hh_take 16 (some 47) ?_ rfl rfl (by kernel_rfl) (by kernel_rfl) (by kernel_rfl) (fun _ _ _ h => h) (by rfl) ?_ hS ?_
    rotate_left
    · intro W hW; (try go_simp); (try with_reducible rfl)
    try simp only [Act.put, List.setIfInBounds_toArray, List.set_cons_zero, List.set_cons_succ]
    refine hh_one 19 (by kernel_rfl) rfl rfl (fun K hK => ?_)
    go_simp
    refine (refDigits_of _ y 4 rfl Y KP.yy _ (by omega) (by omega) _ rfl).mono ?_
    rintro e wq4 ⟨rfl, hq4⟩
    refine hK _ _ hq4 ?_
    clear hK K
    try simp only [Act.put, List.setIfInBounds_toArray, List.set_cons_zero, List.set_cons_succ]
    refine wpAnyH_bl hq4 _ _ _ _ ?_
    clear hS
    have hS := bl_refl wq4
    have bl0_4 := bl0_3.trans hq4
    have bl1x_4 := bl1x_3.trans hq4
    have bl3x_4 := bl3x.trans hq4
    refine hh_take 20 (some 51) ?_ rfl rfl (by kernel_rfl) (by kernel_rfl) (by kernel_rfl) (fun _ _ _ h => h) (by rfl) ?_ hS ?_
    rotate_left
    · intro W hW; (try go_simp); (try with_reducible rfl)
    try simp only [Act.put, List.setIfInBounds_toArray, List.set_cons_zero, List.set_cons_succ]
    refine hh_take 21 (some 52) ?_ rfl rfl (by kernel_rfl) (by kernel_rfl) (by kernel_rfl) (fun _ _ _ h => h) (by rfl) ?_ hS ?_
    rotate_left
    · intro W hW; (try go_simp); (try with_reducible rfl)
    try simp only [Act.put, List.setIfInBounds_toArray, List.set_cons_zero, List.set_cons_succ]
    refine hh_one 23 (by kernel_rfl) rfl rfl (fun K hK => ?_)
    go_simp
    refine (refHms o _ ho' H KT.hh).mono ?_
    rintro e wq5 ⟨rfl, hq5⟩
    refine hK _ _ hq5 ?_
    clear hK K
    try simp only [Act.put, List.setIfInBounds_toArray, List.set_cons_zero, List.set_cons_succ]
    refine wpAnyH_bl hq5 _ _ _ _ ?_
    clear hS
    have hS := bl_refl wq5
    have bl0_5 := bl0_4.trans hq5
    have bl1x_5 := bl1x_4.trans hq5
    have bl3x_5 := bl3x_4.trans hq5
    refine hh_take 24 (some 55) ?_ rfl rfl (by kernel_rfl) (by kernel_rfl) (by kernel_rfl) (fun _ _ _ h => h) (by rfl) ?_ hS ?_
    rotate_left
    · intro W hW; (try go_simp); (try with_reducible rfl)
    try simp only [Act.put, List.setIfInBounds_toArray, List.set_cons_zero, List.set_cons_succ]
    refine hh_take 25 (some 56) ?_ rfl rfl (by kernel_rfl) (by kernel_rfl) (by kernel_rfl) (fun _ _ _ h => h) (by rfl) ?_ hS ?_
    rotate_left
    · intro W hW; (try go_simp); (try with_reducible rfl)
    try simp only [Act.put, List.setIfInBounds_toArray, List.set_cons_zero, List.set_cons_succ]
    refine hh_one 28 (by kernel_rfl) rfl rfl (fun K hK => ?_)
    go_simp
    refine (refZone zone _ hz1 hz2 Z KT.zz).mono ?_
    rintro e wq6 ⟨rfl, hq6⟩
    refine hK _ _ hq6 ?_
    clear hK K
    try simp only [Act.put, List.setIfInBounds_toArray, List.set_cons_zero, List.set_cons_succ]
    refine wpAnyH_bl hq6 _ _ _ _ ?_
    clear hS
    have hS := bl_refl wq6
    have bl0_6 := bl0_5.trans hq6
    have bl1x_6 := bl1x_5.trans hq6
    have bl3x_6 := bl3x_5.trans hq6
    refine hh_take 29 (some 60) ?_ rfl rfl (by kernel_rfl) (by kernel_rfl) (by kernel_rfl) (fun _ _ _ h => h) (by rfl) ?_ hS ?_
    rotate_left
    · intro W hW; (try go_simp); (try with_reducible rfl)
    try simp only [Act.put, List.setIfInBounds_toArray, List.set_cons_zero, List.set_cons_succ]
    refine hh_take 30 (some 2) ?_ rfl rfl (by kernel_rfl) (by kernel_rfl) (by kernel_rfl) (fun _ _ _ h => h) (by rfl) ?_ hS ?_
    rotate_left
    · intro W hW; (try go_simp); (try with_reducible rfl)
    try simp only [Act.put, List.setIfInBounds_toArray, List.set_cons_zero, List.set_cons_succ]
    refine hh_take 31 (some 3) ?_ rfl rfl (by kernel_rfl) (by kernel_rfl) (by kernel_rfl) (fun _ _ _ h => h) (by rfl) ?_ hS ?_
    rotate_left
    · intro W hW; (try go_simp); (try with_reducible rfl)
    try simp only [Act.put, List.setIfInBounds_toArray, List.set_cons_zero, List.set_cons_succ]
    refine wpAnyH_done (by kernel_rfl) ?_ _
    go_wp2
    go_ret2
    exact ⟨rfl, hFin.out _ bl0_6⟩
  · have hE := Lib.hid (dgs_two_high h10 (by omega))
    rw [hDD.out] at hE
    rw [hE.out]
    go_wp2_with fail
    refine wp_held_bl (by kernel_rfl) (fun hS => ?_)
    generalize (W0).drew = wq0 at hS ⊢
    have bl0 := hS
    refine wpAnyH_bl hS _ _ _ _ ?_
    clear hS
    have hS := bl_refl wq0
    refine hh_take 1 (some 32) ?_ rfl rfl (by kernel_rfl) (by kernel_rfl) (by kernel_rfl) (fun _ _ _ h => h) (by rfl) ?_ hS ?_
    rotate_left
    · intro W hW; (try go_simp); (try with_reducible rfl)
    try simp only [Act.put, List.setIfInBounds_toArray, List.set_cons_zero, List.set_cons_succ]
    refine hh_take 6 (some 37) ?_ rfl rfl (by kernel_rfl) (by kernel_rfl) (by kernel_rfl) (fun _ _ _ h => h) (by rfl) ?_ hS ?_
    rotate_left
    · intro W hW; (try go_simp); (try with_reducible rfl)
    try simp only [Act.put, List.setIfInBounds_toArray, List.set_cons_zero, List.set_cons_succ]
    refine hh_take 10 (some 41) ?_ rfl rfl (by kernel_rfl) (by kernel_rfl) (by kernel_rfl) (fun _ _ _ h => h) (by rfl) ?_ hS ?_
    rotate_left
    · intro W hW; (try go_simp); (try with_reducible rfl)
    try simp only [Act.put, List.setIfInBounds_toArray, List.set_cons_zero, List.set_cons_succ]
    refine hh_take 11 (some 42) ?_ rfl rfl (by kernel_rfl) (by kernel_rfl) (by kernel_rfl) (fun _ _ _ h => h) (by rfl) ?_ hS ?_
    rotate_left
    · intro W hW; have _k0 := KC W (bl0.trans hW);(try go_simp); (try with_reducible rfl)
    try simp only [Act.put, List.setIfInBounds_toArray, List.set_cons_zero, List.set_cons_succ]
    refine hh_take 12 (some 43) ?_ rfl rfl (by kernel_rfl) (by kernel_rfl) (by kernel_rfl) (fun _ _ _ h => h) (by rfl) ?_ hS ?_
    rotate_left
    · intro W hW; (try go_simp); (try with_reducible rfl)
    try simp only [Act.put, List.setIfInBounds_toArray, List.set_cons_zero, List.set_cons_succ]
    refine hh_take 17 (some 48) ?_ rfl rfl (by kernel_rfl) (by kernel_rfl) (by kernel_rfl) (fun _ _ _ h => h) (by rfl) ?_ hS ?_
    rotate_left
    · intro W hW; (try go_simp); (try with_reducible rfl)
    try simp only [Act.put, List.setIfInBounds_toArray, List.set_cons_zero, List.set_cons_succ]
    refine hh_take 18 (some 49) ?_ rfl rfl (by kernel_rfl) (by kernel_rfl) (by kernel_rfl) (fun _ _ _ h => h) (by rfl) ?_ hS ?_
    rotate_left
    · intro W hW; have _k0 := KC W (bl0.trans hW);(try go_simp); (try with_reducible rfl)
    try simp only [Act.put, List.setIfInBounds_toArray, List.set_cons_zero, List.set_cons_succ]
    refine hh_take 22 (some 53) ?_ rfl rfl (by kernel_rfl) (by kernel_rfl) (by kernel_rfl) (fun _ _ _ h => h) (by rfl) ?_ hS ?_
    rotate_left
    · intro W hW; (try go_simp); (try with_reducible rfl)
    try simp only [Act.put, List.setIfInBounds_toArray, List.set_cons_zero, List.set_cons_succ]
    refine hh_take 26 (some 57) ?_ rfl rfl (by kernel_rfl) (by kernel_rfl) (by kernel_rfl) (fun _ _ _ h => h) (by rfl) ?_ hS ?_
    rotate_left
    · intro W hW; (try go_simp); (try with_reducible rfl)
    try simp only [Act.put, List.setIfInBounds_toArray, List.set_cons_zero, List.set_cons_succ]
    refine hh_take 27 (some 58) ?_ rfl rfl (by kernel_rfl) (by kernel_rfl) (by kernel_rfl) (fun _ _ _ h => h) (by rfl) ?_ hS ?_
    rotate_left
    · intro W hW; have _k0 := KC W (bl0.trans hW);(try go_simp); (try with_reducible rfl)
    try simp only [Act.put, List.setIfInBounds_toArray, List.set_cons_zero, List.set_cons_succ]
    refine hh_one 0 (by kernel_rfl) rfl rfl (fun K hK => ?_)
    go_simp
    refine (refWeeks' _).mono ?_
    rintro e wq1 ⟨g1, rfl, hq1, hn1⟩
    refine hK _ _ hq1 ?_
    clear hK K
    try simp only [Act.put, List.setIfInBounds_toArray, List.set_cons_zero, List.set_cons_succ]
    refine wpAnyH_bl hq1 _ _ _ _ ?_
    clear hS
    have hS := bl_refl wq1
    have bl0_1 := bl0.trans hq1
    have KW : ∀ wx, Bl wq1 wx → wx.cell? ⟨g1, wk, none⟩ = some (.string ⟨N1.toArray⟩) := fun wx h => by rw [(hn1.below h).2 wk hwk', KP.n1]
    clear hn1
    have bl1x : Bl wq1 wq1 := bl_refl _
    refine hh_one 2 (by kernel_rfl) rfl rfl (fun K hK => ?_)
    go_simp
    refine (HWk.out _).mono ?_
    rintro e wq2 ⟨rfl, hsame⟩
    have hq2 : Bl wq1 wq2 := by rw [hsame]; exact bl_refl _
    clear hsame
    refine hK _ _ hq2 ?_
    clear hK K
    try simp only [Act.put, List.setIfInBounds_toArray, List.set_cons_zero, List.set_cons_succ]
    refine wpAnyH_bl hq2 _ _ _ _ ?_
    clear hS
    have hS := bl_refl wq2
    have bl0_2 := bl0_1.trans hq2
    have bl1x_2 := bl1x.trans hq2
    refine hh_take 3 (some 34) ?_ rfl rfl (by kernel_rfl) (by kernel_rfl) (by kernel_rfl) (fun _ _ _ h => h) (by rfl) ?_ hS ?_
    rotate_left
    · intro W hW; (try go_simp); (try with_reducible rfl)
    try simp only [Act.put, List.setIfInBounds_toArray, List.set_cons_zero, List.set_cons_succ]
    refine hh_take 4 (some 35) ?_ rfl rfl (by kernel_rfl) (by kernel_rfl) (by kernel_rfl) (fun _ _ _ h => h) (by rfl) ?_ hS ?_
    rotate_left
    · intro W hW; have _k0 := KC W (bl0_2.trans hW); have _k1 := KW W (bl1x_2.trans hW);(try go_simp); (try with_reducible rfl)
    try simp only [Act.put, List.setIfInBounds_toArray, List.set_cons_zero, List.set_cons_succ]
    refine hh_take 5 (some 36) ?_ rfl rfl (by kernel_rfl) (by kernel_rfl) (by kernel_rfl) (fun _ _ _ h => h) (by rfl) ?_ hS ?_
    rotate_left
    · intro W hW; (try go_simp); (try with_reducible rfl)
    try simp only [Act.put, List.setIfInBounds_toArray, List.set_cons_zero, List.set_cons_succ]
    refine hh_take 7 (some 38) ?_ rfl rfl (by kernel_rfl) (by kernel_rfl) (by kernel_rfl) (fun _ _ _ h => h) (by rfl) ?_ hS ?_
    rotate_left
    · intro W hW; (try go_simp); (try with_reducible rfl)
    try simp only [Act.put, List.setIfInBounds_toArray, List.set_cons_zero, List.set_cons_succ]
    refine hh_take 8 (some 39) ?_ rfl rfl (by kernel_rfl) (by kernel_rfl) (by kernel_rfl) (fun _ _ _ h => h) (by rfl) ?_ hS ?_
    rotate_left
    · intro W hW; (try go_simp); (try with_reducible rfl)
    try simp only [Act.put, List.setIfInBounds_toArray, List.set_cons_zero, List.set_cons_succ]
    refine hh_one 9 (by kernel_rfl) rfl rfl (fun K hK => ?_)
    go_simp
    refine (refMonths' _).mono ?_
    rintro e wq3 ⟨g2, rfl, hq3, hn2⟩
    refine hK _ _ hq3 ?_
    clear hK K
    try simp only [Act.put, List.setIfInBounds_toArray, List.set_cons_zero, List.set_cons_succ]
    refine wpAnyH_bl hq3 _ _ _ _ ?_
    clear hS
    have hS := bl_refl wq3
    have bl0_3 := bl0_2.trans hq3
    have bl1x_3 := bl1x_2.trans hq3
    have KM : ∀ wx, Bl wq3 wx → wx.cell? ⟨g2, m, none⟩ = some (.string ⟨N2.toArray⟩) := fun wx h => by rw [(hn2.below h).2 m hm12]; have := KP.n2; rw [Nat.add_sub_cancel] at this; rw [this]
    clear hn2
    have bl3x : Bl wq3 wq3 := bl_refl _
    refine hh_take 13 (some 44) ?_ rfl rfl (by kernel_rfl) (by kernel_rfl) (by kernel_rfl) (fun _ _ _ h => h) (by rfl) ?_ hS ?_
    rotate_left
    · intro W hW; (try go_simp); (try with_reducible rfl)
    try simp only [Act.put, List.setIfInBounds_toArray, List.set_cons_zero, List.set_cons_succ]
    refine hh_take 14 (some 45) ?_ rfl rfl (by kernel_rfl) (by kernel_rfl) (by kernel_rfl) (fun _ _ _ h => h) (by rfl) ?_ hS ?_
    rotate_left
    · intro W hW; have _k0 := KC W (bl0_3.trans hW); have _k1 := KW W (bl1x_3.trans hW); have _k2 := KM W (bl3x.trans hW);(try go_simp); (try with_reducible rfl)
    try simp only [Act.put, List.setIfInBounds_toArray, List.set_cons_zero, List.set_cons_succ]
    refine hh_take 15 (some 46) ?_ rfl rfl (by kernel_rfl) (by kernel_rfl) (by kernel_rfl) (fun _ _ _ h => h) (by rfl) ?_ hS ?_
    rotate_left
    · intro W hW; (try go_simp); (try with_reducible rfl)
    try simp only [Act.put, List.setIfInBounds_toArray, List.set_cons_zero, List.set_cons_succ]
    refine hh_take 16 (some 47) ?_ rfl rfl (by kernel_rfl) (by kernel_rfl) (by kernel_rfl) (fun _ _ _ h => h) (by rfl) ?_ hS ?_
    rotate_left
    · intro W hW; (try go_simp); (try with_reducible rfl)
    try simp only [Act.put, List.setIfInBounds_toArray, List.set_cons_zero, List.set_cons_succ]
    refine hh_one 19 (by kernel_rfl) rfl rfl (fun K hK => ?_)
    go_simp
    refine (refDigits_of _ y 4 rfl Y KP.yy _ (by omega) (by omega) _ rfl).mono ?_
    rintro e wq4 ⟨rfl, hq4⟩
    refine hK _ _ hq4 ?_
    clear hK K
    try simp only [Act.put, List.setIfInBounds_toArray, List.set_cons_zero, List.set_cons_succ]
    refine wpAnyH_bl hq4 _ _ _ _ ?_
    clear hS
    have hS := bl_refl wq4
    have bl0_4 := bl0_3.trans hq4
    have bl1x_4 := bl1x_3.trans hq4
    have bl3x_4 := bl3x.trans hq4
    refine hh_take 20 (some 51) ?_ rfl rfl (by kernel_rfl) (by kernel_rfl) (by kernel_rfl) (fun _ _ _ h => h) (by rfl) ?_ hS ?_
    rotate_left
    · intro W hW; (try go_simp); (try with_reducible rfl)
    try simp only [Act.put, List.setIfInBounds_toArray, List.set_cons_zero, List.set_cons_succ]
    refine hh_take 21 (some 52) ?_ rfl rfl (by kernel_rfl) (by kernel_rfl) (by kernel_rfl) (fun _ _ _ h => h) (by rfl) ?_ hS ?_
    rotate_left
    · intro W hW; (try go_simp); (try with_reducible rfl)
    try simp only [Act.put, List.setIfInBounds_toArray, List.set_cons_zero, List.set_cons_succ]
    refine hh_one 23 (by kernel_rfl) rfl rfl (fun K hK => ?_)
    go_simp
    refine (refHms o _ ho' H KT.hh).mono ?_
    rintro e wq5 ⟨rfl, hq5⟩
    refine hK _ _ hq5 ?_
    clear hK K
    try simp only [Act.put, List.setIfInBounds_toArray, List.set_cons_zero, List.set_cons_succ]
    refine wpAnyH_bl hq5 _ _ _ _ ?_
    clear hS
    have hS := bl_refl wq5
    have bl0_5 := bl0_4.trans hq5
    have bl1x_5 := bl1x_4.trans hq5
    have bl3x_5 := bl3x_4.trans hq5
    refine hh_take 24 (some 55) ?_ rfl rfl (by kernel_rfl) (by kernel_rfl) (by kernel_rfl) (fun _ _ _ h => h) (by rfl) ?_ hS ?_
    rotate_left
    · intro W hW; (try go_simp); (try with_reducible rfl)
    try simp only [Act.put, List.setIfInBounds_toArray, List.set_cons_zero, List.set_cons_succ]
    refine hh_take 25 (some 56) ?_ rfl rfl (by kernel_rfl) (by kernel_rfl) (by kernel_rfl) (fun _ _ _ h => h) (by rfl) ?_ hS ?_
    rotate_left
    · intro W hW; (try go_simp); (try with_reducible rfl)
    try simp only [Act.put, List.setIfInBounds_toArray, List.set_cons_zero, List.set_cons_succ]
    refine hh_one 28 (by kernel_rfl) rfl rfl (fun K hK => ?_)
    go_simp
    refine (refZone zone _ hz1 hz2 Z KT.zz).mono ?_
    rintro e wq6 ⟨rfl, hq6⟩
    refine hK _ _ hq6 ?_
    clear hK K
    try simp only [Act.put, List.setIfInBounds_toArray, List.set_cons_zero, List.set_cons_succ]
    refine wpAnyH_bl hq6 _ _ _ _ ?_
    clear hS
    have hS := bl_refl wq6
    have bl0_6 := bl0_5.trans hq6
    have bl1x_6 := bl1x_5.trans hq6
    have bl3x_6 := bl3x_5.trans hq6
    refine hh_take 29 (some 60) ?_ rfl rfl (by kernel_rfl) (by kernel_rfl) (by kernel_rfl) (fun _ _ _ h => h) (by rfl) ?_ hS ?_
    rotate_left
    · intro W hW; (try go_simp); (try with_reducible rfl)
    try simp only [Act.put, List.setIfInBounds_toArray, List.set_cons_zero, List.set_cons_succ]
    refine hh_take 30 (some 2) ?_ rfl rfl (by kernel_rfl) (by kernel_rfl) (by kernel_rfl) (fun _ _ _ h => h) (by rfl) ?_ hS ?_
    rotate_left
    · intro W hW; (try go_simp); (try with_reducible rfl)
    try simp only [Act.put, List.setIfInBounds_toArray, List.set_cons_zero, List.set_cons_succ]
    refine hh_take 31 (some 3) ?_ rfl rfl (by kernel_rfl) (by kernel_rfl) (by kernel_rfl) (fun _ _ _ h => h) (by rfl) ?_ hS ?_
    rotate_left
    · intro W hW; (try go_simp); (try with_reducible rfl)
    try simp only [Act.put, List.setIfInBounds_toArray, List.set_cons_zero, List.set_cons_succ]
    refine wpAnyH_done (by kernel_rfl) ?_ _
    go_wp2
    go_ret2
    exact ⟨rfl, hFin.out _ bl0_6⟩

theorem refShort_no (sec zone : Int) (w : World) (h : okT sec zone = false) (hs1 : -9223372036854775808 ≤ sec) (hs2 : sec ≤ 9223372036854775807) (hz1 : -9223372036854775808 ≤ zone) (hz2 : zone ≤ 9223372036854775807) :
    Calls Tryd.prog 27 #[timeV sec zone] w fun e w' => e = .returned (.tuple #[.string ⟨#[]⟩, .int .i64 2]) ∧ Below w.heap.size w w' := by
  have HT := Lib.hid (fun w => refThere_no sec zone w h hs1 hs2 hz1 hz2)
  clear h hs1 hs2 hz1 hz2
  unfold timeV at HT ⊢
  go_enter Tryd.func27, Tryd.ntmps27
  go_wp2_with fail
  refine (HT.out _).mono ?_
  rintro e w1 ⟨xa, xb, rfl, hb1⟩
  go_wp2
  go_ret2
  exact ⟨rfl, (bal (Below.refl _ _) _).trans (hb1.mono (by simp))⟩

set_option maxHeartbeats 2000000 in
set_option maxRecDepth 100000 in
theorem refShort_yes (sec zone : Int) (y m d wk o : Nat) (w : World) (h : okT sec zone = true) (hr : rt y ((m : Int) + 1) d = true) (hn : num y ((m : Int) + 1) d = (sec + 60 * zone) / 86400) (hwk : (num y ((m : Int) + 1) d + 3) % 7 = (wk : Int)) (ho : (sec + 60 * zone) % 86400 = (o : Int)) :
    Calls Tryd.prog 27 #[timeV sec zone] w fun e w' => e = .returned (.tuple #[.string ⟨(shortL d (m + 1) y o (decide (zone < 0)) zone.natAbs).toArray⟩, .int .i64 0]) ∧ Below w.heap.size w w' := by
  have HT := Lib.hid (fun w => refThere_yes sec zone w h)
  have HC := Lib.hid (fun w => refCivil_yes y ((m : Int) + 1) d w hr)
  have hin := num_in hr
  rw [rt_iff] at hr
  have hdm := dim_bd y ((m : Int) + 1)
  rw [okT_iff] at h
  have hz1 : -1439 ≤ zone := h.1
  have hz2 : zone ≤ 1439 := h.2.1
  have ho' : o < 86400 := by omega
  have hwk' : wk < 7 := by omega
  have hm12 : m < 12 := by omega
  have hd31 : d ≤ 31 := by omega
  have hwki : (wk : Int) < 7 := by omega
  have hmi : (m : Int) < 12 := by omega
  have hy4 : y ≤ 9999 := by omega
  obtain ⟨R, hR⟩ : ∃ R, shortL d (m + 1) y o (decide (zone < 0)) zone.natAbs = R := ⟨_, rfl⟩
  have l3 := dec_small hd31
  rw [hR]
  rw [hn] at HC
  rw [ho] at HT
  clear hn ho hwk hin hdm h hr
  unfold timeV at HT ⊢
  unfold dayV at HC
  generalize (sec + 60 * zone) / 86400 = dn at *
  have hW : ∀ w1 : World, Below (w.alloc (.cells #[.int .i64 sec, .int .i64 zone] 35)).heap.size (w.alloc (.cells #[.int .i64 sec, .int .i64 zone] 35)) w1 → w1.cell? ⟨w.heap.size, 1, none⟩ = some (.int .i64 zone) := fun w1 hb => (hb.cell (by simp)).trans (World.cell?_alloc_mark _ _ _ _ _)
  have HW := Lib.hid hW
  have hB0 : Below w.heap.size w (w.alloc (.cells #[.int .i64 sec, .int .i64 zone] 35)) := bal (Below.refl _ _) _
  have HB0 := Lib.hid hB0
  clear hW hB0
  go_enter Tryd.func27, Tryd.ntmps27
  go_wp2_with fail
  refine (HT.out _).mono ?_
  rintro e w1 ⟨rfl, hb1⟩
  go_wp2_with fail
  refine (HC.out _).mono ?_
  rintro e w2 ⟨rfl, hb2⟩
  have hb3 := hb1.trans (hb2.mono hb1.size)
  obtain ⟨W1, hW1⟩ : ∃ W1, w2.alloc (.cells #[.int .i64 (y : Int), .int .i64 ((m : Int) + 1), .int .i64 (d : Int)] 23) = W1 := ⟨_, rfl⟩
  have hb4 : Below (w.alloc (.cells #[.int .i64 sec, .int .i64 zone] 35)).heap.size (w.alloc (.cells #[.int .i64 sec, .int .i64 zone] 35)) W1 := by rw [← hW1]; exact bal hb3 _
  have hz : w2.heap.size < W1.heap.size := by rw [← hW1]; simp
  have KC1 : ∀ wx, Below W1.heap.size W1 wx → wx.cell? ⟨w2.heap.size, 0, none⟩ = some (.int .i64 (y : Int)) ∧ wx.cell? ⟨w2.heap.size, 1, none⟩ = some (.int .i64 ((m : Int) + 1)) ∧ wx.cell? ⟨w2.heap.size, 2, none⟩ = some (.int .i64 (d : Int)) := fun wx hb => by
    refine ⟨(hb.cell hz).trans ?_, (hb.cell hz).trans ?_, (hb.cell hz).trans ?_⟩ <;> rw [← hW1] <;> exact World.cell?_alloc_mark _ _ _ _ _
  have HW1 := Lib.hid hW1
  have HKC1 := Lib.hid KC1
  obtain ⟨k10, k11, k12⟩ := KC1 W1 (Below.refl _ _)
  clear hW1 hz KC1 k10 k11
  go_wp2_with fail
  rw [HW1.out]
  refine (refDigits_of _ d 2 (by omega) _ rfl _ (by omega) (by omega) _ rfl).mono ?_
  rintro e W0 ⟨rfl, hb5⟩
  have KC : ∀ wx, Bl W0 wx → wx.cell? ⟨w2.heap.size, 0, none⟩ = some (.int .i64 (y : Int)) ∧ wx.cell? ⟨w2.heap.size, 1, none⟩ = some (.int .i64 ((m : Int) + 1)) ∧ wx.cell? ⟨w.heap.size, 1, none⟩ = some (.int .i64 zone) := fun wx hb => by
    have hq : Below W1.heap.size W1 wx := hb5.trans (hb.mono hb5.size)
    exact ⟨(HKC1.out wx hq).1, (HKC1.out wx hq).2.1, HW.out wx (hb4.trans (hq.mono hb4.size))⟩
  obtain ⟨q0, q1, q2⟩ := HKC1.out W0 hb5
  have hb6 := hb4.trans (hb5.mono hb4.size)
  have hwr1 : IntKind.i64.wrap ((m : Int) + 1 - 1) = (m : Int) := by rw [IntWalk.i64_in _ (by omega)]; omega
  have hwr2 : IntKind.i64.wrap (m : Int) = (m : Int) := IntWalk.i64_in _ (by omega)
  have hFin := Lib.hid (fun wx (hb : Bl W0 wx) => HB0.out.trans ((hb6.trans (Below.mono hb hb6.size)).mono HB0.out.size))
  clear q0 q1 k12 hb6
  by_cases h10 : d < 10
  · have hE := Lib.hid (dgs_two_low h10)
    obtain ⟨E, hEE⟩ : ∃ E, E = [32] ++ Lib.decDigits d := ⟨_, rfl⟩
    have le : E.length ≤ 3 := by rw [hEE]; simp; omega
    obtain ⟨N2, Y, X1, X2, X3, X4, KP, hX4, hXl⟩ := sh2_ex E m y le hm12
    obtain ⟨H, Z, X7, X8, X9, KT⟩ := tl_ex o (decide (zone < 0)) zone.natAbs X4 R (by omega) (by rw [← hR, shortL, if_pos h10, hX4, hEE]; simp)
    have xe := add_to [32] (Lib.decDigits d) E hEE (by omega)
    have x1 := KP.x1; have x2 := KP.x2; have x3 := KP.x3; have x4 := KP.x4
    have x7 := KT.x7; have x8 := KT.x8; have x9 := KT.x9; have xr := KT.xr
    have HEE := Lib.hid hEE
    clear hX4 hXl hR hEE le l3
    generalize Lib.decDigits d = D at *
    have hs2 : (⟨(dgs 2 d).toArray⟩ : ByteArray).size = 2 := by rw [size_mk, dgs_len]
    generalize (⟨(dgs 2 d).toArray⟩ : ByteArray) = D2 at *
    have hE' := hE.out
    go_wp2_with fail
    refine wp_held_bl (by kernel_rfl) (fun hS => ?_)
    generalize (W0).drew = wq0 at hS ⊢
    have bl0 := hS
    refine wpAnyH_bl hS _ _ _ _ ?_
    clear hS
    have hS := bl_refl wq0
    refine hh_take 0 (some 32) ?_ rfl rfl (by kernel_rfl) (by kernel_rfl) (by kernel_rfl) (fun _ _ _ h => h) (by rfl) ?_ hS ?_
    rotate_left
    · intro W hW; (try go_simp); (try with_reducible rfl)
    try simp only [Act.put, List.setIfInBounds_toArray, List.set_cons_zero, List.set_cons_succ]
    refine hh_take 1 (some 33) ?_ rfl rfl (by kernel_rfl) (by kernel_rfl) (by kernel_rfl) (fun _ _ _ h => h) (by rfl) ?_ hS ?_
    rotate_left
    · intro W hW; (try go_simp); (try with_reducible rfl)
    try simp only [Act.put, List.setIfInBounds_toArray, List.set_cons_zero, List.set_cons_succ]
    refine hh_take 3 (some 35) ?_ rfl rfl (by kernel_rfl) (by kernel_rfl) (by kernel_rfl) (fun _ _ _ h => h) (by rfl) ?_ hS ?_
    rotate_left
    · intro W hW; (try go_simp); (try with_reducible rfl)
    try simp only [Act.put, List.setIfInBounds_toArray, List.set_cons_zero, List.set_cons_succ]
    refine hh_take 4 (some 36) ?_ rfl rfl (by kernel_rfl) (by kernel_rfl) (by kernel_rfl) (fun _ _ _ h => h) (by rfl) ?_ hS ?_
    rotate_left
    · intro W hW; have _k0 := KC W (bl0.trans hW);(try go_simp); (try with_reducible rfl)
    try simp only [Act.put, List.setIfInBounds_toArray, List.set_cons_zero, List.set_cons_succ]
    refine hh_take 5 (some 37) ?_ rfl rfl (by kernel_rfl) (by kernel_rfl) (by kernel_rfl) (fun _ _ _ h => h) (by rfl) ?_ hS ?_
    rotate_left
    · intro W hW; (try go_simp); (try with_reducible rfl)
    try simp only [Act.put, List.setIfInBounds_toArray, List.set_cons_zero, List.set_cons_succ]
    refine hh_take 10 (some 42) ?_ rfl rfl (by kernel_rfl) (by kernel_rfl) (by kernel_rfl) (fun _ _ _ h => h) (by rfl) ?_ hS ?_
    rotate_left
    · intro W hW; (try go_simp); (try with_reducible rfl)
    try simp only [Act.put, List.setIfInBounds_toArray, List.set_cons_zero, List.set_cons_succ]
    refine hh_take 11 (some 43) ?_ rfl rfl (by kernel_rfl) (by kernel_rfl) (by kernel_rfl) (fun _ _ _ h => h) (by rfl) ?_ hS ?_
    rotate_left
    · intro W hW; have _k0 := KC W (bl0.trans hW);(try go_simp); (try with_reducible rfl)
    try simp only [Act.put, List.setIfInBounds_toArray, List.set_cons_zero, List.set_cons_succ]
    refine hh_take 15 (some 47) ?_ rfl rfl (by kernel_rfl) (by kernel_rfl) (by kernel_rfl) (fun _ _ _ h => h) (by rfl) ?_ hS ?_
    rotate_left
    · intro W hW; (try go_simp); (try with_reducible rfl)
    try simp only [Act.put, List.setIfInBounds_toArray, List.set_cons_zero, List.set_cons_succ]
    refine hh_take 19 (some 51) ?_ rfl rfl (by kernel_rfl) (by kernel_rfl) (by kernel_rfl) (fun _ _ _ h => h) (by rfl) ?_ hS ?_
    rotate_left
    · intro W hW; (try go_simp); (try with_reducible rfl)
    try simp only [Act.put, List.setIfInBounds_toArray, List.set_cons_zero, List.set_cons_succ]
    refine hh_take 20 (some 52) ?_ rfl rfl (by kernel_rfl) (by kernel_rfl) (by kernel_rfl) (fun _ _ _ h => h) (by rfl) ?_ hS ?_
    rotate_left
    · intro W hW; have _k0 := KC W (bl0.trans hW);(try go_simp); (try with_reducible rfl)
    try simp only [Act.put, List.setIfInBounds_toArray, List.set_cons_zero, List.set_cons_succ]
    refine hh_one 2 (by kernel_rfl) rfl rfl (fun K hK => ?_)
    go_simp
    refine (refMonths' _).mono ?_
    rintro e wq1 ⟨g2, rfl, hq1, hn2⟩
    refine hK _ _ hq1 ?_
    clear hK K
    try simp only [Act.put, List.setIfInBounds_toArray, List.set_cons_zero, List.set_cons_succ]
    refine wpAnyH_bl hq1 _ _ _ _ ?_
    clear hS
    have hS := bl_refl wq1
    have bl0_1 := bl0.trans hq1
    have KM : ∀ wx, Bl wq1 wx → wx.cell? ⟨g2, m, none⟩ = some (.string ⟨N2.toArray⟩) := fun wx h => by rw [(hn2.below h).2 m hm12]; have := KP.n2; rw [this]
    clear hn2
    have bl1x : Bl wq1 wq1 := bl_refl _
    refine hh_take 6 (some 38) ?_ rfl rfl (by kernel_rfl) (by kernel_rfl) (by kernel_rfl) (fun _ _ _ h => h) (by rfl) ?_ hS ?_
    rotate_left
    · intro W hW; (try go_simp); (try with_reducible rfl)
    try simp only [Act.put, List.setIfInBounds_toArray, List.set_cons_zero, List.set_cons_succ]
    refine hh_take 7 (some 39) ?_ rfl rfl (by kernel_rfl) (by kernel_rfl) (by kernel_rfl) (fun _ _ _ h => h) (by rfl) ?_ hS ?_
    rotate_left
    · intro W hW; have _k0 := KC W (bl0_1.trans hW); have _k1 := KM W (bl1x.trans hW);(try go_simp); (try with_reducible rfl)
    try simp only [Act.put, List.setIfInBounds_toArray, List.set_cons_zero, List.set_cons_succ]
    refine hh_take 8 (some 40) ?_ rfl rfl (by kernel_rfl) (by kernel_rfl) (by kernel_rfl) (fun _ _ _ h => h) (by rfl) ?_ hS ?_
    rotate_left
    · intro W hW; (try go_simp); (try with_reducible rfl)
    try simp only [Act.put, List.setIfInBounds_toArray, List.set_cons_zero, List.set_cons_succ]
    refine hh_take 9 (some 41) ?_ rfl rfl (by kernel_rfl) (by kernel_rfl) (by kernel_rfl) (fun _ _ _ h => h) (by rfl) ?_ hS ?_
    rotate_left
    · intro W hW; (try go_simp); (try with_reducible rfl)
    try simp only [Act.put, List.setIfInBounds_toArray, List.set_cons_zero, List.set_cons_succ]
    refine hh_one 12 (by kernel_rfl) rfl rfl (fun K hK => ?_)
    go_simp
    refine (refDigits_of _ y 4 rfl Y KP.yy _ (by omega) (by omega) _ rfl).mono ?_
    rintro e wq2 ⟨rfl, hq2⟩
    refine hK _ _ hq2 ?_
    clear hK K
    try simp only [Act.put, List.setIfInBounds_toArray, List.set_cons_zero, List.set_cons_succ]
    refine wpAnyH_bl hq2 _ _ _ _ ?_
    clear hS
    have hS := bl_refl wq2
    have bl0_2 := bl0_1.trans hq2
    have bl1x_2 := bl1x.trans hq2
    refine hh_take 13 (some 45) ?_ rfl rfl (by kernel_rfl) (by kernel_rfl) (by kernel_rfl) (fun _ _ _ h => h) (by rfl) ?_ hS ?_
    rotate_left
    · intro W hW; (try go_simp); (try with_reducible rfl)
    try simp only [Act.put, List.setIfInBounds_toArray, List.set_cons_zero, List.set_cons_succ]
    refine hh_take 14 (some 46) ?_ rfl rfl (by kernel_rfl) (by kernel_rfl) (by kernel_rfl) (fun _ _ _ h => h) (by rfl) ?_ hS ?_
    rotate_left
    · intro W hW; (try go_simp); (try with_reducible rfl)
    try simp only [Act.put, List.setIfInBounds_toArray, List.set_cons_zero, List.set_cons_succ]
    refine hh_one 16 (by kernel_rfl) rfl rfl (fun K hK => ?_)
    go_simp
    refine (refHms o _ ho' H KT.hh).mono ?_
    rintro e wq3 ⟨rfl, hq3⟩
    refine hK _ _ hq3 ?_
    clear hK K
    try simp only [Act.put, List.setIfInBounds_toArray, List.set_cons_zero, List.set_cons_succ]
    refine wpAnyH_bl hq3 _ _ _ _ ?_
    clear hS
    have hS := bl_refl wq3
    have bl0_3 := bl0_2.trans hq3
    have bl1x_3 := bl1x_2.trans hq3
    refine hh_take 17 (some 49) ?_ rfl rfl (by kernel_rfl) (by kernel_rfl) (by kernel_rfl) (fun _ _ _ h => h) (by rfl) ?_ hS ?_
    rotate_left
    · intro W hW; (try go_simp); (try with_reducible rfl)
    try simp only [Act.put, List.setIfInBounds_toArray, List.set_cons_zero, List.set_cons_succ]
    refine hh_take 18 (some 50) ?_ rfl rfl (by kernel_rfl) (by kernel_rfl) (by kernel_rfl) (fun _ _ _ h => h) (by rfl) ?_ hS ?_
    rotate_left
    · intro W hW; (try go_simp); (try with_reducible rfl)
    try simp only [Act.put, List.setIfInBounds_toArray, List.set_cons_zero, List.set_cons_succ]
    refine hh_one 21 (by kernel_rfl) rfl rfl (fun K hK => ?_)
    go_simp
    refine (refZone zone _ hz1 hz2 Z KT.zz).mono ?_
    rintro e wq4 ⟨rfl, hq4⟩
    refine hK _ _ hq4 ?_
    clear hK K
    try simp only [Act.put, List.setIfInBounds_toArray, List.set_cons_zero, List.set_cons_succ]
    refine wpAnyH_bl hq4 _ _ _ _ ?_
    clear hS
    have hS := bl_refl wq4
    have bl0_4 := bl0_3.trans hq4
    have bl1x_4 := bl1x_3.trans hq4
    refine hh_take 22 (some 54) ?_ rfl rfl (by kernel_rfl) (by kernel_rfl) (by kernel_rfl) (fun _ _ _ h => h) (by rfl) ?_ hS ?_
    rotate_left
    · intro W hW; (try go_simp); (try with_reducible rfl)
    try simp only [Act.put, List.setIfInBounds_toArray, List.set_cons_zero, List.set_cons_succ]
    refine hh_take 23 (some 2) ?_ rfl rfl (by kernel_rfl) (by kernel_rfl) (by kernel_rfl) (fun _ _ _ h => h) (by rfl) ?_ hS ?_
    rotate_left
    · intro W hW; (try go_simp); (try with_reducible rfl)
    try simp only [Act.put, List.setIfInBounds_toArray, List.set_cons_zero, List.set_cons_succ]
    refine hh_take 24 (some 3) ?_ rfl rfl (by kernel_rfl) (by kernel_rfl) (by kernel_rfl) (fun _ _ _ h => h) (by rfl) ?_ hS ?_
    rotate_left
    · intro W hW; (try go_simp); (try with_reducible rfl)
    try simp only [Act.put, List.setIfInBounds_toArray, List.set_cons_zero, List.set_cons_succ]
    refine wpAnyH_done (by kernel_rfl) ?_ _
    go_wp2
    go_ret2
    exact ⟨rfl, hFin.out _ bl0_4⟩
  · have hE := Lib.hid (dgs_two_high h10 (by omega))
    obtain ⟨E, hEE⟩ : ∃ E, E = Lib.decDigits d := ⟨_, rfl⟩
    have le : E.length ≤ 3 := by rw [hEE]; omega
    obtain ⟨N2, Y, X1, X2, X3, X4, KP, hX4, hXl⟩ := sh2_ex E m y le hm12
    obtain ⟨H, Z, X7, X8, X9, KT⟩ := tl_ex o (decide (zone < 0)) zone.natAbs X4 R (by omega) (by rw [← hR, shortL, if_neg h10, hX4, hEE]; simp)
    have x1 := KP.x1; have x2 := KP.x2; have x3 := KP.x3; have x4 := KP.x4
    have x7 := KT.x7; have x8 := KT.x8; have x9 := KT.x9; have xr := KT.xr
    have HEE := Lib.hid hEE
    clear hX4 hXl hR hEE le l3
    rw [hE.out, ← HEE.out]
    go_wp2_with fail
    refine wp_held_bl (by kernel_rfl) (fun hS => ?_)
    generalize (W0).drew = wq0 at hS ⊢
    have bl0 := hS
    refine wpAnyH_bl hS _ _ _ _ ?_
    clear hS
    have hS := bl_refl wq0
    refine hh_take 0 (some 32) ?_ rfl rfl (by kernel_rfl) (by kernel_rfl) (by kernel_rfl) (fun _ _ _ h => h) (by rfl) ?_ hS ?_
    rotate_left
    · intro W hW; (try go_simp); (try with_reducible rfl)
    try simp only [Act.put, List.setIfInBounds_toArray, List.set_cons_zero, List.set_cons_succ]
    refine hh_take 1 (some 33) ?_ rfl rfl (by kernel_rfl) (by kernel_rfl) (by kernel_rfl) (fun _ _ _ h => h) (by rfl) ?_ hS ?_
    rotate_left
    · intro W hW; (try go_simp); (try with_reducible rfl)
    try simp only [Act.put, List.setIfInBounds_toArray, List.set_cons_zero, List.set_cons_succ]
    refine hh_take 3 (some 35) ?_ rfl rfl (by kernel_rfl) (by kernel_rfl) (by kernel_rfl) (fun _ _ _ h => h) (by rfl) ?_ hS ?_
    rotate_left
    · intro W hW; (try go_simp); (try with_reducible rfl)
    try simp only [Act.put, List.setIfInBounds_toArray, List.set_cons_zero, List.set_cons_succ]
    refine hh_take 4 (some 36) ?_ rfl rfl (by kernel_rfl) (by kernel_rfl) (by kernel_rfl) (fun _ _ _ h => h) (by rfl) ?_ hS ?_
    rotate_left
    · intro W hW; have _k0 := KC W (bl0.trans hW);(try go_simp); (try with_reducible rfl)
    try simp only [Act.put, List.setIfInBounds_toArray, List.set_cons_zero, List.set_cons_succ]
    refine hh_take 5 (some 37) ?_ rfl rfl (by kernel_rfl) (by kernel_rfl) (by kernel_rfl) (fun _ _ _ h => h) (by rfl) ?_ hS ?_
    rotate_left
    · intro W hW; (try go_simp); (try with_reducible rfl)
    try simp only [Act.put, List.setIfInBounds_toArray, List.set_cons_zero, List.set_cons_succ]
    refine hh_take 10 (some 42) ?_ rfl rfl (by kernel_rfl) (by kernel_rfl) (by kernel_rfl) (fun _ _ _ h => h) (by rfl) ?_ hS ?_
    rotate_left
    · intro W hW; (try go_simp); (try with_reducible rfl)
    try simp only [Act.put, List.setIfInBounds_toArray, List.set_cons_zero, List.set_cons_succ]
    refine hh_take 11 (some 43) ?_ rfl rfl (by kernel_rfl) (by kernel_rfl) (by kernel_rfl) (fun _ _ _ h => h) (by rfl) ?_ hS ?_
    rotate_left
    · intro W hW; have _k0 := KC W (bl0.trans hW);(try go_simp); (try with_reducible rfl)
    try simp only [Act.put, List.setIfInBounds_toArray, List.set_cons_zero, List.set_cons_succ]
    refine hh_take 15 (some 47) ?_ rfl rfl (by kernel_rfl) (by kernel_rfl) (by kernel_rfl) (fun _ _ _ h => h) (by rfl) ?_ hS ?_
    rotate_left
    · intro W hW; (try go_simp); (try with_reducible rfl)
    try simp only [Act.put, List.setIfInBounds_toArray, List.set_cons_zero, List.set_cons_succ]
    refine hh_take 19 (some 51) ?_ rfl rfl (by kernel_rfl) (by kernel_rfl) (by kernel_rfl) (fun _ _ _ h => h) (by rfl) ?_ hS ?_
    rotate_left
    · intro W hW; (try go_simp); (try with_reducible rfl)
    try simp only [Act.put, List.setIfInBounds_toArray, List.set_cons_zero, List.set_cons_succ]
    refine hh_take 20 (some 52) ?_ rfl rfl (by kernel_rfl) (by kernel_rfl) (by kernel_rfl) (fun _ _ _ h => h) (by rfl) ?_ hS ?_
    rotate_left
    · intro W hW; have _k0 := KC W (bl0.trans hW);(try go_simp); (try with_reducible rfl)
    try simp only [Act.put, List.setIfInBounds_toArray, List.set_cons_zero, List.set_cons_succ]
    refine hh_one 2 (by kernel_rfl) rfl rfl (fun K hK => ?_)
    go_simp
    refine (refMonths' _).mono ?_
    rintro e wq1 ⟨g2, rfl, hq1, hn2⟩
    refine hK _ _ hq1 ?_
    clear hK K
    try simp only [Act.put, List.setIfInBounds_toArray, List.set_cons_zero, List.set_cons_succ]
    refine wpAnyH_bl hq1 _ _ _ _ ?_
    clear hS
    have hS := bl_refl wq1
    have bl0_1 := bl0.trans hq1
    have KM : ∀ wx, Bl wq1 wx → wx.cell? ⟨g2, m, none⟩ = some (.string ⟨N2.toArray⟩) := fun wx h => by rw [(hn2.below h).2 m hm12]; have := KP.n2; rw [this]
    clear hn2
    have bl1x : Bl wq1 wq1 := bl_refl _
    refine hh_take 6 (some 38) ?_ rfl rfl (by kernel_rfl) (by kernel_rfl) (by kernel_rfl) (fun _ _ _ h => h) (by rfl) ?_ hS ?_
    rotate_left
    · intro W hW; (try go_simp); (try with_reducible rfl)
    try simp only [Act.put, List.setIfInBounds_toArray, List.set_cons_zero, List.set_cons_succ]
    refine hh_take 7 (some 39) ?_ rfl rfl (by kernel_rfl) (by kernel_rfl) (by kernel_rfl) (fun _ _ _ h => h) (by rfl) ?_ hS ?_
    rotate_left
    · intro W hW; have _k0 := KC W (bl0_1.trans hW); have _k1 := KM W (bl1x.trans hW);(try go_simp); (try with_reducible rfl)
    try simp only [Act.put, List.setIfInBounds_toArray, List.set_cons_zero, List.set_cons_succ]
    refine hh_take 8 (some 40) ?_ rfl rfl (by kernel_rfl) (by kernel_rfl) (by kernel_rfl) (fun _ _ _ h => h) (by rfl) ?_ hS ?_
    rotate_left
    · intro W hW; (try go_simp); (try with_reducible rfl)
    try simp only [Act.put, List.setIfInBounds_toArray, List.set_cons_zero, List.set_cons_succ]
    refine hh_take 9 (some 41) ?_ rfl rfl (by kernel_rfl) (by kernel_rfl) (by kernel_rfl) (fun _ _ _ h => h) (by rfl) ?_ hS ?_
    rotate_left
    · intro W hW; (try go_simp); (try with_reducible rfl)
    try simp only [Act.put, List.setIfInBounds_toArray, List.set_cons_zero, List.set_cons_succ]
    refine hh_one 12 (by kernel_rfl) rfl rfl (fun K hK => ?_)
    go_simp
    refine (refDigits_of _ y 4 rfl Y KP.yy _ (by omega) (by omega) _ rfl).mono ?_
    rintro e wq2 ⟨rfl, hq2⟩
    refine hK _ _ hq2 ?_
    clear hK K
    try simp only [Act.put, List.setIfInBounds_toArray, List.set_cons_zero, List.set_cons_succ]
    refine wpAnyH_bl hq2 _ _ _ _ ?_
    clear hS
    have hS := bl_refl wq2
    have bl0_2 := bl0_1.trans hq2
    have bl1x_2 := bl1x.trans hq2
    refine hh_take 13 (some 45) ?_ rfl rfl (by kernel_rfl) (by kernel_rfl) (by kernel_rfl) (fun _ _ _ h => h) (by rfl) ?_ hS ?_
    rotate_left
    · intro W hW; (try go_simp); (try with_reducible rfl)
    try simp only [Act.put, List.setIfInBounds_toArray, List.set_cons_zero, List.set_cons_succ]
    refine hh_take 14 (some 46) ?_ rfl rfl (by kernel_rfl) (by kernel_rfl) (by kernel_rfl) (fun _ _ _ h => h) (by rfl) ?_ hS ?_
    rotate_left
    · intro W hW; (try go_simp); (try with_reducible rfl)
    try simp only [Act.put, List.setIfInBounds_toArray, List.set_cons_zero, List.set_cons_succ]
    refine hh_one 16 (by kernel_rfl) rfl rfl (fun K hK => ?_)
    go_simp
    refine (refHms o _ ho' H KT.hh).mono ?_
    rintro e wq3 ⟨rfl, hq3⟩
    refine hK _ _ hq3 ?_
    clear hK K
    try simp only [Act.put, List.setIfInBounds_toArray, List.set_cons_zero, List.set_cons_succ]
    refine wpAnyH_bl hq3 _ _ _ _ ?_
    clear hS
    have hS := bl_refl wq3
    have bl0_3 := bl0_2.trans hq3
    have bl1x_3 := bl1x_2.trans hq3
    refine hh_take 17 (some 49) ?_ rfl rfl (by kernel_rfl) (by kernel_rfl) (by kernel_rfl) (fun _ _ _ h => h) (by rfl) ?_ hS ?_
    rotate_left
    · intro W hW; (try go_simp); (try with_reducible rfl)
    try simp only [Act.put, List.setIfInBounds_toArray, List.set_cons_zero, List.set_cons_succ]
    refine hh_take 18 (some 50) ?_ rfl rfl (by kernel_rfl) (by kernel_rfl) (by kernel_rfl) (fun _ _ _ h => h) (by rfl) ?_ hS ?_
    rotate_left
    · intro W hW; (try go_simp); (try with_reducible rfl)
    try simp only [Act.put, List.setIfInBounds_toArray, List.set_cons_zero, List.set_cons_succ]
    refine hh_one 21 (by kernel_rfl) rfl rfl (fun K hK => ?_)
    go_simp
    refine (refZone zone _ hz1 hz2 Z KT.zz).mono ?_
    rintro e wq4 ⟨rfl, hq4⟩
    refine hK _ _ hq4 ?_
    clear hK K
    try simp only [Act.put, List.setIfInBounds_toArray, List.set_cons_zero, List.set_cons_succ]
    refine wpAnyH_bl hq4 _ _ _ _ ?_
    clear hS
    have hS := bl_refl wq4
    have bl0_4 := bl0_3.trans hq4
    have bl1x_4 := bl1x_3.trans hq4
    refine hh_take 22 (some 54) ?_ rfl rfl (by kernel_rfl) (by kernel_rfl) (by kernel_rfl) (fun _ _ _ h => h) (by rfl) ?_ hS ?_
    rotate_left
    · intro W hW; (try go_simp); (try with_reducible rfl)
    try simp only [Act.put, List.setIfInBounds_toArray, List.set_cons_zero, List.set_cons_succ]
    refine hh_take 23 (some 2) ?_ rfl rfl (by kernel_rfl) (by kernel_rfl) (by kernel_rfl) (fun _ _ _ h => h) (by rfl) ?_ hS ?_
    rotate_left
    · intro W hW; (try go_simp); (try with_reducible rfl)
    try simp only [Act.put, List.setIfInBounds_toArray, List.set_cons_zero, List.set_cons_succ]
    refine hh_take 24 (some 3) ?_ rfl rfl (by kernel_rfl) (by kernel_rfl) (by kernel_rfl) (fun _ _ _ h => h) (by rfl) ?_ hS ?_
    rotate_left
    · intro W hW; (try go_simp); (try with_reducible rfl)
    try simp only [Act.put, List.setIfInBounds_toArray, List.set_cons_zero, List.set_cons_succ]
    refine wpAnyH_done (by kernel_rfl) ?_ _
    go_wp2
    go_ret2
    exact ⟨rfl, hFin.out _ bl0_4⟩
end Go.Proofs.YtkkmjadkagpihaaDoor
