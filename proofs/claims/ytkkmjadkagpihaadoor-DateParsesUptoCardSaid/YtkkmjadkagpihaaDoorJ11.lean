/- Date: the code's Print, PrintShort. -/
import Derived.Test.YtkkmjadkagpihaaDoorJ10
import Derived.Deep.RegionHeld3
import Derived.IntWalk
namespace Go.Proofs.YtkkmjadkagpihaaDoor
open Go Go.RowKit

theorem nth_len {l : List UInt8} {k : Nat} (h : 3 * k + 3 ≤ l.length) : (nthL l k).length = 3 := by simp [nthL]; omega
theorem itoa_nat (n : Nat) : Lib.itoa (n : Int) = Lib.decDigits n := by unfold Lib.itoa; rw [if_neg (by omega)]; rfl
theorem itoa_of (x : Int) (n : Nat) (hx : x = (n : Int)) (D : List UInt8) (hD : Lib.decDigits n = D) (w : World) (hn : n ≤ 1000000) (hP : Pows w) :
    Calls Tryd.prog 57 #[.int .i64 x] w fun e w' => e = .returned (.string ⟨D.toArray⟩) ∧ Below w.heap.size w w' := by
  subst hx; subst hD
  refine (Tryd.strconv_Itoa (n : Int) (by omega) (by omega) w hP).mono ?_
  rintro e w1 ⟨rfl, k, os, hw⟩
  rw [itoa_nat]
  exact ⟨rfl, by rw [hw]; exact Lib.below_grow _ _ (Nat.le_refl _) _ _⟩
theorem dec_small {d : Nat} (h : d ≤ 31) : (Lib.decDigits d).length ≤ 2 := (dgs_fill 2 d (by omega) (by omega)).1

/-- The strings of Print, one by one. -/
structure Prt (wk d m y : Nat) (N1 N2 D Y X1 X2 X3 X4 X5 X6 : List UInt8) : Prop where
  n1 : nthL weeksL wk = N1
  n2 : nthL monthsL (m - 1) = N2
  dd : Lib.decDigits d = D
  yy : dgs 4 y = Y
  x1 : ∀ w, (Op.stringOp .add ⟨N1.toArray⟩ ⟨#[44, 32]⟩).run Tryd.prog w = .ok (.string ⟨X1.toArray⟩) w
  x2 : ∀ w, (Op.stringOp .add ⟨X1.toArray⟩ ⟨D.toArray⟩).run Tryd.prog w = .ok (.string ⟨X2.toArray⟩) w
  x3 : ∀ w, (Op.stringOp .add ⟨X2.toArray⟩ ⟨#[32]⟩).run Tryd.prog w = .ok (.string ⟨X3.toArray⟩) w
  x4 : ∀ w, (Op.stringOp .add ⟨X3.toArray⟩ ⟨N2.toArray⟩).run Tryd.prog w = .ok (.string ⟨X4.toArray⟩) w
  x5 : ∀ w, (Op.stringOp .add ⟨X4.toArray⟩ ⟨#[32]⟩).run Tryd.prog w = .ok (.string ⟨X5.toArray⟩) w
  x6 : ∀ w, (Op.stringOp .add ⟨X5.toArray⟩ ⟨Y.toArray⟩).run Tryd.prog w = .ok (.string ⟨X6.toArray⟩) w
theorem prt_ex (wk d m y : Nat) (hw : wk < 7) (hd : d ≤ 31) (h1 : 1 ≤ m) (h2 : m ≤ 12) : ∃ N1 N2 D Y X1 X2 X3 X4 X5 X6, Prt wk d m y N1 N2 D Y X1 X2 X3 X4 X5 X6 ∧ X6 = ((((nthL weeksL wk ++ [44, 32]) ++ Lib.decDigits d) ++ [32]) ++ nthL monthsL (m - 1)) ++ [32] ++ dgs 4 y ∧ X6.length ≤ 100 := by
  have l1 : (nthL weeksL wk).length = 3 := nth_len (by show _ ≤ 21; omega)
  have l2 : (nthL monthsL (m - 1)).length = 3 := nth_len (by show _ ≤ 36; omega)
  have l3 := dec_small hd
  refine ⟨_, _, _, _, _, _, _, _, _, _, ⟨rfl, rfl, rfl, rfl, add_to _ [44, 32] _ rfl ?_, add_to _ _ _ rfl ?_, add_to _ [32] _ rfl ?_, add_to _ _ _ rfl ?_, add_to _ [32] _ rfl ?_, add_to _ _ _ rfl ?_⟩, rfl, ?_⟩
  all_goals
    simp only [List.length_append, dgs_len, l1, l2, List.length_cons, List.length_nil]
    try omega
/-- The strings of PrintShort, one by one. -/
structure Shr (d m y : Nat) (N2 D Y X1 X2 X3 X4 X5 : List UInt8) : Prop where
  n2 : nthL monthsL (m - 1) = N2
  dd : Lib.decDigits d = D
  yy : dgs 4 y = Y
  x1 : ∀ w, (Op.stringOp .add ⟨D.toArray⟩ ⟨#[45]⟩).run Tryd.prog w = .ok (.string ⟨X1.toArray⟩) w
  x2 : ∀ w, (Op.stringOp .add ⟨X1.toArray⟩ ⟨N2.toArray⟩).run Tryd.prog w = .ok (.string ⟨X2.toArray⟩) w
  x3 : ∀ w, (Op.stringOp .add ⟨X2.toArray⟩ ⟨#[45]⟩).run Tryd.prog w = .ok (.string ⟨X3.toArray⟩) w
  x4 : ∀ w, (Op.stringOp .add ⟨X3.toArray⟩ ⟨Y.toArray⟩).run Tryd.prog w = .ok (.string ⟨X4.toArray⟩) w
  x5 : ∀ w, (Op.stringOp .add ⟨#[32]⟩ ⟨X4.toArray⟩).run Tryd.prog w = .ok (.string ⟨X5.toArray⟩) w
theorem shr_ex (d m y : Nat) (hd : d ≤ 31) (h1 : 1 ≤ m) (h2 : m ≤ 12) : ∃ N2 D Y X1 X2 X3 X4 X5, Shr d m y N2 D Y X1 X2 X3 X4 X5 ∧ X4 = (((Lib.decDigits d ++ [45]) ++ nthL monthsL (m - 1)) ++ [45]) ++ dgs 4 y ∧ X5 = [32] ++ X4 ∧ X5.length ≤ 100 := by
  have l2 : (nthL monthsL (m - 1)).length = 3 := nth_len (by show _ ≤ 36; omega)
  have l3 := dec_small hd
  refine ⟨_, _, _, _, _, _, _, _, ⟨rfl, rfl, rfl, add_to _ [45] _ rfl ?_, add_to _ _ _ rfl ?_, add_to _ [45] _ rfl ?_, add_to _ _ _ rfl ?_, add_to [32] _ _ rfl ?_⟩, rfl, rfl, ?_⟩
  all_goals
    simp only [List.length_append, dgs_len, l2, List.length_cons, List.length_nil]
    try omega

theorem print_no (sec zone : Int) (w : World) (h : okT sec zone = false) (hs1 : -9223372036854775808 ≤ sec) (hs2 : sec ≤ 9223372036854775807) (hz1 : -9223372036854775808 ≤ zone) (hz2 : zone ≤ 9223372036854775807) :
    Calls Tryd.prog 24 #[timeV sec zone] w fun e w' => e = .returned (.tuple #[.string ⟨#[]⟩, .int .i64 2]) ∧ Below w.heap.size w w' := by
  have HT := Lib.hid (fun w => there_no sec zone w h hs1 hs2 hz1 hz2)
  clear h hs1 hs2 hz1 hz2
  unfold timeV at HT ⊢
  go_enter Tryd.func24, Tryd.ntmps24
  go_wp2_with fail
  refine (HT.out _).mono ?_
  rintro e w1 ⟨rfl, hb1⟩
  go_wp2
  go_ret2
  exact ⟨rfl, (bal (Below.refl _ _) _).trans (hb1.mono (by simp))⟩

set_option maxHeartbeats 1000000 in
theorem print_yes (sec zone : Int) (y m d wk o : Nat) (w : World) (h : okT sec zone = true) (hr : rt y m d = true) (hn : num y m d = (sec + 60 * zone) / 86400) (hwk : (num y m d + 3) % 7 = (wk : Int)) (ho : (sec + 60 * zone) % 86400 = (o : Int)) (hP : Pows w) :
    Calls Tryd.prog 24 #[timeV sec zone] w fun e w' => e = .returned (.tuple #[.string ⟨(printL wk d m y o (decide (zone < 0)) zone.natAbs).toArray⟩, .int .i64 0]) ∧ Below w.heap.size w w' := by
  have HT := Lib.hid (fun w => there_yes sec zone w h)
  have HC := Lib.hid (fun w => civil_yes y m d w hr)
  have hin := num_in hr
  rw [rt_iff] at hr
  have hdm := dim_bd y m
  have hx : Hid ((((m : Nat) : Int) - 1) = ((m - 1 : Nat) : Int)) := Lib.hid (by omega)
  rw [okT_iff] at h
  have hz1 : -1439 ≤ zone := h.1
  have hz2 : zone ≤ 1439 := h.2.1
  have ho' : o < 86400 := by omega
  have hwk' : wk < 7 := by omega
  obtain ⟨N1, N2, D, Y, X1, X2, X3, X4, X5, X6, K, hX6, hXl⟩ := prt_ex wk d m y hwk' (by omega) (by omega) (by omega)
  obtain ⟨C, hC⟩ : ∃ C, clkL o (decide (zone < 0)) zone.natAbs = C := ⟨_, rfl⟩
  have hcl := clkL_len o (decide (zone < 0)) zone.natAbs
  rw [hC] at hcl
  obtain ⟨Z, hZ⟩ : ∃ Z, printL wk d m y o (decide (zone < 0)) zone.natAbs = Z := ⟨_, rfl⟩
  have z1 : ∀ w, (Op.stringOp .add ⟨X6.toArray⟩ ⟨C.toArray⟩).run Tryd.prog w = .ok (.string ⟨Z.toArray⟩) w := add_to X6 C Z (by rw [← hZ, printL, hC, ← hX6]) (by rw [← hZ, printL, hC, ← hX6, List.length_append]; omega)
  rw [hZ]
  have HWk := Lib.hid (fun (w : World) => week_any (num y m d) w (by omega) (by omega))
  rw [hwk, hn] at HWk
  rw [hn] at HC
  rw [ho] at HT
  have HCK := Lib.hid (fun (w : World) (hP : Pows w) => clock_any o zone w ho' hz1 hz2 hP)
  rw [hC] at HCK
  have x1 := K.x1; have x2 := K.x2; have x3 := K.x3; have x4 := K.x4; have x5 := K.x5; have x6 := K.x6
  clear hZ hC hX6 hXl hcl hn ho hwk
  have HP := Lib.hid hP
  clear hP hin
  unfold timeV at HT ⊢
  unfold dayV at HC
  generalize (sec + 60 * zone) / 86400 = dn at *
  have hW : ∀ w1 : World, Below (w.alloc (.cells #[.int .i64 sec, .int .i64 zone] 35)).heap.size (w.alloc (.cells #[.int .i64 sec, .int .i64 zone] 35)) w1 → w1.cell? ⟨w.heap.size, 1, none⟩ = some (.int .i64 zone) := fun w1 hb => (hb.cell (by simp)).trans (World.cell?_alloc_mark _ _ _ _ _)
  have HW := Lib.hid hW
  have hB0 : Below w.heap.size w (w.alloc (.cells #[.int .i64 sec, .int .i64 zone] 35)) := bal (Below.refl _ _) _
  have HB0 := Lib.hid hB0
  clear hW hB0
  go_enter Tryd.func24, Tryd.ntmps24
  go_wp2_with fail
  refine (HT.out _).mono ?_
  rintro e w1 ⟨rfl, hb1⟩
  go_wp2_with fail
  refine (HC.out _).mono ?_
  rintro e w2 ⟨rfl, hb2⟩
  have hb3 := hb1.trans (hb2.mono hb1.size)
  obtain ⟨W0, hW0⟩ : ∃ W0, w2.alloc (.cells #[.int .i64 (y : Int), .int .i64 (m : Int), .int .i64 (d : Int)] 23) = W0 := ⟨_, rfl⟩
  have hb4 : Below (w.alloc (.cells #[.int .i64 sec, .int .i64 zone] 35)).heap.size (w.alloc (.cells #[.int .i64 sec, .int .i64 zone] 35)) W0 := by rw [← hW0]; exact bal hb3 _
  have hz : w2.heap.size < W0.heap.size := by rw [← hW0]; simp
  have KC : ∀ wx, Below W0.heap.size W0 wx → wx.cell? ⟨w2.heap.size, 0, none⟩ = some (.int .i64 (y : Int)) ∧ wx.cell? ⟨w2.heap.size, 1, none⟩ = some (.int .i64 (m : Int)) ∧ wx.cell? ⟨w2.heap.size, 2, none⟩ = some (.int .i64 (d : Int)) := fun wx hb => by
    refine ⟨(hb.cell hz).trans ?_, (hb.cell hz).trans ?_, (hb.cell hz).trans ?_⟩ <;> rw [← hW0] <;> exact World.cell?_alloc_mark _ _ _ _ _
  have hPW : ∀ wx, Below W0.heap.size W0 wx → Pows wx := fun wx hb => ((HP.out.below HB0.out).below hb4).below hb
  have cN2 : ∀ W, Below W0.heap.size W0 W → Calls Tryd.prog 56 #[.string ⟨#[74, 97, 110, 70, 101, 98, 77, 97, 114, 65, 112, 114, 77, 97, 121, 74, 117, 110, 74, 117, 108, 65, 117, 103, 83, 101, 112, 79, 99, 116, 78, 111, 118, 68, 101, 99]⟩, .int .i64 ((m : Int) - 1)] W fun e w' => e = .returned (.string ⟨N2.toArray⟩) ∧ Below W0.heap.size W0 w' := fun W hb => (nth_any _ (m - 1) _ hx.out N2 K.n2 W (by show _ ≤ 36; omega) (by show 36 ≤ _; omega)).mono fun e w' ⟨a, b⟩ => ⟨a, b ▸ hb⟩
  have cD : ∀ W, Below W0.heap.size W0 W → Calls Tryd.prog 57 #[.int .i64 (d : Int)] W fun e w' => e = .returned (.string ⟨D.toArray⟩) ∧ Below W0.heap.size W0 w' := fun W hb => (itoa_of _ d rfl D K.dd W (by omega) (hPW W hb)).mono fun e w' ⟨a, b⟩ => ⟨a, hb.trans (b.mono hb.size)⟩
  have cY : ∀ W, Below W0.heap.size W0 W → Calls Tryd.prog 58 #[.int .i64 (y : Int), .int .i64 4] W fun e w' => e = .returned (.string ⟨Y.toArray⟩) ∧ Below W0.heap.size W0 w' := fun W hb => (digits_of _ y 4 rfl Y K.yy W (by omega) (by omega) (by omega) (hPW W hb) _ rfl).mono fun e w' ⟨a, b⟩ => ⟨a, hb.trans (b.mono hb.size)⟩
  have cN1 : ∀ W, Below W0.heap.size W0 W → Calls Tryd.prog 56 #[.string ⟨#[77, 111, 110, 84, 117, 101, 87, 101, 100, 84, 104, 117, 70, 114, 105, 83, 97, 116, 83, 117, 110]⟩, .int .i64 (wk : Int)] W fun e w' => e = .returned (.string ⟨N1.toArray⟩) ∧ Below W0.heap.size W0 w' := fun W hb => (nth_any _ wk _ rfl N1 K.n1 W (by show _ ≤ 21; omega) (by show 21 ≤ _; omega)).mono fun e w' ⟨a, b⟩ => ⟨a, b ▸ hb⟩
  have cW : ∀ W, Below W0.heap.size W0 W → Calls Tryd.prog 14 #[.int .i64 dn] W fun e w' => e = .returned (.int .i64 (wk : Int)) ∧ Below W0.heap.size W0 w' := fun W hb => (HWk.out W).mono fun e w' ⟨a, b⟩ => ⟨a, b ▸ hb⟩
  have HW0 := Lib.hid hW0
  have HZ0 := Lib.hid hz
  have hB := Below.refl W0.heap.size W0
  have hwr : IntKind.i64.wrap ((m : Int) - 1) = (m : Int) - 1 := IntWalk.i64_in _ (by omega)
  have hBd := hB.drew
  clear hW0 hz K
  go_wp2_with fail
  rw [HW0.out]
  go_region_held3 (fun wx => Below W0.heap.size W0 wx ∧ wx.cell? ⟨w2.heap.size, 0, none⟩ = some (.int .i64 (y : Int)) ∧ wx.cell? ⟨w2.heap.size, 1, none⟩ = some (.int .i64 (m : Int)) ∧ wx.cell? ⟨w2.heap.size, 2, none⟩ = some (.int .i64 (d : Int))) (first | exact ⟨by assumption, KC _ (by assumption)⟩) (first
      | (go_at_call 56; ((with_reducible refine (cN1 _ (by assumption)).mono ?_); rintro e wn ⟨rfl, hBn⟩))
      | (go_at_call 56; ((with_reducible refine (cN2 _ (by assumption)).mono ?_); rintro e wn ⟨rfl, hBn⟩))
      | (go_at_call 58; ((with_reducible refine (cY _ (by assumption)).mono ?_); rintro e wn ⟨rfl, hBn⟩))
      | (go_at_call 14; ((with_reducible refine (cW _ (by assumption)).mono ?_); rintro e wn ⟨rfl, hBn⟩))
      | (go_at_call 57; ((with_reducible refine (cD _ (by assumption)).mono ?_); rintro e wn ⟨rfl, hBn⟩)))
  have hb5 := hb4.trans (hBn.mono hb4.size)
  have kz := HW.out _ hb5
  have hpz := Lib.hid (hPW _ hBn)
  clear hB hBd hBn
  go_wp2_with fail
  refine (HCK.out _ hpz.out).mono ?_
  rintro e w7 ⟨rfl, hb7⟩
  go_wp2
  go_ret2
  have hb8 := hb5.trans (hb7.mono hb5.size)
  exact ⟨rfl, HB0.out.trans (hb8.mono HB0.out.size)⟩

theorem short_no (sec zone : Int) (w : World) (h : okT sec zone = false) (hs1 : -9223372036854775808 ≤ sec) (hs2 : sec ≤ 9223372036854775807) (hz1 : -9223372036854775808 ≤ zone) (hz2 : zone ≤ 9223372036854775807) :
    Calls Tryd.prog 26 #[timeV sec zone] w fun e w' => e = .returned (.tuple #[.string ⟨#[]⟩, .int .i64 2]) ∧ Below w.heap.size w w' := by
  have HT := Lib.hid (fun w => there_no sec zone w h hs1 hs2 hz1 hz2)
  clear h hs1 hs2 hz1 hz2
  unfold timeV at HT ⊢
  go_enter Tryd.func26, Tryd.ntmps26
  go_wp2_with fail
  refine (HT.out _).mono ?_
  rintro e w1 ⟨rfl, hb1⟩
  go_wp2
  go_ret2
  exact ⟨rfl, (bal (Below.refl _ _) _).trans (hb1.mono (by simp))⟩

set_option maxHeartbeats 1000000 in
theorem short_yes (sec zone : Int) (y m d wk o : Nat) (w : World) (h : okT sec zone = true) (hr : rt y m d = true) (hn : num y m d = (sec + 60 * zone) / 86400) (hwk : (num y m d + 3) % 7 = (wk : Int)) (ho : (sec + 60 * zone) % 86400 = (o : Int)) (hP : Pows w) :
    Calls Tryd.prog 26 #[timeV sec zone] w fun e w' => e = .returned (.tuple #[.string ⟨(shortL d m y o (decide (zone < 0)) zone.natAbs).toArray⟩, .int .i64 0]) ∧ Below w.heap.size w w' := by
  have HT := Lib.hid (fun w => there_yes sec zone w h)
  have HC := Lib.hid (fun w => civil_yes y m d w hr)
  have hin := num_in hr
  rw [rt_iff] at hr
  have hdm := dim_bd y m
  have hx : Hid ((((m : Nat) : Int) - 1) = ((m - 1 : Nat) : Int)) := Lib.hid (by omega)
  rw [okT_iff] at h
  have hz1 : -1439 ≤ zone := h.1
  have hz2 : zone ≤ 1439 := h.2.1
  have ho' : o < 86400 := by omega
  have hwk' : wk < 7 := by omega
  obtain ⟨N2, D, Y, X1, X2, X3, X4, X5, K, hX4, hX5, hXl⟩ := shr_ex d m y (by omega) (by omega) (by omega)
  obtain ⟨C, hC⟩ : ∃ C, clkL o (decide (zone < 0)) zone.natAbs = C := ⟨_, rfl⟩
  have hcl := clkL_len o (decide (zone < 0)) zone.natAbs
  rw [hC] at hcl
  have hXl4 : X4.length ≤ 100 := by rw [hX5] at hXl; simp at hXl; omega
  obtain ⟨Z, hZ⟩ : ∃ Z, shortL d m y o (decide (zone < 0)) zone.natAbs = Z := ⟨_, rfl⟩
  have z1 : d < 10 → ∀ w, (Op.stringOp .add ⟨X5.toArray⟩ ⟨C.toArray⟩).run Tryd.prog w = .ok (.string ⟨Z.toArray⟩) w := fun h10 => add_to X5 C Z (by rw [← hZ, shortL, hC, ← hX4, if_pos h10, hX5]) (by rw [← hZ, shortL, hC, ← hX4, if_pos h10, List.length_append, List.length_append]; simp only [List.length_cons, List.length_nil]; omega)
  have z2 : ¬ d < 10 → ∀ w, (Op.stringOp .add ⟨X4.toArray⟩ ⟨C.toArray⟩).run Tryd.prog w = .ok (.string ⟨Z.toArray⟩) w := fun h10 => add_to X4 C Z (by rw [← hZ, shortL, hC, ← hX4, if_neg h10, List.nil_append]) (by rw [← hZ, shortL, hC, ← hX4, if_neg h10, List.nil_append, List.length_append]; omega)
  rw [hZ]
  rw [hn] at HC
  rw [ho] at HT
  have HCK := Lib.hid (fun (w : World) (hP : Pows w) => clock_any o zone w ho' hz1 hz2 hP)
  rw [hC] at HCK
  have x1 := K.x1; have x2 := K.x2; have x3 := K.x3; have x4 := K.x4; have x5 := K.x5
  have HZ1 := Lib.hid z1
  have HZ2 := Lib.hid z2
  clear z1 z2 hZ hC hX4 hX5 hXl hXl4 hcl hn ho hwk
  have HP := Lib.hid hP
  clear hP hin
  unfold timeV at HT ⊢
  unfold dayV at HC
  generalize (sec + 60 * zone) / 86400 = dn at *
  have hW : ∀ w1 : World, Below (w.alloc (.cells #[.int .i64 sec, .int .i64 zone] 35)).heap.size (w.alloc (.cells #[.int .i64 sec, .int .i64 zone] 35)) w1 → w1.cell? ⟨w.heap.size, 1, none⟩ = some (.int .i64 zone) := fun w1 hb => (hb.cell (by simp)).trans (World.cell?_alloc_mark _ _ _ _ _)
  have HW := Lib.hid hW
  have hB0 : Below w.heap.size w (w.alloc (.cells #[.int .i64 sec, .int .i64 zone] 35)) := bal (Below.refl _ _) _
  have HB0 := Lib.hid hB0
  clear hW hB0
  go_enter Tryd.func26, Tryd.ntmps26
  go_wp2_with fail
  refine (HT.out _).mono ?_
  rintro e w1 ⟨rfl, hb1⟩
  go_wp2_with fail
  refine (HC.out _).mono ?_
  rintro e w2 ⟨rfl, hb2⟩
  have hb3 := hb1.trans (hb2.mono hb1.size)
  obtain ⟨W0, hW0⟩ : ∃ W0, w2.alloc (.cells #[.int .i64 (y : Int), .int .i64 (m : Int), .int .i64 (d : Int)] 23) = W0 := ⟨_, rfl⟩
  have hb4 : Below (w.alloc (.cells #[.int .i64 sec, .int .i64 zone] 35)).heap.size (w.alloc (.cells #[.int .i64 sec, .int .i64 zone] 35)) W0 := by rw [← hW0]; exact bal hb3 _
  have hz : w2.heap.size < W0.heap.size := by rw [← hW0]; simp
  have KC : ∀ wx, Below W0.heap.size W0 wx → wx.cell? ⟨w2.heap.size, 0, none⟩ = some (.int .i64 (y : Int)) ∧ wx.cell? ⟨w2.heap.size, 1, none⟩ = some (.int .i64 (m : Int)) ∧ wx.cell? ⟨w2.heap.size, 2, none⟩ = some (.int .i64 (d : Int)) := fun wx hb => by
    refine ⟨(hb.cell hz).trans ?_, (hb.cell hz).trans ?_, (hb.cell hz).trans ?_⟩ <;> rw [← hW0] <;> exact World.cell?_alloc_mark _ _ _ _ _
  have hPW : ∀ wx, Below W0.heap.size W0 wx → Pows wx := fun wx hb => ((HP.out.below HB0.out).below hb4).below hb
  have cN2 : ∀ W, Below W0.heap.size W0 W → Calls Tryd.prog 56 #[.string ⟨#[74, 97, 110, 70, 101, 98, 77, 97, 114, 65, 112, 114, 77, 97, 121, 74, 117, 110, 74, 117, 108, 65, 117, 103, 83, 101, 112, 79, 99, 116, 78, 111, 118, 68, 101, 99]⟩, .int .i64 ((m : Int) - 1)] W fun e w' => e = .returned (.string ⟨N2.toArray⟩) ∧ Below W0.heap.size W0 w' := fun W hb => (nth_any _ (m - 1) _ hx.out N2 K.n2 W (by show _ ≤ 36; omega) (by show 36 ≤ _; omega)).mono fun e w' ⟨a, b⟩ => ⟨a, b ▸ hb⟩
  have cD : ∀ W, Below W0.heap.size W0 W → Calls Tryd.prog 57 #[.int .i64 (d : Int)] W fun e w' => e = .returned (.string ⟨D.toArray⟩) ∧ Below W0.heap.size W0 w' := fun W hb => (itoa_of _ d rfl D K.dd W (by omega) (hPW W hb)).mono fun e w' ⟨a, b⟩ => ⟨a, hb.trans (b.mono hb.size)⟩
  have cY : ∀ W, Below W0.heap.size W0 W → Calls Tryd.prog 58 #[.int .i64 (y : Int), .int .i64 4] W fun e w' => e = .returned (.string ⟨Y.toArray⟩) ∧ Below W0.heap.size W0 w' := fun W hb => (digits_of _ y 4 rfl Y K.yy W (by omega) (by omega) (by omega) (hPW W hb) _ rfl).mono fun e w' ⟨a, b⟩ => ⟨a, hb.trans (b.mono hb.size)⟩
  have HW0 := Lib.hid hW0
  have HZ0 := Lib.hid hz
  have hB := Below.refl W0.heap.size W0
  have hwr : IntKind.i64.wrap ((m : Int) - 1) = (m : Int) - 1 := IntWalk.i64_in _ (by omega)
  have hBd := hB.drew
  clear hW0 hz K
  go_wp2_with fail
  rw [HW0.out]
  go_region_held3 (fun wx => Below W0.heap.size W0 wx ∧ wx.cell? ⟨w2.heap.size, 0, none⟩ = some (.int .i64 (y : Int)) ∧ wx.cell? ⟨w2.heap.size, 1, none⟩ = some (.int .i64 (m : Int)) ∧ wx.cell? ⟨w2.heap.size, 2, none⟩ = some (.int .i64 (d : Int))) (first | exact ⟨by assumption, KC _ (by assumption)⟩) (first
      | (go_at_call 56; ((with_reducible refine (cN2 _ (by assumption)).mono ?_); rintro e wn ⟨rfl, hBn⟩))
      | (go_at_call 58; ((with_reducible refine (cY _ (by assumption)).mono ?_); rintro e wn ⟨rfl, hBn⟩))
      | (go_at_call 57; ((with_reducible refine (cD _ (by assumption)).mono ?_); rintro e wn ⟨rfl, hBn⟩)))
  have hb5 := hb4.trans (hBn.mono hb4.size)
  have kz := HW.out _ hb5
  have hpz := Lib.hid (hPW _ hBn)
  obtain ⟨q0, q1, q2⟩ := KC _ hBn
  clear q0 q1 hB hBd hBn
  by_cases h10 : d < 10
  · have zz := HZ1.out h10
    go_wp2_with fail
    refine (HCK.out _ hpz.out).mono ?_
    rintro e w7 ⟨rfl, hb7⟩
    go_wp2
    go_ret2
    have hb8 := hb5.trans (hb7.mono hb5.size)
    exact ⟨rfl, HB0.out.trans (hb8.mono HB0.out.size)⟩
  · have zz := HZ2.out h10
    go_wp2_with fail
    refine (HCK.out _ hpz.out).mono ?_
    rintro e w7 ⟨rfl, hb7⟩
    go_wp2
    go_ret2
    have hb8 := hb5.trans (hb7.mono hb5.size)
    exact ⟨rfl, HB0.out.trans (hb8.mono HB0.out.size)⟩
end Go.Proofs.YtkkmjadkagpihaaDoor
