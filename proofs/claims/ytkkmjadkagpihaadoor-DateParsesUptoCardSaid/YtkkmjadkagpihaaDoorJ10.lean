/- Date: the code's digits, nth, clockZone. -/
import Derived.Test.YtkkmjadkagpihaaDoorJ8
import Derived.Test.YtkkmjadkagpihaaDoorJ9
import Derived.Test.YtkkmjadkagpihaaDoorShelf
import Derived.Lib.AppendIntMem
namespace Go.Proofs.YtkkmjadkagpihaaDoor
open Go Go.RowKit

/-- The cells of strconv's powers. -/
def Pows (w : World) : Prop := Lib.TabIs Tryd.prog w "internal/strconv.uint64pow10" .u64 Lib.pow10Tab

theorem add_to (x y z : List UInt8) (h : z = x ++ y) (hz : z.length ≤ 1000000) (w : World) : (Op.stringOp .add ⟨x.toArray⟩ ⟨y.toArray⟩).run Tryd.prog w = .ok (.string ⟨z.toArray⟩) w := by
  rw [h] at hz ⊢
  exact run_add_lists w x y (by rw [List.length_append] at hz; omega)
theorem size_mk (l : List UInt8) : (⟨l.toArray⟩ : ByteArray).size = l.length := by show l.toArray.size = _; simp

theorem digits_any (n size : Nat) (L : List UInt8) (hL : dgs size n = L) (w : World) (hn : n < 10 ^ size) (h1 : 1 ≤ size) (h2 : size ≤ 18) (hP : Pows w) :
    Calls Tryd.prog 58 #[.int .i64 (n : Int), .int .i64 (size : Int)] w fun e w' => e = .returned (.string ⟨L.toArray⟩) ∧ Below w.heap.size w w' := by
  have hlt : n < 10 ^ 18 := Nat.lt_of_lt_of_le hn (Nat.pow_le_pow_right (by omega) h2)
  have hlt2 : n < 1000000000000000000 := by simpa using hlt
  have hc := Tryd.strconv_Itoa (n : Int) (by omega) (by omega) w hP
  obtain ⟨hle, hfill⟩ := dgs_fill size n hn h1
  have hit : Lib.itoa (n : Int) = Lib.decDigits n := by unfold Lib.itoa; rw [if_neg (by omega)]; rfl
  rw [hit] at hc
  obtain ⟨D, hD⟩ : ∃ D, Lib.decDigits n = D := ⟨_, rfl⟩
  rw [hD] at hc hle hfill
  obtain ⟨R, hR⟩ : ∃ R, Lib.repeatL [48] (size - D.length) = R := ⟨_, rfl⟩
  have hrep := fun w => Tryd.strings_Repeat ⟨#[48]⟩ (size - D.length) w (by omega) (by show 1 * _ ≤ _; omega)
  rw [show (⟨#[48]⟩ : ByteArray).data.toList = [48] from rfl, hR] at hrep
  rw [hR] at hfill
  have hll : L.length = size := by rw [← hL, dgs_len]
  have radd := fun w => add_to R D L (by rw [← hL, hfill]) (by omega) w
  have hsub : ((size : Int) - (D.length : Int)) = ((size - D.length : Nat) : Int) := by omega
  have HS := Lib.hid hsub
  have HC := Lib.hid hc
  have HR := Lib.hid hrep
  have hds : (⟨D.toArray⟩ : ByteArray).size = D.length := size_mk D
  clear hc hrep hit hD hR hL hfill hlt hn hsub hP hll
  go_enter Tryd.func58, Tryd.ntmps58
  go_wp2_with fail
  refine HC.out.mono ?_
  rintro e w1 ⟨rfl, k, os, hw⟩
  have hb1 : Below w.heap.size w w1 := by rw [hw]; exact Lib.below_grow _ _ (Nat.le_refl _) _ _
  clear hw
  go_wp2_with fail
  rw [HS.out]
  refine (HR.out _).mono ?_
  rintro e w2 ⟨rfl, hb2⟩
  go_wp2
  go_ret
  exact ⟨rfl, hb1.trans (hb2.mono hb1.size)⟩

theorem Pows.below {w w' : World} (h : Pows w) (hb : Below w.heap.size w w') : Pows w' := by
  unfold Pows Lib.TabIs at *
  unfold World.var? at *
  cases hg : Tryd.prog.globalNamed "internal/strconv.uint64pow10" with
  | none => simp [hg] at h
  | some g =>
    simp only [hg, Option.bind_some] at h ⊢
    have hlt : g < w.heap.size := by
      rcases Nat.lt_or_ge g w.heap.size with h' | h'
      · exact h'
      · simp [Array.getElem?_eq_none h'] at h
    rw [hb.block g hlt]
    exact h
theorem str_ext {s : ByteArray} {l : List UInt8} (h : s.data.toList = l) : s = ⟨l.toArray⟩ := by subst h; cases s; simp
theorem ret_string {s : ByteArray} {l : List UInt8} (h : s.data.toList = l) : Ending.returned (.string s) = .returned (.string ⟨l.toArray⟩) := by rw [← str_ext h]
theorem digits_of (x : Int) (n size : Nat) (hx : x = (n : Int)) (L : List UInt8) (hL : dgs size n = L) (w : World) (hn : n < 10 ^ size) (h1 : 1 ≤ size) (h2 : size ≤ 18) (hP : Pows w) (y : Int) (hy : y = (size : Int)) :
    Calls Tryd.prog 58 #[.int .i64 x, .int .i64 y] w fun e w' => e = .returned (.string ⟨L.toArray⟩) ∧ Below w.heap.size w w' := by
  subst hx; subst hy
  exact digits_any n size L hL w hn h1 h2 hP

theorem nth_any (s : ByteArray) (k : Nat) (x : Int) (hx : x = (k : Int)) (L : List UInt8) (hL : nthL s.data.toList k = L) (w : World) (h : 3 * k + 3 ≤ s.size) (hs : s.size ≤ 1000) :
    Calls Tryd.prog 56 #[.string s, .int .i64 x] w fun e w' => e = .returned (.string ⟨L.toArray⟩) ∧ w = w' := by
  subst hx
  have hd : (s.extract (3 * k) (3 * k + 3)).data.toList = L := by
    rw [Lib.extract_data, show 3 * k + 3 - 3 * k = 3 by omega]; exact hL
  have HD := Lib.hid hd
  clear hd hL
  go_enter Tryd.func56, Tryd.ntmps56
  go_wp2
  go_ret
  exact ⟨ret_string HD.out, rfl⟩

/-- The strings of clockZone, one by one. -/
structure Clk (o z : Nat) (sg A1 A2 A3 B1 B2 X1 X2 X3 X4 X5 X6 X7 X8 : List UInt8) : Prop where
  a1 : dgs 2 (o / 3600) = A1
  a2 : dgs 2 (o / 60 % 60) = A2
  a3 : dgs 2 (o % 60) = A3
  b1 : dgs 2 (z / 60) = B1
  b2 : dgs 2 (z % 60) = B2
  x1 : ∀ w, (Op.stringOp .add ⟨A1.toArray⟩ ⟨#[58]⟩).run Tryd.prog w = .ok (.string ⟨X1.toArray⟩) w
  x2 : ∀ w, (Op.stringOp .add ⟨X1.toArray⟩ ⟨A2.toArray⟩).run Tryd.prog w = .ok (.string ⟨X2.toArray⟩) w
  x3 : ∀ w, (Op.stringOp .add ⟨X2.toArray⟩ ⟨#[58]⟩).run Tryd.prog w = .ok (.string ⟨X3.toArray⟩) w
  x4 : ∀ w, (Op.stringOp .add ⟨X3.toArray⟩ ⟨A3.toArray⟩).run Tryd.prog w = .ok (.string ⟨X4.toArray⟩) w
  x5 : ∀ w, (Op.stringOp .add ⟨#[32]⟩ ⟨X4.toArray⟩).run Tryd.prog w = .ok (.string ⟨X5.toArray⟩) w
  x6 : ∀ w, (Op.stringOp .add ⟨X5.toArray⟩ ⟨sg.toArray⟩).run Tryd.prog w = .ok (.string ⟨X6.toArray⟩) w
  x7 : ∀ w, (Op.stringOp .add ⟨X6.toArray⟩ ⟨B1.toArray⟩).run Tryd.prog w = .ok (.string ⟨X7.toArray⟩) w
  x8 : ∀ w, (Op.stringOp .add ⟨X7.toArray⟩ ⟨B2.toArray⟩).run Tryd.prog w = .ok (.string ⟨X8.toArray⟩) w
theorem clk_ex (o z : Nat) (neg : Bool) : ∃ A1 A2 A3 B1 B2 X1 X2 X3 X4 X5 X6 X7, Clk o z (if neg then [32, 45] else [32, 43]) A1 A2 A3 B1 B2 X1 X2 X3 X4 X5 X6 X7 (clkL o neg z) :=
  ⟨_, _, _, _, _, _, _, _, _, _, _, _, rfl, rfl, rfl, rfl, rfl,
    add_to _ [58] _ rfl (by simp [dgs_len]), add_to _ _ _ rfl (by simp [dgs_len]), add_to _ [58] _ rfl (by simp [dgs_len]), add_to _ _ _ rfl (by simp [dgs_len]),
    add_to [32] _ _ rfl (by simp [dgs_len]), add_to _ _ _ rfl (by cases neg <;> simp [dgs_len]), add_to _ _ _ rfl (by cases neg <;> simp [dgs_len]), add_to _ _ _ rfl (by rw [clkL_len]; omega)⟩

theorem clock_any (o : Nat) (zone : Int) (w : World) (ho : o < 86400) (hz1 : -1439 ≤ zone) (hz2 : zone ≤ 1439) (hP : Pows w) :
    Calls Tryd.prog 59 #[.int .i64 (o : Int), .int .i64 zone] w fun e w' => e = .returned (.string ⟨(clkL o (decide (zone < 0)) zone.natAbs).toArray⟩) ∧ Below w.heap.size w w' := by
  obtain ⟨A1, A2, A3, B1, B2, X1, X2, X3, X4, X5, X6, X7, K⟩ := clk_ex o zone.natAbs (decide (zone < 0))
  have HP := Lib.hid hP
  clear hP
  generalize clkL o (decide (zone < 0)) zone.natAbs = X8 at K ⊢
  by_cases hz : zone < 0
  · rw [show decide (zone < 0) = true by simpa using hz, if_pos rfl] at K
    obtain ⟨k, rfl⟩ : ∃ k : Nat, zone = -(k : Int) := ⟨zone.natAbs, by omega⟩
    rw [Int.natAbs_neg, Int.natAbs_natCast] at K
    have x1 := K.x1; have x2 := K.x2; have x3 := K.x3; have x4 := K.x4; have x5 := K.x5; have x6 := K.x6; have x7 := K.x7; have x8 := K.x8
    go_enter Tryd.func59, Tryd.ntmps59
    go_wp2_with fail
    refine (digits_of _ (o / 3600) 2 (by omega) A1 K.a1 _ (by omega) (by omega) (by omega) HP.out _ rfl).mono ?_
    rintro e w1 ⟨rfl, hb1⟩
    have HP1 := Lib.hid (HP.out.below hb1)
    go_wp2_with fail
    refine (digits_of _ (o / 60 % 60) 2 (by omega) A2 K.a2 _ (by omega) (by omega) (by omega) HP1.out _ rfl).mono ?_
    rintro e w2 ⟨rfl, hb2⟩
    have HP2 := Lib.hid (HP1.out.below hb2)
    go_wp2_with fail
    refine (digits_of _ (o % 60) 2 (by omega) A3 K.a3 _ (by omega) (by omega) (by omega) HP2.out _ rfl).mono ?_
    rintro e w3 ⟨rfl, hb3⟩
    have HP3 := Lib.hid (HP2.out.below hb3)
    go_wp2_with fail
    refine (digits_of _ (k / 60) 2 (by omega) B1 K.b1 _ (by omega) (by omega) (by omega) HP3.out _ rfl).mono ?_
    rintro e w4 ⟨rfl, hb4⟩
    have HP4 := Lib.hid (HP3.out.below hb4)
    go_wp2_with fail
    refine (digits_of _ (k % 60) 2 (by omega) B2 K.b2 _ (by omega) (by omega) (by omega) HP4.out _ rfl).mono ?_
    rintro e w5 ⟨rfl, hb5⟩
    go_wp2
    go_ret
    have b12 := hb1.trans (hb2.mono hb1.size)
    have b13 := b12.trans (hb3.mono b12.size)
    have b14 := b13.trans (hb4.mono b13.size)
    exact ⟨rfl, b14.trans (hb5.mono b14.size)⟩
  · rw [show decide (zone < 0) = false by simpa using hz, if_neg (by simp)] at K
    have x1 := K.x1; have x2 := K.x2; have x3 := K.x3; have x4 := K.x4; have x5 := K.x5; have x6 := K.x6; have x7 := K.x7; have x8 := K.x8
    go_enter Tryd.func59, Tryd.ntmps59
    go_wp2_with fail
    refine (digits_of _ (o / 3600) 2 (by omega) A1 K.a1 _ (by omega) (by omega) (by omega) HP.out _ rfl).mono ?_
    rintro e w1 ⟨rfl, hb1⟩
    have HP1 := Lib.hid (HP.out.below hb1)
    go_wp2_with fail
    refine (digits_of _ (o / 60 % 60) 2 (by omega) A2 K.a2 _ (by omega) (by omega) (by omega) HP1.out _ rfl).mono ?_
    rintro e w2 ⟨rfl, hb2⟩
    have HP2 := Lib.hid (HP1.out.below hb2)
    go_wp2_with fail
    refine (digits_of _ (o % 60) 2 (by omega) A3 K.a3 _ (by omega) (by omega) (by omega) HP2.out _ rfl).mono ?_
    rintro e w3 ⟨rfl, hb3⟩
    have HP3 := Lib.hid (HP2.out.below hb3)
    go_wp2_with fail
    refine (digits_of _ (zone.natAbs / 60) 2 (by omega) B1 K.b1 _ (by omega) (by omega) (by omega) HP3.out _ rfl).mono ?_
    rintro e w4 ⟨rfl, hb4⟩
    have HP4 := Lib.hid (HP3.out.below hb4)
    go_wp2_with fail
    refine (digits_of _ (zone.natAbs % 60) 2 (by omega) B2 K.b2 _ (by omega) (by omega) (by omega) HP4.out _ rfl).mono ?_
    rintro e w5 ⟨rfl, hb5⟩
    go_wp2
    go_ret
    have b12 := hb1.trans (hb2.mono hb1.size)
    have b13 := b12.trans (hb3.mono b12.size)
    have b14 := b13.trans (hb4.mono b13.size)
    exact ⟨rfl, b14.trans (hb5.mono b14.size)⟩
end Go.Proofs.YtkkmjadkagpihaaDoor
