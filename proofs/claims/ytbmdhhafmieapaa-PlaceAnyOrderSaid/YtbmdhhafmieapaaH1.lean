/- A user's hash, by the code and by the reference; the shard at first. -/
import Derived.Test.YtbmdhhafmieapaaRows
import Derived.WalkKit
import Derived.WalkSpells
import Derived.Laws.BitsAllLaws
import Derived.Lib.Hide
import Derived.Lib.Strings
import Derived.Below
namespace Go.Proofs.Ytbmdhhafmieapaa
open Go Go.RowKit

def hashN : List UInt8 → Nat → Nat
  | [], h => h
  | b :: t, h => hashN t (((h ^^^ b.toNat) * 16777619) % 4294967296)
theorem xor_lt (a b : Nat) (ha : a < 4294967296) (hb : b < 256) : a ^^^ b < 4294967296 := Nat.xor_lt_two_pow (n := 32) ha (by omega)
theorem list_at0 (s : ByteArray) (pos : Nat) (h : pos < s.size) : s.data.toList.drop pos = s[pos] :: s.data.toList.drop (pos + 1) := by
  have hp' : pos < s.data.toList.length := by rw [← Lib.size_eq]; exact h
  rw [List.drop_eq_getElem_cons hp']; rfl
/-- A byte turned into the lowest one. -/
theorem xor_low (h b : Nat) (hb : b < 256) : h ^^^ b = h - h % 256 + (h % 256 ^^^ b) := by
  have h1 : h = 256 * (h / 256) + h % 256 := by omega
  have hlt : h % 256 ^^^ b < 256 := Nat.xor_lt_two_pow (n := 8) (by omega) hb
  have e : h ^^^ b = 256 * (h / 256) + (h % 256 ^^^ b) := by
    apply Nat.eq_of_testBit_eq
    intro i
    rw [Nat.testBit_xor, show (256 : Nat) = 2 ^ 8 from rfl, Nat.testBit_two_pow_mul_add _ hlt]
    by_cases hi : i < 8
    · rw [if_pos hi, Nat.testBit_xor, Nat.testBit_mod_two_pow]; simp [hi]
    · rw [if_neg hi]
      have hbi : b.testBit i = false := Nat.testBit_lt_two_pow (Nat.lt_of_lt_of_le hb (by
        show 2 ^ 8 ≤ 2 ^ i
        exact Nat.pow_le_pow_right (by omega) (by omega)))
      rw [hbi, Bool.xor_false, Nat.testBit_div_two_pow]
      congr 1; omega
  rw [e]; omega

set_option maxHeartbeats 1000000 in
set_option maxRecDepth 100000 in
theorem hash_any (s : ByteArray) (w : World) (hs : s.size ≤ 9223372036854775807) :
    Calls Try.prog 11 #[.string s] w fun e w' => e = .returned (.int .u32 (hashN s.data.toList 2166136261)) ∧ w = w' := by
  generalize hF : hashN s.data.toList 2166136261 = F
  have HF := Lib.hid hF
  clear hF
  go_enter Try.func11, Try.ntmps11
  go_wp2
  go_loop [3, 4, 7] (fun hv _ iv => ∃ k h : Nat, iv = .int .i64 k ∧ k ≤ s.size ∧ hv = .int .u32 h ∧ h < 4294967296 ∧ hashN (s.data.toList.drop k) h = F) (fun _ _ iv => s.size - (intOf iv).toNat)
  case atStart => exact ⟨0, 2166136261, rfl, Nat.zero_le _, rfl, by omega, HF.out⟩
  case round =>
    obtain ⟨k, h, rfl, hk, rfl, hh, hgo⟩ := hrel
    by_cases hlt : k < s.size
    · rw [list_at0 s k hlt] at hgo
      unfold hashN at hgo
      have hb := (s[k]'hlt).toNat_lt
      have hx := u32_xor_nat h (s[k]'hlt).toNat hh (by omega)
      have hxl := xor_lt h (s[k]'hlt).toNat hh hb
      generalize h ^^^ (s[k]'hlt).toNat = y at *
      have HG := Lib.hid hgo
      clear hgo
      go_wp2
      refine ⟨⟨k + 1, y * 16777619 % 4294967296, by go_num, by omega, by go_num, by omega, HG.out⟩, ?_⟩
      simp [intOf]; omega
    · rw [List.drop_eq_nil_of_le (by rw [← Lib.size_eq]; omega)] at hgo
      unfold hashN at hgo
      subst hgo
      go_wp2
      go_ret
      exact ⟨rfl, rfl⟩

theorem wrap_i64 (n : Int) (h0 : 0 ≤ n) (h1 : n < 9223372036854775808) : IntKind.i64.wrap n = n := by
  have hm : n % 18446744073709551616 = n := by omega
  unfold IntKind.wrap
  simp [IntKind.bits, IntKind.signed, hm]
  omega
theorem i64_xor_nat (a b : Nat) (ha : a < 256) (hb : b < 256) : bits .xor .i64 (a : Int) (b : Int) = ((a ^^^ b : Nat) : Int) := by
  have hx : a ^^^ b < 256 := Nat.xor_lt_two_pow (n := 8) ha hb
  show IntKind.i64.wrap ((BitVec.ofInt 64 (a : Int) ^^^ BitVec.ofInt 64 (b : Int)).toNat : Int) = _
  rw [BitVec.toNat_xor, ofInt_u64 a (by omega), ofInt_u64 b (by omega)]
  exact wrap_i64 _ (by omega) (by omega)

set_option maxHeartbeats 1000000 in
set_option maxRecDepth 100000 in
theorem refHash (s : ByteArray) (w : World) (hs : s.size ≤ 9223372036854775807) :
    Calls Try.prog 12 #[.string s] w fun e w' => e = .returned (.int .u32 (hashN s.data.toList 2166136261)) ∧ w = w' := by
  generalize hF : hashN s.data.toList 2166136261 = F
  have HF := Lib.hid hF
  clear hF
  go_enter Try.func12, Try.ntmps12
  go_wp2
  go_loop [3, 4, 5] (fun hv iv _ => ∃ k h : Nat, iv = .int .i64 k ∧ k ≤ s.size ∧ hv = .int .i64 h ∧ h < 4294967296 ∧ hashN (s.data.toList.drop k) h = F) (fun _ iv _ => s.size - (intOf iv).toNat)
  case atStart => exact ⟨0, 2166136261, rfl, Nat.zero_le _, rfl, by omega, HF.out⟩
  case round =>
    obtain ⟨k, h, rfl, hk, rfl, hh, hgo⟩ := hrel
    by_cases hlt : k < s.size
    · rw [list_at0 s k hlt] at hgo
      unfold hashN at hgo
      have hb := (s[k]'hlt).toNat_lt
      have hx := i64_xor_nat (h % 256) (s[k]'hlt).toNat (by omega) (by omega)
      have hlow := xor_low h (s[k]'hlt).toNat hb
      have hyl : h % 256 ^^^ (s[k]'hlt).toNat < 256 := Nat.xor_lt_two_pow (n := 8) (by omega) hb
      rw [hlow] at hgo
      rw [show (((h % 256 : Nat)) : Int) = (h : Int) % 256 by omega] at hx
      generalize h % 256 ^^^ (s[k]'hlt).toNat = y at *
      have HG := Lib.hid hgo
      clear hgo hlow
      go_wp2
      refine ⟨⟨k + 1, (h - h % 256 + y) * 16777619 % 4294967296, by go_num, by omega, by congr 1; omega, by omega, HG.out⟩, ?_⟩
      simp [intOf]; omega
    · rw [List.drop_eq_nil_of_le (by rw [← Lib.size_eq]; omega)] at hgo
      unfold hashN at hgo
      subst hgo
      go_wp2
      go_ret
      exact ⟨by first | rfl | (congr 2; omega), rfl⟩

set_option maxHeartbeats 400000 in
theorem right_any (n : Int) (w : World) :
    Calls Try.prog 23 #[.int .i64 n] w fun e w' => e = .returned (.bool (decide (1 ≤ n ∧ n ≤ 4))) ∧ w = w' := by
  by_cases h1 : 1 ≤ n
  · by_cases h2 : n ≤ 4
    · rw [decide_eq_true ⟨h1, h2⟩]
      go_enter Try.func23, Try.ntmps23
      go_wp2
      go_ret
      exact ⟨by first | rfl | (simp; done) | (simp; omega), rfl⟩
    · rw [decide_eq_false (by omega)]
      go_enter Try.func23, Try.ntmps23
      go_wp2
      go_ret
      exact ⟨by first | rfl | (simp; done) | (simp; omega), rfl⟩
  · rw [decide_eq_false (by omega)]
    go_enter Try.func23, Try.ntmps23
    go_wp2
    go_ret
    exact ⟨by simp, rfl⟩

def homeN (s : ByteArray) (n : Int) : Int × Int := if 1 ≤ n ∧ n ≤ 4 then ((hashN s.data.toList 2166136261 : Int) % n, 0) else (0, 2)
theorem hash_lt : ∀ (l : List UInt8) (h : Nat), h < 4294967296 → hashN l h < 4294967296 := by
  intro l
  induction l with
  | nil => intro h hh; exact hh
  | cons b t ih => intro h _; unfold hashN; exact ih _ (by omega)
set_option maxHeartbeats 400000 in
theorem home_any (s : ByteArray) (n : Int) (w : World) (hs : s.size ≤ 9223372036854775807) :
    Calls Try.prog 8 #[.string s, .int .i64 n] w fun e w' => e = .returned (.tuple #[.int .i64 (homeN s n).1, .int .i64 (homeN s n).2]) ∧ w = w' := by
  have hR := right_any n w
  have hH := hash_any s w hs
  have hl := hash_lt s.data.toList 2166136261 (by omega)
  unfold homeN
  generalize hashN s.data.toList 2166136261 = h at *
  by_cases hn : 1 ≤ n ∧ n ≤ 4
  · rw [decide_eq_true hn] at hR
    rw [if_pos hn]
    obtain ⟨n1, n2⟩ := hn
    have m1 : 0 ≤ (h : Int) % n := Int.emod_nonneg _ (by omega)
    have m2 : (h : Int) % n < n := Int.emod_lt_of_pos _ (by omega)
    have hw : wrap64 ((h : Int) % n) = (h : Int) % n := IntWalk.wrap64_in _ ⟨by omega, by omega⟩
    go_enter Try.func8, Try.ntmps8
    go_wp2_with (first | (go_at_call 23; refine hR.mono ?_; rintro e w' ⟨rfl, rfl⟩) | (go_at_call 11; refine hH.mono ?_; rintro e w' ⟨rfl, rfl⟩))
    go_ret2
    exact ⟨by simp [hw], rfl⟩
  · rw [decide_eq_false hn] at hR
    rw [if_neg hn]
    clear hn
    go_enter Try.func8, Try.ntmps8
    go_wp2_with (first | (go_at_call 23; refine hR.mono ?_; rintro e w' ⟨rfl, rfl⟩) | (go_at_call 11; refine hH.mono ?_; rintro e w' ⟨rfl, rfl⟩))
    go_ret2
    exact ⟨rfl, rfl⟩
set_option maxHeartbeats 400000 in
theorem refHome (s : ByteArray) (n : Int) (w : World) (hs : s.size ≤ 9223372036854775807) :
    Calls Try.prog 9 #[.string s, .int .i64 n] w fun e w' => e = .returned (.tuple #[.int .i64 (homeN s n).1, .int .i64 (homeN s n).2]) ∧ w = w' := by
  have hH := refHash s w hs
  have hl := hash_lt s.data.toList 2166136261 (by omega)
  unfold homeN
  generalize hashN s.data.toList 2166136261 = h at *
  by_cases hn : 1 ≤ n ∧ n ≤ 4
  · rw [if_pos hn]
    obtain ⟨n1, n2⟩ := hn
    go_enter Try.func9, Try.ntmps9
    go_wp2_with (go_at_call 12; refine hH.mono ?_; rintro e w' ⟨rfl, rfl⟩)
    go_ret2
    exact ⟨rfl, rfl⟩
  · rw [if_neg hn]
    have hc : n < 1 ∨ (1 ≤ n ∧ 4 < n) := by omega
    clear hn
    rcases hc with h1 | ⟨h1, h2⟩
    all_goals
      go_enter Try.func9, Try.ntmps9
      go_wp2
      go_ret2
      exact ⟨rfl, rfl⟩
end Go.Proofs.Ytbmdhhafmieapaa
