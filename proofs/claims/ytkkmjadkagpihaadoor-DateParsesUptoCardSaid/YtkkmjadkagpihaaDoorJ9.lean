/- Date: a number's digits in plain words. -/
import Derived.Lib.ItoaNum
import Derived.Lib.Repeat
namespace Go.Proofs.YtkkmjadkagpihaaDoor
open Go

def dgB (d : Nat) : UInt8 := UInt8.ofNat (48 + d % 10)
/-- The last n digits of v. -/
def dgs : Nat → Nat → List UInt8
  | 0, _ => []
  | n + 1, v => dgs n (v / 10) ++ [dgB v]
theorem dgs_len : ∀ n v, (dgs n v).length = n
  | 0, _ => rfl
  | n + 1, v => by simp [dgs, dgs_len n]
theorem dgs_zero : ∀ n, dgs n 0 = Lib.repeatL [48] n
  | 0 => rfl
  | n + 1 => by
    rw [dgs, show (0 : Nat) / 10 = 0 from rfl, dgs_zero n, show [dgB 0] = Lib.repeatL [48] 1 from rfl, ← Lib.repeatL_add]
theorem decDigits_low {v : Nat} (h : v < 10) : Lib.decDigits v = [dgB v] := by
  rw [Lib.decDigits, dif_pos h]; unfold dgB; rw [Nat.mod_eq_of_lt h]
theorem decDigits_high {v : Nat} (h : ¬ v < 10) : Lib.decDigits v = Lib.decDigits (v / 10) ++ [dgB v] := by
  rw [Lib.decDigits, dif_neg h]; rfl
/-- A number of at most n digits, filled up by 0. -/
theorem dgs_fill : ∀ n v, v < 10 ^ n → 1 ≤ n → (Lib.decDigits v).length ≤ n ∧ Lib.repeatL [48] (n - (Lib.decDigits v).length) ++ Lib.decDigits v = dgs n v
  | 0, _, _, h => by omega
  | n + 1, v, hv, _ => by
    by_cases h : v < 10
    · rw [decDigits_low h]
      refine ⟨by simp, ?_⟩
      rw [dgs, show v / 10 = 0 by omega, dgs_zero]; simp
    · rw [decDigits_high h]
      have hn : 1 ≤ n := by
        cases n with
        | zero => simp at hv; omega
        | succ n => omega
      obtain ⟨a, b⟩ := dgs_fill n (v / 10) (by rw [Nat.pow_succ] at hv; omega) hn
      refine ⟨by simp; omega, ?_⟩
      rw [dgs, ← b]
      simp
/-- The digits, from the left. -/
theorem dgs_cons : ∀ n v, dgs (n + 1) v = dgB (v / 10 ^ n) :: dgs n v
  | 0, v => by simp [dgs]
  | n + 1, v => by
    rw [dgs, dgs_cons n (v / 10), Nat.div_div_eq_div_mul, show 10 * 10 ^ n = 10 ^ (n + 1) by rw [Nat.pow_succ]; omega]
    rw [List.cons_append]
    rw [show dgs (n + 1) v = dgs n (v / 10) ++ [dgB v] from rfl]
theorem dgs2 (v : Nat) : dgs 2 v = [dgB (v / 10), dgB v] := by simp [dgs]
theorem dgs4 (v : Nat) : dgs 4 v = [dgB (v / 1000), dgB (v / 100), dgB (v / 10), dgB v] := by
  simp [dgs, Nat.div_div_eq_div_mul]

def weeksL : List UInt8 := [77, 111, 110, 84, 117, 101, 87, 101, 100, 84, 104, 117, 70, 114, 105, 83, 97, 116, 83, 117, 110]
def monthsL : List UInt8 := [74, 97, 110, 70, 101, 98, 77, 97, 114, 65, 112, 114, 77, 97, 121, 74, 117, 110, 74, 117, 108, 65, 117, 103, 83, 101, 112, 79, 99, 116, 78, 111, 118, 68, 101, 99]
/-- A word of three letters. -/
def nthL (l : List UInt8) (k : Nat) : List UInt8 := (l.drop (3 * k)).take 3
/-- What stands behind a day. -/
def clkL (o : Nat) (neg : Bool) (z : Nat) : List UInt8 :=
  ((([32] ++ (((dgs 2 (o / 3600) ++ [58]) ++ dgs 2 (o / 60 % 60)) ++ [58] ++ dgs 2 (o % 60))) ++ (if neg then [32, 45] else [32, 43])) ++ dgs 2 (z / 60)) ++ dgs 2 (z % 60)
theorem clkL_len (o : Nat) (neg : Bool) (z : Nat) : (clkL o neg z).length = 15 := by
  unfold clkL; cases neg <;> simp [dgs_len]
def printL (wk d m y o : Nat) (neg : Bool) (z : Nat) : List UInt8 :=
  (((((nthL weeksL wk ++ [44, 32]) ++ Lib.decDigits d) ++ [32]) ++ nthL monthsL (m - 1)) ++ [32] ++ dgs 4 y) ++ clkL o neg z
def shortL (d m y o : Nat) (neg : Bool) (z : Nat) : List UInt8 :=
  (if d < 10 then [32] else []) ++ ((((Lib.decDigits d ++ [45]) ++ nthL monthsL (m - 1)) ++ [45]) ++ dgs 4 y) ++ clkL o neg z
end Go.Proofs.YtkkmjadkagpihaaDoor
