/- Frame, plain facts: the sum of bytes over bits; what turns within four bytes turns the sum. No program. -/
import Derived.Lib.Hide
namespace Go.Proofs.Ytjlhcgimijcghaa

/-- One bit goes through the register. -/
def stp (r x : Nat) : Nat := if r % 2 = x then r / 2 else (r / 2) ^^^ 3988292384
def bit8 (b : UInt8) : List Nat := (List.range 8).map fun j => b.toNat / 2 ^ j % 2
def bitsOf : List UInt8 → List Nat
  | [] => []
  | b :: t => bit8 b ++ bitsOf t
def crcN (l : List UInt8) : Nat := 4294967295 - (bitsOf l).foldl stp 4294967295

theorem stp_lt {r x : Nat} (h : r < 4294967296) : stp r x < 4294967296 := by
  unfold stp
  split
  · omega
  · exact Nat.xor_lt_two_pow (n := 32) (by omega) (by omega)
theorem foldl_stp_lt : ∀ (xs : List Nat) {r : Nat}, r < 4294967296 → xs.foldl stp r < 4294967296
  | [], _, h => h
  | _ :: xs, _, h => foldl_stp_lt xs (stp_lt h)
theorem length_bit8 (b : UInt8) : (bit8 b).length = 8 := by simp [bit8]
theorem bit8_at (b : UInt8) (j : Nat) (h : j < 8) : (bit8 b)[j]? = some (b.toNat / 2 ^ j % 2) := by
  unfold bit8
  rw [List.getElem?_map, List.getElem?_range h]
  rfl
theorem length_bitsOf : ∀ l : List UInt8, (bitsOf l).length = 8 * l.length
  | [] => rfl
  | b :: t => by unfold bitsOf; rw [List.length_append, length_bit8, length_bitsOf t, List.length_cons]; omega
theorem bitsOf_append : ∀ a b : List UInt8, bitsOf (a ++ b) = bitsOf a ++ bitsOf b
  | [], _ => rfl
  | x :: a, b => by simp only [List.cons_append, bitsOf, bitsOf_append a b, List.append_assoc]
theorem bitsOf_at : ∀ (l : List UInt8) (k : Nat) (h : k / 8 < l.length), (bitsOf l)[k]? = some (l[k / 8].toNat / 2 ^ (k % 8) % 2)
  | [], k, h => by simp at h
  | b :: t, k, h => by
    unfold bitsOf
    by_cases hk : k < 8
    · rw [List.getElem?_append_left (by rw [length_bit8]; exact hk), bit8_at b k hk]
      have e1 : k / 8 = 0 := by omega
      have e2 : k % 8 = k := by omega
      simp only [e1, e2, List.getElem_cons_zero]
    · rw [List.getElem?_append_right (by rw [length_bit8]; omega), length_bit8]
      have e1 : (k - 8) / 8 + 1 = k / 8 := by omega
      have e2 : (k - 8) % 8 = k % 8 := by omega
      have h' : (k - 8) / 8 < t.length := by simp only [List.length_cons] at h; omega
      rw [bitsOf_at t (k - 8) h']
      simp only [← e1, e2, List.getElem_cons_succ]
theorem drop_at (xs : List Nat) (k x : Nat) (h : xs[k]? = some x) : xs.drop k = x :: xs.drop (k + 1) := by
  obtain ⟨hk, rfl⟩ := List.getElem?_eq_some_iff.1 h
  exact List.drop_eq_getElem_cons hk
theorem crcN_lt (l : List UInt8) : crcN l < 4294967296 := by unfold crcN; omega

/-- The first bit that comes out is told by the greatest bit of what comes in. -/
theorem xor_half {a b : Nat} (h : a ^^^ 3988292384 = b ^^^ 3988292384) : a = b := by
  have e := congrArg (fun x => x ^^^ 3988292384) h
  simpa [Nat.xor_assoc] using e
theorem xor_top {a b : Nat} (ha : a < 2147483648) (hb : b < 2147483648) : a ^^^ 3988292384 ≠ b := by
  intro h
  have e := congrArg (fun x => x.testBit 31) h
  simp only [Nat.testBit_xor] at e
  rw [Nat.testBit_lt_two_pow (x := a) (i := 31) (by omega), Nat.testBit_lt_two_pow (x := b) (i := 31) (by omega)] at e
  revert e
  decide
/-- Where two registers come to the same, at each bit both were shifted alone, or both turned. -/
theorem stp_same {r s x y : Nat} (hr : r < 4294967296) (hs : s < 4294967296) (h : stp r x = stp s y) : r / 2 = s / 2 ∧ (r % 2 = x ↔ s % 2 = y) := by
  unfold stp at h
  split at h
  · rename_i h1
    split at h
    · rename_i h2; exact ⟨h, by simp [h1, h2]⟩
    · exact absurd h.symm (xor_top (by omega) (by omega))
  · rename_i h1
    split at h
    · exact absurd h (xor_top (by omega) (by omega))
    · rename_i h2; exact ⟨xor_half h, by simp [h1, h2]⟩
/-- The same bits behind: other registers stay others. -/
theorem stp_inj {r s x : Nat} (hr : r < 4294967296) (hs : s < 4294967296) (hx : x < 2) (h : stp r x = stp s x) : r = s := by
  obtain ⟨h1, h2⟩ := stp_same hr hs h
  have : r % 2 = s % 2 := by
    rcases (by omega : r % 2 = 0 ∨ r % 2 = 1) with a | a <;> rcases (by omega : s % 2 = 0 ∨ s % 2 = 1) with b | b <;> rcases (by omega : x = 0 ∨ x = 1) with c | c <;> simp_all
  omega
theorem foldl_inj : ∀ (xs : List Nat) {r s : Nat}, r < 4294967296 → s < 4294967296 → (∀ x ∈ xs, x < 2) → xs.foldl stp r = xs.foldl stp s → r = s
  | [], _, _, _, _, _, h => h
  | x :: xs, _, _, hr, hs, hx, h => stp_inj hr hs (hx x (by simp)) (foldl_inj xs (stp_lt hr) (stp_lt hs) (fun y hy => hx y (by simp [hy])) h)
/-- Two rows of up to 32 bits that come to the same from one register are one. -/
theorem window : ∀ (n : Nat) (xs ys : List Nat) (r s : Nat), xs.length = n → ys.length = n → n ≤ 32 → r < 4294967296 → s < 4294967296 → xs.foldl stp r = ys.foldl stp s → r / 2 ^ n = s / 2 ^ n ∧ (r = s → (∀ x ∈ xs, x < 2) → (∀ y ∈ ys, y < 2) → xs = ys)
  | 0, [], [], r, s, _, _, _, _, _, h => ⟨by simpa using h, fun _ _ _ => rfl⟩
  | n + 1, x :: xs, y :: ys, r, s, hx, hy, hn, hr, hs, h => by
    simp only [List.foldl_cons] at h
    simp only [List.length_cons] at hx hy
    obtain ⟨h1, h2⟩ := window n xs ys (stp r x) (stp s y) (by omega) (by omega) (by omega) (stp_lt hr) (stp_lt hs) h
    have key : (r % 2 = x ↔ s % 2 = y) ∧ r / 2 / 2 ^ n = s / 2 / 2 ^ n := by
      have hp : 2 ^ n ≤ 2 ^ 31 := Nat.pow_le_pow_right (by omega) (by omega)
      have top : ∀ a : Nat, a < 2147483648 → (a ^^^ 3988292384) / 2 ^ n = (a / 2 ^ n) ^^^ (3988292384 / 2 ^ n) := fun a _ => by
        rw [← Nat.shiftRight_eq_div_pow, ← Nat.shiftRight_eq_div_pow, ← Nat.shiftRight_eq_div_pow, Nat.shiftRight_xor_distrib]
      have bit : ∀ a : Nat, a < 2147483648 → (a / 2 ^ n).testBit (31 - n) = false := fun a ha => by
        rw [← Nat.shiftRight_eq_div_pow, Nat.testBit_shiftRight, show n + (31 - n) = 31 by omega]
        exact Nat.testBit_lt_two_pow (by omega)
      have pbit : (3988292384 / 2 ^ n).testBit (31 - n) = true := by
        rw [← Nat.shiftRight_eq_div_pow, Nat.testBit_shiftRight, show n + (31 - n) = 31 by omega]
        decide
      unfold stp at h1
      split at h1
      · rename_i a1
        split at h1
        · rename_i a2; exact ⟨by simp [a1, a2], h1⟩
        · exfalso
          rw [top _ (by omega)] at h1
          have e := congrArg (fun x => x.testBit (31 - n)) h1
          simp only [Nat.testBit_xor, bit _ (show r / 2 < 2147483648 by omega), bit _ (show s / 2 < 2147483648 by omega), pbit] at e
          simp at e
      · rename_i a1
        split at h1
        · exfalso
          rw [top _ (by omega)] at h1
          have e := congrArg (fun x => x.testBit (31 - n)) h1
          simp only [Nat.testBit_xor, bit _ (show r / 2 < 2147483648 by omega), bit _ (show s / 2 < 2147483648 by omega), pbit] at e
          simp at e
        · rename_i a2
          refine ⟨by simp [a1, a2], ?_⟩
          rw [top _ (by omega), top _ (by omega)] at h1
          have e := congrArg (fun x => x ^^^ (3988292384 / 2 ^ n)) h1
          simpa [Nat.xor_assoc] using e
    refine ⟨by rw [Nat.pow_succ', ← Nat.div_div_eq_div_mul, ← Nat.div_div_eq_div_mul]; exact key.2, fun he hbx hby => ?_⟩
    subst he
    have hxy : x = y := by
      have := hbx x (by simp); have := hby y (by simp)
      have k := key.1
      rcases (by omega : r % 2 = 0 ∨ r % 2 = 1) with a | a <;> rcases (by omega : y = 0 ∨ y = 1) with b | b <;> rcases (by omega : x = 0 ∨ x = 1) with c | c <;> simp_all
    subst hxy
    rw [h2 rfl (fun z hz => hbx z (by simp [hz])) (fun z hz => hby z (by simp [hz]))]
  | 0, _ :: _, _, _, _, h, _, _, _, _, _ => by simp at h
  | 0, [], _ :: _, _, _, _, h, _, _, _, _ => by simp at h
  | _ + 1, [], _, _, _, h, _, _, _, _, _ => by simp at h
  | _ + 1, _ :: _, [], _, _, _, h, _, _, _, _ => by simp at h

theorem bit8_two (b : UInt8) : ∀ x ∈ bit8 b, x < 2 := by
  intro x hx
  obtain ⟨j, _, rfl⟩ := List.mem_map.1 hx
  omega
theorem bitsOf_two : ∀ l : List UInt8, ∀ x ∈ bitsOf l, x < 2
  | [], x, h => by cases h
  | b :: t, x, h => by
    unfold bitsOf at h
    rcases List.mem_append.1 h with h | h
    · exact bit8_two b x h
    · exact bitsOf_two t x h
theorem bit8_inj {a b : UInt8} (h : bit8 a = bit8 b) : a = b := by
  apply UInt8.toNat_inj.1
  apply Nat.eq_of_testBit_eq
  intro j
  by_cases hj : j < 8
  · have e : (bit8 a)[j]? = (bit8 b)[j]? := by rw [h]
    rw [bit8_at a j hj, bit8_at b j hj] at e
    rw [Nat.testBit_eq_decide_div_mod_eq, Nat.testBit_eq_decide_div_mod_eq, Option.some.inj e]
  · have hp : 2 ^ 8 ≤ 2 ^ j := Nat.pow_le_pow_right (by omega) (by omega)
    have ha := a.toNat_lt
    have hb := b.toNat_lt
    rw [Nat.testBit_lt_two_pow (by omega), Nat.testBit_lt_two_pow (by omega)]
theorem bitsOf_inj : ∀ {a b : List UInt8}, a.length = b.length → bitsOf a = bitsOf b → a = b
  | [], [], _, _ => rfl
  | x :: a, y :: b, hl, h => by
    unfold bitsOf at h
    obtain ⟨h1, h2⟩ := List.append_inj h (by rw [length_bit8, length_bit8])
    rw [bit8_inj h1, bitsOf_inj (by simpa using hl) h2]
  | [], _ :: _, h, _ => by simp at h
  | _ :: _, [], h, _ => by simp at h
/-- Rows that differ in up to four bytes, one behind the other, alone have other sums. -/
theorem crc_turned (h a b t : List UInt8) (hl : a.length = b.length) (h4 : a.length ≤ 4) (he : crcN (h ++ a ++ t) = crcN (h ++ b ++ t)) : a = b := by
  unfold crcN at he
  have l1 := foldl_stp_lt (bitsOf (h ++ a ++ t)) (r := 4294967295) (by omega)
  have l2 := foldl_stp_lt (bitsOf (h ++ b ++ t)) (r := 4294967295) (by omega)
  have he' : (bitsOf (h ++ a ++ t)).foldl stp 4294967295 = (bitsOf (h ++ b ++ t)).foldl stp 4294967295 := by omega
  rw [bitsOf_append, bitsOf_append, bitsOf_append, bitsOf_append, List.foldl_append, List.foldl_append, List.foldl_append, List.foldl_append] at he'
  have l0 := foldl_stp_lt (bitsOf h) (r := 4294967295) (by omega)
  have e1 := foldl_inj (bitsOf t) (foldl_stp_lt _ l0) (foldl_stp_lt _ l0) (bitsOf_two t) he'
  have e2 := (window (8 * a.length) (bitsOf a) (bitsOf b) _ _ (length_bitsOf a) (by rw [length_bitsOf, hl]) (by omega) l0 l0 e1).2 rfl (bitsOf_two a) (bitsOf_two b)
  exact bitsOf_inj hl e2
end Go.Proofs.Ytjlhcgimijcghaa
