/- Letters of a text, as the model's decoder tells them: plain facts, no program. -/
import Derived.Lib.DecodeN
import Derived.Lib.RuneBytes
import Derived.Lib.Strings
import Derived.Laws.RangeAny
namespace Go.Proofs.YtnglmaebmabdcaaDoor
open Go

/-- The width of a letter: from one byte to four, never beyond the end. -/
theorem dec_le (s : ByteArray) (pos : Nat) (h : pos < s.size) : 1 ≤ (Utf8.decode s pos).2 ∧ (Utf8.decode s pos).2 ≤ 4 ∧ pos + (Utf8.decode s pos).2 ≤ s.size := by
  rw [Lib.decode_at]
  unfold Lib.decodeN
  repeat' split
  all_goals simp only
  all_goals omega

theorem get_lt (s : ByteArray) (i : Nat) (h : i < s.size) : s.get! i = s[i]'h := by
  have := get_at s i h
  simpa using this

theorem dec_ascii (s : ByteArray) (pos : Nat) (h : pos < s.size) (ha : (s[pos]'h).toNat < 128) : Utf8.decode s pos = ((s[pos]'h).toNat, 1) := decode_ascii s pos h ha

/-- A letter below 128 is one byte, that one. -/
theorem dec_low (s : ByteArray) (pos : Nat) (h : pos < s.size) (hr : (Utf8.decode s pos).1 < 128) : (s[pos]'h).toNat = (Utf8.decode s pos).1 ∧ (Utf8.decode s pos).2 = 1 := by
  by_cases ha : (s[pos]'h).toNat < 128
  · rw [dec_ascii s pos h ha]; exact ⟨rfl, rfl⟩
  · have := (decode_high s pos h (by omega)).1; omega

/-- A letter from 128 on: none of its bytes is below 128. -/
theorem dec_bytes (s : ByteArray) (pos : Nat) (h : pos < s.size) (hr : 128 ≤ (Utf8.decode s pos).1) (j : Nat) (hj : j < (Utf8.decode s pos).2) : 128 ≤ (s.get! (pos + j)).toNat := by
  have h0 : ¬ (s.get! pos).toNat < 128 := by
    rw [get_lt s pos h]
    intro ha
    rw [dec_ascii s pos h ha] at hr
    simp only at hr; omega
  rw [Lib.decode_at] at hj
  unfold Lib.decodeN at hj
  rw [if_neg h0] at hj
  have c : j = 0 ∨ j = 1 ∨ j = 2 ∨ j = 3 := by
    revert hj
    repeat' split
    all_goals (simp only; omega)
  rcases c with rfl | rfl | rfl | rfl
  · simpa using h0
  all_goals
    revert hj
    repeat' split
    all_goals (simp only; omega)

/-- A letter of UTF-8 is what its rune encodes to. -/
theorem dec_encode (s : ByteArray) (pos : Nat) (_h : pos < s.size) (hr : ¬ ((Utf8.decode s pos).1 = 65533 ∧ (Utf8.decode s pos).2 = 1)) :
    (Lib.encodeRuneZ ((Utf8.decode s pos).1 : Int)) = (List.range (Utf8.decode s pos).2).map fun j => ((s.get! (pos + j)).toNat : Int) := by
  rw [Lib.decode_at] at hr ⊢
  have l0 := (s.get! pos).toNat_lt
  have l1 := (s.get! (pos + 1)).toNat_lt
  have l2 := (s.get! (pos + 2)).toNat_lt
  have l3 := (s.get! (pos + 3)).toNat_lt
  generalize e0 : (s.get! pos).toNat = b0 at *
  generalize e1 : (s.get! (pos + 1)).toNat = b1 at *
  generalize e2 : (s.get! (pos + 2)).toNat = b2 at *
  generalize e3 : (s.get! (pos + 3)).toNat = b3 at *
  unfold Lib.decodeN at hr ⊢
  by_cases c0 : b0 < 128
  · rw [if_pos c0, Lib.encodeRuneZ_one (by simp only; omega) (by simp only; omega)]
    simp [List.range_succ, e0]
  rw [if_neg c0] at hr ⊢
  by_cases c1 : b0 / 32 = 6 ∧ 1 < s.size - pos ∧ b1 / 64 = 2
  · rw [if_pos c1] at hr ⊢
    by_cases d : b0 % 32 * 64 + b1 % 64 ≥ 128
    · rw [if_pos d] at hr ⊢
      rw [Lib.encodeRuneZ_two (by simp only; omega) (by simp only; omega)]
      simp only [List.range_succ, List.range_zero, List.nil_append, List.cons_append, List.map_cons, List.map_nil, Nat.add_zero, e0, e1]
      congr 1
      · omega
      · congr 1; omega
    · rw [if_neg d] at hr; exact absurd ⟨rfl, rfl⟩ hr
  rw [if_neg c1] at hr ⊢
  by_cases c2 : b0 / 16 = 14 ∧ (1 < s.size - pos ∧ b1 / 64 = 2) ∧ (2 < s.size - pos ∧ b2 / 64 = 2)
  · rw [if_pos c2] at hr ⊢
    split at hr
    case isTrue d =>
      rw [if_pos d]
      rw [Lib.encodeRuneZ_three (by simp only; omega)]
      simp only [List.range_succ, List.range_zero, List.nil_append, List.cons_append, List.map_cons, List.map_nil, Nat.add_zero, e0, e1, e2]
      congr 1
      · omega
      · congr 1
        · omega
        · congr 1; omega
    case isFalse d => exact absurd ⟨rfl, rfl⟩ hr
  rw [if_neg c2] at hr ⊢
  by_cases c3 : b0 / 8 = 30 ∧ (1 < s.size - pos ∧ b1 / 64 = 2) ∧ (2 < s.size - pos ∧ b2 / 64 = 2) ∧ (3 < s.size - pos ∧ b3 / 64 = 2)
  · rw [if_pos c3] at hr ⊢
    split at hr
    case isTrue d =>
      rw [if_pos d]
      rw [Lib.encodeRuneZ_four (by simp only; omega) (by simp only; omega)]
      simp only [List.range_succ, List.range_zero, List.nil_append, List.cons_append, List.map_cons, List.map_nil, Nat.add_zero, e0, e1, e2, e3]
      congr 1
      · omega
      · congr 1
        · omega
        · congr 1
          · omega
          · congr 1; omega
    case isFalse d => exact absurd ⟨rfl, rfl⟩ hr
  rw [if_neg c3] at hr
  exact absurd ⟨rfl, rfl⟩ hr

/-- The letters from a place on: place, rune, width. -/
def letsF (s : ByteArray) : Nat → Nat → List (Nat × Nat × Nat)
  | 0, _ => []
  | f + 1, pos => if pos < s.size then (pos, (Utf8.decode s pos).1, (Utf8.decode s pos).2) :: letsF s f (pos + (Utf8.decode s pos).2) else []
theorem letsF_end (s : ByteArray) (f pos : Nat) (h : ¬ pos < s.size) : letsF s f pos = [] := by
  cases f with
  | zero => rfl
  | succ f => simp [letsF, h]
theorem letsF_more (s : ByteArray) : ∀ f g pos, s.size ≤ pos + f → s.size ≤ pos + g → letsF s f pos = letsF s g pos := by
  intro f
  induction f with
  | zero => intro g pos h1 _; rw [letsF_end s 0 pos (by omega), letsF_end s g pos (by omega)]
  | succ f ih =>
    intro g pos h1 h2
    by_cases hp : pos < s.size
    · obtain ⟨g, rfl⟩ : ∃ g', g = g' + 1 := ⟨g - 1, by omega⟩
      have := dec_le s pos hp
      simp only [letsF, hp, if_true]
      rw [ih g _ (by omega) (by omega)]
    · rw [letsF_end s _ pos hp, letsF_end s _ pos hp]
def lets (s : ByteArray) (pos : Nat) : List (Nat × Nat × Nat) := letsF s (s.size - pos) pos
theorem lets_nil (s : ByteArray) (pos : Nat) (h : ¬ pos < s.size) : lets s pos = [] := letsF_end s _ pos h
theorem lets_cons (s : ByteArray) (pos : Nat) (h : pos < s.size) :
    lets s pos = (pos, (Utf8.decode s pos).1, (Utf8.decode s pos).2) :: lets s (pos + (Utf8.decode s pos).2) := by
  unfold lets
  obtain ⟨f, hf⟩ : ∃ f, s.size - pos = f + 1 := ⟨s.size - pos - 1, by omega⟩
  have := dec_le s pos h
  rw [hf]
  simp only [letsF, h, if_true]
  rw [letsF_more s f (s.size - (pos + (Utf8.decode s pos).2)) _ (by omega) (by omega)]

/-- What a piece of a text holds. -/
def piece (s : ByteArray) (a b : Nat) : List UInt8 := (s.data.toList.drop a).take (b - a)
theorem piece_eq (s : ByteArray) (a b : Nat) : s.extract a b = ⟨(piece s a b).toArray⟩ := Lib.extract_eq s a b
theorem piece_whole (s : ByteArray) : piece s 0 s.size = s.data.toList := by
  unfold piece
  rw [List.drop_zero, Nat.sub_zero, Lib.size_eq, List.take_length]
theorem piece_join (s : ByteArray) (a b c : Nat) (h1 : a ≤ b) (h2 : b ≤ c) : piece s a b ++ piece s b c = piece s a c := by
  unfold piece
  rw [show c - a = (b - a) + (c - b) by omega, List.take_add, List.drop_drop, show a + (b - a) = b by omega]
theorem piece_nil (s : ByteArray) (a : Nat) : piece s a a = [] := by unfold piece; simp
theorem piece_length (s : ByteArray) (a b : Nat) (h1 : a ≤ b) (h2 : b ≤ s.size) : (piece s a b).length = b - a := by
  unfold piece
  rw [List.length_take, List.length_drop, ← Lib.size_eq]; omega
theorem get_list (s : ByteArray) (i : Nat) (h : i < s.size) : s.data.toList[i]'(by rw [← Lib.size_eq]; exact h) = s.get! i := by
  rw [get_lt s i h]; rfl
theorem piece_range (s : ByteArray) (a k : Nat) (h : a + k ≤ s.size) : piece s a (a + k) = (List.range k).map fun j => s.get! (a + j) := by
  apply List.ext_getElem?
  intro i
  unfold piece
  rw [List.getElem?_take, List.getElem?_map]
  by_cases hi : i < k
  · rw [if_pos (by omega), List.getElem?_drop, List.getElem?_range hi, List.getElem?_eq_getElem (by rw [← Lib.size_eq]; omega), get_list s (a + i) (by omega)]
    rfl
  · rw [if_neg (by omega), List.getElem?_eq_none (by simp; omega)]
    rfl
theorem dec_enc (s : ByteArray) (pos : Nat) (h : pos < s.size) (hr : ¬ ((Utf8.decode s pos).1 = 65533 ∧ (Utf8.decode s pos).2 = 1)) :
    Lib.encodeRune ((Utf8.decode s pos).1 : Int) = piece s pos (pos + (Utf8.decode s pos).2) := by
  rw [piece_range s pos _ (dec_le s pos h).2.2]
  unfold Lib.encodeRune
  rw [dec_encode s pos h hr, List.map_map]
  apply List.map_congr_left
  intro j _
  simp [Function.comp]

/-- The decoder at a later place is the decoder of what stands there. -/
theorem get_extract (s : ByteArray) (n i : Nat) (h : n + i < s.size) : (s.extract n s.size).get! i = s.get! (n + i) := by
  have hs : i < (s.extract n s.size).size := by rw [ByteArray.size_extract]; omega
  have h1 := get_list (s.extract n s.size) i hs
  have h2 := get_list s (n + i) h
  rw [← h1, ← h2]
  apply Option.some.inj
  rw [← List.getElem?_eq_getElem, ← List.getElem?_eq_getElem, Lib.extract_data, List.getElem?_take, if_pos (by omega), List.getElem?_drop]
theorem dec_extract (s : ByteArray) (n : Nat) (hn : n < s.size) : Utf8.decode (s.extract n s.size) 0 = Utf8.decode s n := by
  have e : (s.extract n s.size).size = s.size - n := by rw [ByteArray.size_extract]; omega
  have g : ∀ i, n + i < s.size → (s.extract n s.size).get! i = s.get! (n + i) := fun i h => get_extract s n i h
  rw [Lib.decode_at, Lib.decode_at, e]
  simp only [Nat.sub_zero, Nat.zero_add]
  have g0 := g 0 (by omega)
  simp only [Nat.add_zero] at g0
  rw [g0]
  by_cases h1 : n + 1 < s.size
  · rw [g 1 h1]
    by_cases h2 : n + 2 < s.size
    · rw [g 2 h2]
      by_cases h3 : n + 3 < s.size
      · rw [g 3 h3]
      · have k3 : ¬ 3 < s.size - n := by omega
        simp only [Lib.decodeN, k3, false_and, and_false, if_false]
    · have k2 : ¬ 2 < s.size - n := by omega
      have k3 : ¬ 3 < s.size - n := by omega
      simp only [Lib.decodeN, k2, k3, false_and, and_false, if_false]
  · have k1 : ¬ 1 < s.size - n := by omega
    simp only [Lib.decodeN, k1, false_and, and_false, if_false]
end Go.Proofs.YtnglmaebmabdcaaDoor
