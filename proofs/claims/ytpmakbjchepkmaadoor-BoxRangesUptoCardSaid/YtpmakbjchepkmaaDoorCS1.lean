/- Box: the document's one: a number read from the letters of a text. -/
import Derived.Test.YtpmakbjchepkmaaDoorCL
import Derived.Test.YtpmakbjchepkmaaDoorD1
namespace Go.Proofs.YtpmakbjchepkmaaDoor
open Go.RowKit

/-- All bytes ahead of i are letters. -/
def Ascii (s : ByteArray) (i : Nat) : Prop := i ≤ s.size ∧ ∀ j (h : j < s.size), j < i → (s[j]'h).toNat < 128
theorem Ascii.zero (s : ByteArray) : Ascii s 0 := ⟨Nat.zero_le _, fun _ _ h => absurd h (Nat.not_lt_zero _)⟩
theorem Ascii.next {s : ByteArray} {i : Nat} (h : Ascii s i) (hi : i < s.size) (hc : (s[i]'hi).toNat < 128) : Ascii s (i + 1) :=
  ⟨hi, fun j hj hji => by
    by_cases e : j = i
    · subst e; exact hc
    · exact h.2 j hj (by omega)⟩
theorem Ascii.back {s : ByteArray} {i j : Nat} (h : Ascii s i) (hj : j ≤ i) : Ascii s j := ⟨by have := h.1; omega, fun k hk hkj => h.2 k hk (by omega)⟩
theorem lets_drop (s : ByteArray) : ∀ i, Ascii s i → lets s 0 = (lets s 0).take i ++ lets s i ∧ ((lets s 0).take i).length = i
  | 0, _ => by simp
  | i + 1, h => by
    have hi : i < s.size := h.1
    have hc := h.2 i hi (Nat.lt_succ_self i)
    obtain ⟨e, hl⟩ := lets_drop s i (h.back (Nat.le_succ i))
    have hn := lets_cons s i hi
    rw [dec_ascii s i hi hc] at hn
    simp only at hn
    have e2 : lets s 0 = ((lets s 0).take i ++ [(i, (s[i]'hi).toNat, 1)]) ++ lets s (i + 1) := by rw [List.append_assoc, List.singleton_append, ← hn]; exact e
    have hl2 : ((lets s 0).take i ++ [(i, (s[i]'hi).toNat, 1)]).length = i + 1 := by simp [hl]
    have ht : (lets s 0).take (i + 1) = (lets s 0).take i ++ [(i, (s[i]'hi).toNat, 1)] := by
      generalize (lets s 0).take i ++ [(i, (s[i]'hi).toNat, 1)] = A at hl2 e2 ⊢
      rw [e2, List.take_append_of_le_length (by omega), List.take_of_length_le (by omega)]
    exact ⟨by rw [ht]; exact e2, by rw [ht]; exact hl2⟩
theorem ext_one (s : ByteArray) (i : Nat) (h : i < s.size) : s.extract i (i + 1) = ⟨#[s[i]'h]⟩ := by
  apply ext_eq
  rw [Lib.extract_data, show i + 1 - i = 1 by omega]
  rw [List.drop_eq_getElem_cons (by rw [← Lib.size_eq]; exact h)]
  simp [ByteArray.get]
  rfl
/-- A letter, as the document's list of texts tells it. -/
theorem letter_at (s : ByteArray) (i : Nat) (h : Ascii s i) (hi : i < s.size) :
    (letsV s)[i]? = some (.string ⟨#[s[i]'hi]⟩) ∨ (128 ≤ (s[i]'hi).toNat ∧ ∃ X : ByteArray, (letsV s)[i]? = some (.string X) ∧ 2 ≤ X.size) := by
  obtain ⟨e, hl⟩ := lets_drop s i h
  have hk : (lets s 0)[i]? = some (i, (Utf8.decode s i).1, (Utf8.decode s i).2) := by
    rw [e, List.getElem?_append_right (by omega), hl, Nat.sub_self, lets_cons s i hi]
    rfl
  have hv : (letsV s)[i]? = some (.string (s.extract i (i + (Utf8.decode s i).2))) := by
    unfold letsV
    rw [List.getElem?_map, hk]
    rfl
  have hw := dec_le s i hi
  by_cases h1 : (Utf8.decode s i).2 = 1
  · left
    rw [hv, h1, ext_one s i hi]
  · right
    refine ⟨?_, _, hv, ?_⟩
    · by_cases hc : 128 ≤ (s[i]'hi).toNat
      · exact hc
      · have := dec_ascii s i hi (by omega)
        rw [this] at h1
        exact absurd rfl h1
    · rw [ByteArray.size_extract]; omega
theorem letV_len (s : ByteArray) (i : Nat) (h : Ascii s i) : i ≤ (letsV s).length ∧ (i < (letsV s).length ↔ i < s.size) := by
  obtain ⟨e, hl⟩ := lets_drop s i h
  have hlen : (letsV s).length = i + (lets s i).length := by
    unfold letsV
    rw [List.length_map]
    have := congrArg List.length e
    rw [List.length_append, hl] at this
    exact this
  refine ⟨by omega, ?_⟩
  constructor
  · intro h1
    by_cases hi : i < s.size
    · exact hi
    · rw [lets_nil s i hi] at hlen; simp at hlen; omega
  · intro hi
    rw [lets_cons s i hi] at hlen
    simp at hlen
    omega
/-- The slice v reads as the letters of s. -/
def Lts (w : World) (v : Value) (s : ByteArray) : Prop :=
  ∃ a cap, v = .slice a (letsV s).length cap ∧ ∀ i x, (letsV s)[i]? = some x → ∃ g off, a = some ⟨g, off, none⟩ ∧ g < w.heap.size ∧ w.cell? ⟨g, off + i, none⟩ = some x
theorem Lts.below {w w' : World} {v : Value} {s : ByteArray} (h : Lts w v s) (hb : Below w.heap.size w w') : Lts w' v s := by
  obtain ⟨a, cap, h1, h2⟩ := h
  refine ⟨a, cap, h1, fun i x hx => ?_⟩
  obtain ⟨g, off, q1, q2, q3⟩ := h2 i x hx
  exact ⟨g, off, q1, Nat.lt_of_lt_of_le q2 hb.size, (hb.cell (p := ⟨g, off + i, none⟩) q2).trans q3⟩
theorem Lts.of {w : World} {B : Nat} {v : Value} {s : ByteArray} (h : w.ownsRow B 9 1 v (letsV s).length (letsV s)) : Lts w v s := by
  obtain ⟨a, cap, rfl⟩ := own_shape h
  refine ⟨a, cap, rfl, fun i x hx => ?_⟩
  rcases h.2 with ⟨_, h0⟩ | ⟨g, cap', cur, e, _⟩
  · have : i < (letsV s).length := (List.getElem?_eq_some_iff.1 hx).1
    omega
  · cases e
    exact ⟨g, 0, rfl, (World.ownsRow.lt h g rfl).2, by rw [Nat.zero_add, ← addr_at g i]; exact World.ownsRow.cells h (g := g) rfl _ _ hx⟩
/-- The number at the head of bytes: its value, where it ends, whether it may be. -/
def digs : List UInt8 → Nat → Nat → Int × Nat × Bool
  | [], n, i => ((n : Int), i, true)
  | c :: t, n, i => if 48 ≤ c.toNat ∧ c.toNat ≤ 57 then (if 10 * n + (c.toNat - 48) = 0 ∨ 4294967295 < 10 * n + (c.toNat - 48) then (0, i, false) else digs t (10 * n + (c.toNat - 48)) (i + 1)) else ((n : Int), i, true)
/-- A number, or a star. -/
def oneB (t : List UInt8) (i : Nat) : Int × Nat × Bool :=
  match t with
  | 42 :: _ => (-1, i + 1, true)
  | t => ((digs t 0 i).1, (digs t 0 i).2.1, (digs t 0 i).2.2 && decide (i < (digs t 0 i).2.1))
theorem drop_s (s : ByteArray) (i : Nat) (h : i < s.size) : s.data.toList.drop i = s[i]'h :: s.data.toList.drop (i + 1) := by
  rw [List.drop_eq_getElem_cons (by rw [← Lib.size_eq]; exact h)]
  rfl
theorem drop_no (s : ByteArray) (i : Nat) (h : ¬ i < s.size) : s.data.toList.drop i = [] := List.drop_eq_nil_of_le (by rw [← Lib.size_eq]; omega)
end Go.Proofs.YtpmakbjchepkmaaDoor
