import Derived.Test.YtdohgmbchmcemaaDoorL3
namespace Go.Proofs.YtdohgmbchmcemaaDoor
open Go.RowKit

/-- What Quote lays between its signs. -/
def escL (r : Nat) : List UInt8 := (if r = 34 ∨ r = 92 then [92] else []) ++ Lib.encodeRune (r : Int)

theorem quoteGo_ok : ∀ (l : List (Nat × Nat × Nat)) (acc : List UInt8) (pl : Nat), (quoteGo l acc pl).2.2 = 0 →
    (∀ x ∈ l, plainR x.2.1 x.2.2 = true) ∧ (quoteGo l acc pl) = (acc ++ (l.map fun x => escL x.2.1).flatten ++ [34], 0, 0)
  | [], acc, pl, _ => ⟨fun x hx => by simp at hx, by simp [quoteGo]⟩
  | (p, r, k) :: t, acc, pl, h => by
    unfold quoteGo at h ⊢
    cases hq : plainR r k with
    | false => rw [hq] at h; simp at h
    | true =>
      rw [hq] at h
      simp only [if_true] at h ⊢
      obtain ⟨h1, h2⟩ := quoteGo_ok t _ _ h
      refine ⟨fun x hx => ?_, ?_⟩
      · rcases List.mem_cons.1 hx with e | e
        · subst e; exact hq
        · exact h1 x e
      · rw [h2]
        simp [escL]

/-- The bytes of a text whose letters are all of UTF-8. -/
theorem enc_bytes (s : ByteArray) : ∀ n pos, s.size - pos = n → pos ≤ s.size → (∀ x ∈ lets s pos, plainR x.2.1 x.2.2 = true) → ((lets s pos).map fun x => Lib.encodeRune (x.2.1 : Int)).flatten = s.data.toList.drop pos := by
  intro n
  induction n using Nat.strongRecOn with
  | _ n ih =>
    intro pos hn hle hall
    by_cases hp : pos < s.size
    · obtain ⟨r, k, hd⟩ : ∃ r k, Utf8.decode s pos = (r, k) := ⟨_, _, rfl⟩
      have hw := dec_le s pos hp
      rw [hd] at hw
      simp only at hw
      rw [lets_cons s pos hp, hd] at hall ⊢
      simp only at hall ⊢
      have hr := hall _ (List.mem_cons_self ..)
      have he := dec_enc s pos hp (by rw [hd]; simp only; have := plain_width hr; simp only at this; omega)
      rw [hd] at he
      simp only at he
      rw [List.map_cons, List.flatten_cons, he, ih (s.size - (pos + k)) (by omega) (pos + k) rfl hw.2.2 (fun x hx => hall x (List.mem_cons_of_mem _ hx))]
      unfold piece
      rw [show pos + k - pos = k by omega]
      have := List.take_append_drop k (s.data.toList.drop pos)
      rw [List.drop_drop] at this
      exact this
    · rw [lets_nil s pos hp, List.drop_eq_nil_of_le (by rw [← Lib.size_eq]; omega)]
      rfl

/-- A decoder's step at what a rune encodes to. -/
theorem decodeL_enc (r : Nat) (hv : r ≤ 1114111 ∧ ¬ (55296 ≤ r ∧ r ≤ 57343)) (rest : List UInt8) : Lib.decodeL (Lib.encodeRune (r : Int) ++ rest) = (r, (Lib.encodeRune (r : Int)).length) := by
  rw [Lib.decodeL_N]
  unfold Lib.encodeRune
  have cv : ∀ x : Int, 0 ≤ x → x < 256 → (x.toNat.toUInt8).toNat = x.toNat := by
    intro x h0 h1
    simp; omega
  by_cases h1 : r ≤ 127
  · rw [Lib.encodeRuneZ_one (by omega) (by omega)]
    simp only [List.map_cons, List.map_nil, List.cons_append, List.nil_append, List.getD_cons_zero, List.length_cons, List.length_nil]
    unfold Lib.decodeN
    rw [cv _ (by omega) (by omega), if_pos (by omega)]
    simp
  by_cases h2 : r ≤ 2047
  · rw [Lib.encodeRuneZ_two (by omega) (by omega)]
    simp only [List.map_cons, List.map_nil, List.cons_append, List.nil_append, List.getD_cons_zero, List.getD_cons_succ, List.length_cons, List.length_nil]
    unfold Lib.decodeN
    rw [cv _ (by omega) (by omega), cv _ (by omega) (by omega), if_neg (by omega), if_pos (by omega), if_pos (by omega)]
    congr 1
    omega
  by_cases h3 : r ≤ 65535
  · rw [Lib.encodeRuneZ_three (by omega)]
    simp only [List.map_cons, List.map_nil, List.cons_append, List.nil_append, List.getD_cons_zero, List.getD_cons_succ, List.length_cons, List.length_nil]
    unfold Lib.decodeN
    rw [cv _ (by omega) (by omega), cv _ (by omega) (by omega), cv _ (by omega) (by omega), if_neg (by omega), if_neg (by omega), if_pos (by omega), if_pos (by omega)]
    congr 1
    omega
  · rw [Lib.encodeRuneZ_four (by omega) (by omega)]
    simp only [List.map_cons, List.map_nil, List.cons_append, List.nil_append, List.getD_cons_zero, List.getD_cons_succ, List.length_cons, List.length_nil]
    unfold Lib.decodeN
    rw [cv _ (by omega) (by omega), cv _ (by omega) (by omega), cv _ (by omega) (by omega), cv _ (by omega) (by omega), if_neg (by omega), if_neg (by omega), if_neg (by omega), if_pos (by omega), if_pos (by omega)]
    congr 1
    omega
end Go.Proofs.YtdohgmbchmcemaaDoor
