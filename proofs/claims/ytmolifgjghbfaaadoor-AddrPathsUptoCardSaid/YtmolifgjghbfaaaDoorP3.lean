/- Where a text is no address, what stands ahead of the letter that is told goes on to one. Plain facts. -/
import Derived.Test.YtmolifgjghbfaaaDoorR6
namespace Go.Proofs.YtmolifgjghbfaaaDoor
open Go.RowKit

/-- State and length of the label behind some bytes. -/
def stF : List UInt8 → Nat → Nat → Nat × Nat
  | [], far, len => (far, len)
  | b :: t, far, len => if nextF far len b.toNat = 9 then (9, 0) else stF t (nextF far len b.toNat) (lenF (nextF far len b.toNat) len)
theorem st_append : ∀ (a b : List UInt8) (far len pos : Nat), (stF a far len).1 ≠ 9 → (readF (a ++ b) far len pos).1 = (readF b (stF a far len).1 (stF a far len).2 (pos + a.length)).1 := by
  intro a
  induction a with
  | nil => intros; rfl
  | cons c t ih =>
    intro b far len pos h
    unfold stF at h ⊢
    by_cases h9 : nextF far len c.toNat = 9
    · rw [if_pos h9] at h; exact absurd rfl h
    · rw [if_neg h9] at h ⊢
      show (readF (c :: (t ++ b)) far len pos).1 = _
      rw [readF_cons, if_neg h9, ih b _ _ _ h, List.length_cons, show pos + 1 + t.length = pos + (t.length + 1) by omega]
theorem st_take : ∀ (l : List UInt8) (far len pos : Nat), far ≠ 9 → (readF l far len pos).1 = 9 → (stF (l.take ((readF l far len pos).2 - pos)) far len).1 ≠ 9 := by
  intro l
  induction l with
  | nil => intro far len pos hf h; exact absurd h hf
  | cons b t ih =>
    intro far len pos hf h
    rw [readF_cons] at h ⊢
    by_cases h9 : nextF far len b.toNat = 9
    · rw [if_pos h9]
      simp [stF, hf]
    · rw [if_neg h9] at h ⊢
      have hlt := ih _ _ _ h9 h
      have hge : pos + 1 ≤ (readF t (nextF far len b.toNat) (lenF (nextF far len b.toNat) len) (pos + 1)).2 := read_ge _ _ _ _
      obtain ⟨m, hm⟩ : ∃ m, (readF t (nextF far len b.toNat) (lenF (nextF far len b.toNat) len) (pos + 1)).2 - pos = m + 1 := ⟨_, (Nat.succ_pred_eq_of_pos (by omega)).symm⟩
      rw [hm, List.take_succ_cons]
      unfold stF
      rw [if_neg h9]
      rw [show (readF t (nextF far len b.toNat) (lenF (nextF far len b.toNat) len) (pos + 1)).2 - (pos + 1) = m by omega] at hlt
      exact hlt
where
  read_ge : ∀ (l : List UInt8) (far len pos : Nat), pos ≤ (readF l far len pos).2 := by
    intro l
    induction l with
    | nil => intros; exact Nat.le_refl _
    | cons b t ih =>
      intro far len pos
      rw [readF_cons]
      split
      · exact Nat.le_refl _
      · have := ih (nextF far len b.toNat) (lenF (nextF far len b.toNat) len) (pos + 1); omega
theorem st_whole : ∀ (l : List UInt8) (far len pos : Nat), (readF l far len pos).1 ≠ 9 → (stF l far len).1 = (readF l far len pos).1 := by
  intro l
  induction l with
  | nil => intros; rfl
  | cons b t ih =>
    intro far len pos h
    rw [readF_cons] at h ⊢
    unfold stF
    by_cases h9 : nextF far len b.toNat = 9
    · rw [if_pos h9] at h; exact absurd rfl h
    · rw [if_neg h9] at h ⊢
      rw [if_neg h9]; exact ih _ _ _ h
/-- How long a label is in each state. -/
def stOk (far len : Nat) : Prop := far ≤ 9 ∧ (far ≤ 6 → len = 0) ∧ (far = 8 → len ≤ 62)
theorem st_ok : ∀ (l : List UInt8) (far len : Nat), stOk far len → stOk (stF l far len).1 (stF l far len).2 := by
  intro l
  induction l with
  | nil => intro far len h; exact h
  | cons b t ih =>
    intro far len h
    unfold stF
    by_cases h9 : nextF far len b.toNat = 9
    · rw [if_pos h9]; exact ⟨by show (9 : Nat) ≤ 9; omega, fun _ => rfl, fun _ => Nat.zero_le _⟩
    · rw [if_neg h9]
      refine ih _ _ ⟨next_le _ _ _, fun h6 => lenF_local h6 _, fun h8 => ?_⟩
      rw [h8]
      show len + 1 ≤ 62
      rcases Nat.lt_or_ge far 6 with hf | hf
      · rcases next_local far len b.toNat (by omega) with h | ⟨h, _⟩ | h <;> omega
      · have hf8 : far ≤ 8 := by
          rcases Nat.lt_or_ge 8 far with hh | hh
          · exfalso; apply h9; unfold nextF
            rw [if_neg (by omega), if_neg (by omega), if_neg (by omega), if_neg (by omega), if_neg (by omega), if_neg (by omega), if_neg (by omega)]
          · exact hh
        rw [next_dom far len _ ⟨hf, hf8⟩] at h8
        unfold nextLabelF at h8
        split at h8
        · omega
        split at h8
        · rename_i h1; omega
        split at h8 <;> omega
def endsL : List (List UInt8) := [[], [97], [64, 97], [97, 64, 97], [34, 64, 97], [92, 34, 64, 97], [97, 34, 64, 97]]
theorem goes_end (far len pos : Nat) (h : stOk far len) (h9 : far ≠ 9) : ∃ j, j < 7 ∧ ∃ e, endsL[j]? = some e ∧ (readF e far len pos).1 = 7 := by
  obtain ⟨h1, h2, h3⟩ := h
  have hc : far = 0 ∨ far = 1 ∨ far = 2 ∨ far = 3 ∨ far = 4 ∨ far = 5 ∨ far = 6 ∨ far = 7 ∨ far = 8 := by omega
  rcases hc with rfl | rfl | rfl | rfl | rfl | rfl | rfl | rfl | rfl
  · rw [h2 (by omega)]; exact ⟨3, by omega, _, rfl, rfl⟩
  · rw [h2 (by omega)]; exact ⟨2, by omega, _, rfl, rfl⟩
  · rw [h2 (by omega)]; exact ⟨3, by omega, _, rfl, rfl⟩
  · rw [h2 (by omega)]; exact ⟨4, by omega, _, rfl, rfl⟩
  · rw [h2 (by omega)]; exact ⟨5, by omega, _, rfl, rfl⟩
  · rw [h2 (by omega)]; exact ⟨2, by omega, _, rfl, rfl⟩
  · rw [h2 (by omega)]; exact ⟨1, by omega, _, rfl, rfl⟩
  · exact ⟨0, by omega, _, rfl, rfl⟩
  · refine ⟨1, by omega, _, rfl, ?_⟩
    have hn : nextF 8 len 97 = 7 := by
      rw [next_dom 8 len 97 (by omega)]
      unfold nextLabelF
      rw [if_pos ⟨by decide, by have := h3 rfl; omega⟩]
    rw [readF_cons, show (97 : UInt8).toNat = 97 from rfl, hn]; rfl
/-- What Parse tells. -/
theorem parse_fin (s : ByteArray) (h : (parseF s).2.2.2 ≠ 4) (h2 : (parseF s).2.2.2 ≠ 3) : (parseF s).2.2.1 = 0 := by
  by_cases h7 : (readF s.data.toList 0 0 0).1 = 7
  · obtain ⟨a, d, x, _, _, _, _, hr⟩ := run_good _ h7
    have : parseF s = finF x d := hr
    rw [this]; unfold finF; split <;> rfl
  · rw [run_not7 s h7] at h h2
    exfalso
    by_cases h9 : (readF s.data.toList 0 0 0).1 = 9
    · rw [if_pos h9] at h; exact h rfl
    · rw [if_neg h9] at h2; exact h2 rfl
theorem parse_good (s : ByteArray) (h : (readF s.data.toList 0 0 0).1 = 7) : (parseF s).2.2.2 = 0 ∨ (parseF s).2.2.2 = 6 := by
  obtain ⟨a, d, x, _, _, _, _, hr⟩ := run_good _ h
  have : parseF s = finF x d := hr
  rw [this]; unfold finF
  split
  · exact Or.inr rfl
  · exact Or.inl rfl
theorem read_low : ∀ (l : List UInt8) (far len pos k : Nat), pos + k < (readF l far len pos).2 → ∀ (h : k < l.length), (l[k]'h).toNat < 128 := by
  intro l
  induction l with
  | nil => intro _ _ _ k _ h; simp at h
  | cons b t ih =>
    intro far len pos k hk h
    rw [readF_cons] at hk
    by_cases h9 : nextF far len b.toNat = 9
    · rw [if_pos h9] at hk; simp at hk; omega
    · rw [if_neg h9] at hk
      cases k with
      | zero =>
        show b.toNat < 128
        rcases Nat.lt_or_ge b.toNat 127 with h' | h'
        · omega
        · exact absurd (next_high _ _ _ h') h9
      | succ k => exact ih (nextF far len b.toNat) (lenF (nextF far len b.toNat) len) (pos + 1) k (by omega) (by simpa using h)
/-- Where Parse tells a place. -/
theorem parse_place (s : ByteArray) (h : (parseF s).2.2.2 = 4 ∨ (parseF s).2.2.2 = 3) :
    (parseF s).2.2.1 ≤ (lets s 0).length ∧ ((parseF s).2.2.2 = 3 → (parseF s).2.2.1 = (lets s 0).length) ∧ ((parseF s).2.2.2 = 4 → (parseF s).2.2.1 < (lets s 0).length) ∧
    (parseF s).2.2.1 ≤ s.size ∧ (∀ k (hk : k < s.size), k < (parseF s).2.2.1 → (s[k]'hk).toNat < 128) ∧
    ∃ j, j < 7 ∧ ∃ e, endsL[j]? = some e ∧ ∀ t : ByteArray, t.data.toList = s.data.toList.take (parseF s).2.2.1 ++ e → (parseF t).2.2.2 = 0 ∨ (parseF t).2.2.2 = 6 := by
  have h7 : (readF s.data.toList 0 0 0).1 ≠ 7 := by
    intro h7
    rcases parse_good s h7 with h' | h' <;> omega
  have hp := run_not7 s h7
  have hlow : ∀ k (hk : k < s.size), k < (readF s.data.toList 0 0 0).2 → (s[k]'hk).toNat < 128 := by
    intro k hk h
    exact read_low s.data.toList 0 0 0 k (by omega) (by rw [← Lib.size_eq]; exact hk)
  have hgo : ∀ q, (stF (s.data.toList.take q) 0 0).1 ≠ 9 → ∃ j, j < 7 ∧ ∃ e, endsL[j]? = some e ∧ ∀ t : ByteArray, t.data.toList = s.data.toList.take q ++ e → (parseF t).2.2.2 = 0 ∨ (parseF t).2.2.2 = 6 := by
    intro q h9
    have hok := st_ok (s.data.toList.take q) 0 0 ⟨by omega, fun _ => rfl, fun h => by omega⟩
    obtain ⟨j, hj, e, he, hr⟩ := goes_end _ _ (0 + (s.data.toList.take q).length) hok h9
    refine ⟨j, hj, e, he, fun t ht => parse_good t ?_⟩
    rw [ht, st_append _ _ _ _ _ h9]; exact hr
  rw [hp]
  by_cases h9 : (readF s.data.toList 0 0 0).1 = 9
  · rw [if_pos h9]
    have hpl := run_place s s.data.toList 0 0 0 (by simp) (run_zero s) (by omega) h9
    have hln := lets_len0 s
    refine ⟨by show (readF s.data.toList 0 0 0).2 ≤ _; omega, fun h => by simp at h, fun _ => hpl, by show (readF s.data.toList 0 0 0).2 ≤ _; omega, hlow, ?_⟩
    have := st_take s.data.toList 0 0 0 (by omega) h9
    rw [Nat.sub_zero] at this
    exact hgo _ this
  · rw [if_neg h9]
    have hall := run_all s s.data.toList 0 0 0 (by simp) (run_zero s) h9
    have hend := read_end _ _ _ _ h9
    rw [Nat.zero_add, ← Lib.size_eq] at hend
    refine ⟨by show (readF s.data.toList 0 0 0).2 ≤ _; omega, fun _ => by show (readF s.data.toList 0 0 0).2 = _; omega, fun h => by simp at h, by show (readF s.data.toList 0 0 0).2 ≤ _; omega, hlow, ?_⟩
    refine hgo _ ?_
    show (stF (s.data.toList.take (readF s.data.toList 0 0 0).2) 0 0).1 ≠ 9
    rw [hend, Lib.size_eq, List.take_length, st_whole _ 0 0 0 h9]
    exact h9
end Go.Proofs.YtmolifgjghbfaaaDoor
