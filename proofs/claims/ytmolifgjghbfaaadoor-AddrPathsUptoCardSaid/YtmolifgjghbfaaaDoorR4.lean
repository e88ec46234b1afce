/- Plain facts for the reference's Parse. -/
import Derived.Test.YtmolifgjghbfaaaDoorR3
namespace Go.Proofs.YtmolifgjghbfaaaDoor
open Go.RowKit

theorem runF_cons (b : UInt8) (t : List UInt8) (far pos : Nat) (said : List UInt8) : runF (b :: t) far pos said = if nextF far 0 b.toNat = 9 then ([], [], pos, 4) else if nextF far 0 b.toNat = 6 then domP t said (pos + 1) else runF t (nextF far 0 b.toNat) (pos + 1) (said ++ keepF far b) := rfl
theorem runF_nil (far pos : Nat) (said : List UInt8) : runF [] far pos said = ([], [], pos, 3) := rfl
theorem letter_byte {s w g i t r} (L : LetterAt s w g i t r) (hp : i < s.size) : (r < 128 → (s[i]'hp).toNat = r ∧ t.data.toList = [s[i]'hp]) ∧ (128 ≤ r → 128 ≤ (s[i]'hp).toNat) := by
  have h1 := L.byte
  rw [get_lt s i hp] at h1
  constructor
  · intro h
    have h2 := L.same h
    have h3 : (s[i]'hp).toNat = r := by omega
    refine ⟨h3, ?_⟩
    rw [L.txt h, ← h3]; simp
  · intro h; have := L.high h; omega
theorem letter_key {s w g i t r} (L : LetterAt s w g i t r) (hp : i < s.size) (far len : Nat) : nextF far len (s[i]'hp).toNat = nextF far len r := by
  have h := letter_byte L hp
  by_cases h1 : r < 128
  · rw [(h.1 h1).1]
  · rw [next_high _ _ _ (by have := h.2 (by omega); omega), next_high _ _ _ (by omega)]
theorem letter_ascii {s w g i t r} (L : LetterAt s w g i t r) (far len : Nat) (h : nextF far len r ≠ 9) : r < 127 := by
  rcases Nat.lt_or_ge r 127 with h1 | h1
  · exact h1
  · exact absurd (next_high far len r h1) h
theorem keep_sign (b : UInt8) (h : b.toNat = 34 ∨ b.toNat = 92) : keepF 3 b = [] := by
  unfold keepF
  rw [if_pos]
  exact Or.inr ⟨rfl, h.imp (fun h => UInt8.toNat_inj.1 h) (fun h => UInt8.toNat_inj.1 h)⟩
theorem keep_other (b : UInt8) (h1 : b.toNat ≠ 34) (h2 : b.toNat ≠ 92) : keepF 3 b = [b] := by
  unfold keepF
  rw [if_neg]
  rintro (⟨h, _⟩ | ⟨_, h | h⟩)
  · omega
  · exact h1 (by rw [h]; rfl)
  · exact h2 (by rw [h]; rfl)
theorem keep_word (far : Nat) (b : UInt8) (h : far = 1 ∨ far = 2 ∨ far = 4) : keepF far b = [b] := by
  unfold keepF
  rw [if_neg (by omega)]
theorem run02 (b : UInt8) (t : List UInt8) (pos : Nat) (said : List UInt8) (hb : b.toNat ≠ 34) : runF (b :: t) 0 pos said = runF (b :: t) 2 pos said := by
  rw [runF_cons, runF_cons, show nextF 0 0 b.toNat = nextWordF b.toNat by unfold nextF; rw [if_pos rfl, if_neg hb], show nextF 2 0 b.toNat = nextWordF b.toNat from rfl, keep_word 2 b (by omega),
    show keepF 0 b = [b] by unfold keepF; rw [if_neg (by rintro (⟨_, h⟩ | ⟨h, _⟩); exact hb (by rw [h]; rfl); omega)]]

/-- Where all letters are bytes up to a place, that place has its letter. -/
theorem run_next (s : ByteArray) (i : Nat) (hr : Run s i) (hp : i < s.size) : i < (lets s 0).length ∧ ((s[i]'hp).toNat < 128 → Run s (i + 1)) := by
  have hdr := hr.2.1
  rw [lets_cons s i hp] at hdr
  obtain ⟨hin, hx, hdr2⟩ := drop_cons hdr
  refine ⟨hin, fun h => ?_⟩
  rw [dec_ascii s i hp h] at hdr2
  exact ⟨by omega, hdr2, hin⟩
theorem run_place (s : ByteArray) : ∀ (l : List UInt8) (far len i : Nat), s.data.toList.drop i = l → Run s i → far ≠ 9 → (readF l far len i).1 = 9 → (readF l far len i).2 < (lets s 0).length := by
  intro l
  induction l with
  | nil => intro far len i _ _ hf h; exact absurd h hf
  | cons b t ih =>
    intro far len i hd hr hf h
    have hp : i < s.size := by
      rw [Lib.size_eq]
      rcases Nat.lt_or_ge i s.data.toList.length with h' | h'
      · exact h'
      · rw [List.drop_eq_nil_of_le h'] at hd; cases hd
    have hl := list_at s i hp
    rw [hd] at hl
    injection hl with h1 h2
    obtain ⟨hin, hstep⟩ := run_next s i hr hp
    rw [readF_cons] at h ⊢
    by_cases h9 : nextF far len b.toNat = 9
    · rw [if_pos h9]; exact hin
    · rw [if_neg h9] at h ⊢
      have hb : b.toNat < 127 := by
        rcases Nat.lt_or_ge b.toNat 127 with h' | h'
        · exact h'
        · exact absurd (next_high _ _ _ h') h9
      exact ih _ _ _ h2.symm (hstep (by rw [← h1]; omega)) h9 h
theorem run_all (s : ByteArray) : ∀ (l : List UInt8) (far len i : Nat), s.data.toList.drop i = l → Run s i → (readF l far len i).1 ≠ 9 → (lets s 0).length = s.size := by
  intro l
  induction l with
  | nil =>
    intro far len i hd hr _
    refine run_full s i hr ?_
    intro hp
    rw [list_at s i hp] at hd; cases hd
  | cons b t ih =>
    intro far len i hd hr h
    have hp : i < s.size := by
      rw [Lib.size_eq]
      rcases Nat.lt_or_ge i s.data.toList.length with h' | h'
      · exact h'
      · rw [List.drop_eq_nil_of_le h'] at hd; cases hd
    have hl := list_at s i hp
    rw [hd] at hl
    injection hl with h1 h2
    obtain ⟨hin, hstep⟩ := run_next s i hr hp
    rw [readF_cons] at h
    by_cases h9 : nextF far len b.toNat = 9
    · rw [if_pos h9] at h; exact absurd rfl h
    · rw [if_neg h9] at h
      have hb : b.toNat < 127 := by
        rcases Nat.lt_or_ge b.toNat 127 with h' | h'
        · exact h'
        · exact absurd (next_high _ _ _ h') h9
      exact ih _ _ _ h2.symm (hstep (by rw [← h1]; omega)) h
/-- What the reference's domain tells behind an @, and what becomes of it. -/
theorem dom_cases (s : ByteArray) (i : Nat) (said : List UInt8) (hr : Run s i) (hp : 0 < i) :
    (∃ q : Nat, domRes s i = q ∧ q < (lets s 0).length ∧ i < (lets s 0).length ∧ domP (s.data.toList.drop i) said i = ([], [], q, 4)) ∨
    (domRes s i = -1 ∧ domP (s.data.toList.drop i) said i = ([], [], (lets s 0).length, 3)) ∨
    (domRes s i = ((lets s 0).length : Int) ∧ i < (lets s 0).length ∧ (lets s 0).length = s.size ∧ (∀ b ∈ s.data.toList.drop i, b.toNat < 128) ∧ domP (s.data.toList.drop i) said i = finF said (s.data.toList.drop i)) := by
  unfold domRes domP
  have hgen := fun h9 => run_all s (s.data.toList.drop i) 6 0 i rfl hr h9
  by_cases h9 : (readF (s.data.toList.drop i) 6 0 i).1 = 9
  · refine Or.inl ⟨(readF (s.data.toList.drop i) 6 0 i).2, ?_, run_place s _ 6 0 i rfl hr (by omega) h9, ?_, ?_⟩
    · rw [if_pos h9]
    · rcases Nat.lt_or_ge i s.size with h | h
      · exact (run_next s i hr h).1
      · exfalso
        rw [List.drop_eq_nil_of_le (by rw [← Lib.size_eq]; exact h)] at h9
        revert h9; show (6 : Nat) = 9 → False; omega
    · rw [if_pos h9]
  · have hn := hgen h9
    right
    by_cases h7 : (readF (s.data.toList.drop i) 6 0 i).1 = 7
    · right
      refine ⟨by rw [if_neg h9, if_pos h7], ?_, hn, ?_, by rw [if_neg h9, if_pos h7]⟩
      · rw [hn]
        rcases Nat.lt_or_ge i s.size with h | h
        · exact h
        · exfalso
          rw [List.drop_eq_nil_of_le (by rw [← Lib.size_eq]; exact h)] at h7
          revert h7; show (6 : Nat) = 7 → False; omega
      · intro b hb
        rcases dom_bytes _ 6 0 i (by omega) h9 b hb with h | h | h
        · have := alnum_low h; omega
        · omega
        · omega
    · left
      refine ⟨by rw [if_neg h9, if_neg h7], ?_⟩
      rw [if_neg h9, if_neg h7, read_end _ _ _ _ h9, hn]
      have := hr.1
      rw [List.length_drop, ← Lib.size_eq]
      congr 3; omega
end Go.Proofs.YtmolifgjghbfaaaDoor
