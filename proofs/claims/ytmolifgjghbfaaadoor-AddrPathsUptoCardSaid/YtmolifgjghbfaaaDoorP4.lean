/- Print and Parse: which local parts stand as they are; what is printed comes back. Plain facts. -/
import Derived.Test.YtmolifgjghbfaaaDoorP3
namespace Go.Proofs.YtmolifgjghbfaaaDoor
open Go.RowKit

/-- From between signs, and from a domain, no word is reached. -/
theorem not_one : ∀ (l : List UInt8) (far len pos : Nat), 3 ≤ far → (readF l far len pos).1 ≠ 1 := by
  intro l
  induction l with
  | nil => intro far len pos h; show far ≠ 1; omega
  | cons b t ih =>
    intro far len pos h
    rw [readF_cons]
    split
    · show (9 : Nat) ≠ 1; omega
    · refine ih _ _ _ ?_
      have hl := label_cases far len b.toNat
      unfold nextF nextSignedF
      repeat' split
      all_goals first | omega | (rcases hl with h1 | h1 | h1 | h1 <;> omega)
/-- What ends as a word says itself. -/
theorem word_say : ∀ (l : List UInt8) (far pos : Nat), far = 1 ∨ far = 2 → (readF l far 0 pos).1 = 1 → sayF far l = some l := by
  intro l
  induction l with
  | nil =>
    intro far pos hf h
    have : far = 1 := h
    unfold sayF
    rw [if_pos (Or.inl this)]
  | cons b t ih =>
    intro far pos hf h
    rw [readF_cons] at h
    have hw := nextWord_cases b.toNat
    by_cases h9 : nextF far 0 b.toNat = 9
    · rw [if_pos h9] at h; exact absurd h (by show (9 : Nat) ≠ 1; omega)
    rw [if_neg h9] at h
    have hn : nextF far 0 b.toNat = 1 ∨ nextF far 0 b.toNat = 2 := by
      have h3 : ¬ 3 ≤ nextF far 0 b.toNat := fun h3 => not_one _ _ _ _ h3 h
      have h0 : nextF far 0 b.toNat ≠ 0 := by
        unfold nextF nextSignedF
        repeat' split
        all_goals first | omega | (have := label_cases far 0 b.toNat; omega)
      omega
    rw [lenF_local (by omega)] at h
    unfold sayF
    rw [if_neg (by omega), ih _ _ hn h, keep_word far b (by omega)]; rfl
theorem word_say0 (l : List UInt8) (h : (readF l 0 0 0).1 = 1) : sayF 0 l = some l ∧ l.head? ≠ some 34 := by
  cases l with
  | nil => exact absurd h (by show (0 : Nat) ≠ 1; omega)
  | cons b t =>
    have hb : b.toNat ≠ 34 := by
      intro hb
      rw [readF_cons, hb, show nextF 0 0 34 = 3 from rfl, if_neg (by omega)] at h
      exact not_one _ _ _ _ (by omega) h
    have hnx : nextF 0 0 b.toNat = nextF 2 0 b.toNat := by
      show (if 0 = 0 then (if b.toNat = 34 then 3 else nextWordF b.toNat) else _) = nextWordF b.toNat
      rw [if_pos rfl, if_neg hb]
    have h2 : (readF (b :: t) 2 0 0).1 = 1 := by rw [readF_cons] at h ⊢; rw [← hnx]; exact h
    have h3 := word_say _ 2 0 (Or.inr rfl) h2
    refine ⟨?_, ?_⟩
    · unfold sayF at h3 ⊢
      rw [hnx]
      rw [keep_word 2 b (by omega)] at h3
      rw [show keepF 0 b = [b] by unfold keepF; rw [if_neg (by rintro (⟨_, h⟩ | ⟨h, _⟩); exact hb (by rw [h]; rfl); omega)]]
      exact h3
    · intro h; injection h with h; exact hb (by rw [h]; rfl)
theorem say_one : ∀ (l : List UInt8) (far pos : Nat) (x : List UInt8), far = 1 ∨ far = 2 → sayF far l = some x → (readF l far 0 pos).1 = 1 := by
  intro l
  induction l with
  | nil =>
    intro far pos x hf h
    unfold sayF at h
    split at h
    · show far = 1; omega
    · cases h
  | cons b t ih =>
    intro far pos x hf h
    unfold sayF at h
    split at h
    · cases h
    · rename_i hn
      obtain ⟨y, hy, rfl⟩ := Option.map_eq_some_iff.1 h
      have hw := nextWord_cases b.toNat
      have hnx : nextF far 0 b.toNat = 1 ∨ nextF far 0 b.toNat = 2 := by
        revert hn
        unfold nextF
        rcases hf with rfl | rfl
        · simp only [show ¬ (1 : Nat) = 0 by omega, show ¬ (1 : Nat) = 2 by omega, if_false, if_true]
          split
          · intro _; exact Or.inr rfl
          split
          · intro h; exact absurd (Or.inr rfl) h
          intro h; omega
        · simp only [show ¬ (2 : Nat) = 0 by omega, if_false, if_true]
          intro h; omega
      rw [readF_cons, if_neg (by omega), lenF_local (by omega)]
      exact ih _ _ _ hnx hy
theorem say_one0 (b : UInt8) (t x : List UInt8) (hb : b ≠ 34) (h : sayF 0 (b :: t) = some x) : (readF (b :: t) 0 0 0).1 = 1 := by
  have hb' : b.toNat ≠ 34 := fun e => hb (UInt8.toNat_inj.1 e)
  have hnx : nextF 0 0 b.toNat = nextF 2 0 b.toNat := by
    show (if 0 = 0 then (if b.toNat = 34 then 3 else nextWordF b.toNat) else _) = nextWordF b.toNat
    rw [if_pos rfl, if_neg hb']
  unfold sayF at h
  rw [hnx] at h
  split at h
  · cases h
  · rename_i hn
    obtain ⟨y, hy, _⟩ := Option.map_eq_some_iff.1 h
    have h2 : sayF 2 (b :: t) = some (keepF 2 b ++ y) := by unfold sayF; rw [if_neg hn, hy]; rfl
    have := say_one _ 2 0 _ (Or.inr rfl) h2
    rw [readF_cons] at this ⊢
    rw [hnx]; exact this
theorem say_short : ∀ (l : List UInt8) (far : Nat) (x : List UInt8), far = 3 ∨ far = 4 → sayF far l = some x → x.length < l.length := by
  intro l
  induction l with
  | nil => intro far x hf h; unfold sayF at h; rw [if_neg (by omega)] at h; cases h
  | cons b t ih =>
    intro far x hf h
    unfold sayF at h
    split at h
    · cases h
    · rename_i hn
      obtain ⟨y, hy, rfl⟩ := Option.map_eq_some_iff.1 h
      have hkl : (keepF far b).length ≤ 1 := by unfold keepF; split <;> simp
      have hc : nextF far 0 b.toNat = 3 ∨ nextF far 0 b.toNat = 4 ∨ (nextF far 0 b.toNat = 5 ∧ far = 3 ∧ b.toNat = 34) := by
        revert hn
        rcases hf with rfl | rfl
        · rw [next3]; unfold nextSignedF
          repeat' split
          all_goals intro hn; first | omega | simp_all
        · rw [next4]
          split
          · intro _; exact Or.inl rfl
          · intro hn; omega
      rw [List.length_append, List.length_cons]
      rcases hc with h3 | h4 | ⟨h5, h6, h7⟩
      · rw [h3] at hy; have := ih 3 y (Or.inl rfl) hy; omega
      · rw [h4] at hy; have := ih 4 y (Or.inr rfl) hy; omega
      · rw [h5] at hy
        obtain ⟨rfl, rfl⟩ := say_end t y hy
        rw [h6, keep_sign b (Or.inl h7)]; simp
theorem split_at_last (a d l e : List UInt8) (h : a ++ 64 :: d = l ++ 64 :: e) (h1 : (64 : UInt8) ∉ d) (h2 : (64 : UInt8) ∉ e) : a = l ∧ d = e := by
  rcases List.append_eq_append_iff.1 h with ⟨m, hm1, hm2⟩ | ⟨m, hm1, hm2⟩
  · cases m with
    | nil => simp at hm1 hm2; exact ⟨hm1.symm, hm2⟩
    | cons c t =>
      rw [List.cons_append] at hm2
      injection hm2 with h3 h4
      exact absurd (by rw [h4]; simp) h1
  · cases m with
    | nil => simp at hm1 hm2; exact ⟨hm1, hm2.symm⟩
    | cons c t =>
      rw [List.cons_append] at hm2
      injection hm2 with h3 h4
      exact absurd (by rw [h4]; simp) h2
/-- Which local parts stand as they are. -/
theorem stands (l : List UInt8) (hl : l.length ≤ 64) :
    ((parseF ⟨(l ++ [64, 97]).toArray⟩).2.2.2 = 0 ∧ (parseF ⟨(l ++ [64, 97]).toArray⟩).1 = l) ↔ (readF l 0 0 0).1 = 1 := by
  have hdata : (⟨(l ++ [64, 97]).toArray⟩ : ByteArray).data.toList = l ++ 64 :: [97] := by simp
  constructor
  · rintro ⟨h1, h2⟩
    have h7 : (readF (l ++ 64 :: [97]) 0 0 0).1 = 7 := by
      refine Decidable.byContradiction fun h7 => ?_
      have := run_not7 ⟨(l ++ [64, 97]).toArray⟩ (by rw [hdata]; exact h7)
      rw [this] at h1
      revert h1
      show (if _ then 4 else 3) = 0 → False
      split <;> intro h <;> omega
    obtain ⟨a, d, x, hs, h64, hsay, _, hr⟩ := run_good _ h7
    obtain ⟨rfl, rfl⟩ := split_at_last a d l [97] hs.symm h64 (by decide)
    have hp : parseF ⟨(a ++ [64, 97]).toArray⟩ = finF x [97] := by unfold parseF; rw [hdata]; exact hr
    rw [hp] at h1 h2
    have hx : x = a := by
      unfold finF at h1 h2
      split at h1
      · cases h1
      · rename_i hlim
        rw [if_neg hlim] at h2; exact h2
    cases a with
    | nil => unfold sayF at hsay; rw [if_neg (by omega)] at hsay; cases hsay
    | cons b t =>
      by_cases hb : b = 34
      · exfalso
        subst hb
        have := say_short t 3 x (Or.inl rfl) (say_quote t x hsay)
        rw [hx, List.length_cons] at this; omega
      · exact say_one0 b t x hb hsay
  · intro h
    have hsay := (word_say0 l h).1
    have hr := run_join l 0 0 [97] l [] (by omega) hsay
    have hp : parseF ⟨(l ++ [64, 97]).toArray⟩ = finF l [97] := by
      unfold parseF
      rw [hdata, hr]
      unfold domP
      have e1 : readF [97] 6 0 (0 + l.length + 1) = (7, 0 + l.length + 1 + 1) := rfl
      rw [e1, if_neg (by simp), if_pos rfl]; rfl
    rw [hp]
    unfold finF
    rw [if_neg (by simp; omega)]
    exact ⟨rfl, rfl⟩
theorem dom_zero (s : ByteArray) (h : 0 < (lets s 0).length) : (domRes s 0 = ((lets s 0).length : Int)) ↔ (readF s.data.toList 6 0 0).1 = 7 := by
  unfold domRes
  rw [List.drop_zero]
  constructor
  · intro he
    refine Decidable.byContradiction fun h7 => ?_
    by_cases h9 : (readF s.data.toList 6 0 0).1 = 9
    · rw [if_pos h9] at he
      have := run_place s s.data.toList 6 0 0 (by simp) (run_zero s) (by omega) h9
      omega
    · rw [if_neg h9, if_neg h7] at he; omega
  · intro h7
    rw [if_neg (by omega), if_pos h7]
theorem dom_empty : (readF [] 6 0 0).1 ≠ 7 := by decide
end Go.Proofs.YtmolifgjghbfaaaDoor
