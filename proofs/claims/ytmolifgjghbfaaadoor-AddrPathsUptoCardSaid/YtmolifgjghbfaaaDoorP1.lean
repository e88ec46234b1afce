/- An address's text as a row of bytes: the machine that reads it, and what it says. Plain facts. -/
import Derived.Test.YtmolifgjghbfaaaDoorW1
namespace Go.Proofs.YtmolifgjghbfaaaDoor
open Go.RowKit

def alnumR (r : Nat) : Bool := (decide (97 ≤ r) && decide (r ≤ 122)) || ((decide (65 ≤ r) && decide (r ≤ 90)) || (decide (48 ≤ r) && decide (r ≤ 57)))
def signL : List Nat := [33, 35, 36, 37, 38, 39, 42, 43, 45, 47, 61, 63, 94, 95, 96, 123, 124, 125, 126]
def wordR (r : Nat) : Bool := alnumR r || decide (r ∈ signL)
def printR (r : Nat) : Bool := decide (32 ≤ r) && decide (r ≤ 126)
def nextWordF (r : Nat) : Nat := if wordR r = true then 1 else 9
def nextSignedF (r : Nat) : Nat := if r = 34 then 5 else if r = 92 then 4 else if printR r = true then 3 else 9
def nextLabelF (far len r : Nat) : Nat := if alnumR r = true ∧ len < 63 then 7 else if r = 45 ∧ far ≠ 6 ∧ len < 62 then 8 else if r = 46 ∧ far = 7 then 6 else 9
def nextF (far len r : Nat) : Nat :=
  if far = 0 then (if r = 34 then 3 else nextWordF r)
  else if far = 2 then nextWordF r
  else if far = 1 then (if r = 46 then 2 else if r = 64 then 6 else nextWordF r)
  else if far = 3 then nextSignedF r
  else if far = 4 then (if r = 34 ∨ r = 92 then 3 else 9)
  else if far = 5 then (if r = 64 then 6 else 9)
  else if far = 6 ∨ far = 7 ∨ far = 8 then nextLabelF far len r
  else 9
def lenF (f len : Nat) : Nat := if f = 7 ∨ f = 8 then len + 1 else 0
/-- How far one is behind the bytes, and the place where one goes nowhere, or the end. -/
def readF : List UInt8 → Nat → Nat → Nat → Nat × Nat
  | [], far, _, pos => (far, pos)
  | b :: t, far, len, pos => if nextF far len b.toNat = 9 then (9, pos) else readF t (nextF far len b.toNat) (lenF (nextF far len b.toNat) len) (pos + 1)

theorem alnum_low {r : Nat} (h : alnumR r = true) : r ≤ 122 := by
  unfold alnumR at h; simp at h; omega
theorem sign_low {r : Nat} (h : r ∈ signL) : r ≤ 126 := by
  unfold signL at h; simp at h; omega
theorem word_low {r : Nat} (h : wordR r = true) : r ≤ 126 := by
  unfold wordR at h
  rw [Bool.or_eq_true] at h
  rcases h with h | h
  · have := alnum_low h; omega
  · exact sign_low (of_decide_eq_true h)
theorem print_low {r : Nat} (h : printR r = true) : 32 ≤ r ∧ r ≤ 126 := by
  unfold printR at h; simp at h; omega
theorem next_high (far len r : Nat) (h : 127 ≤ r) : nextF far len r = 9 := by
  have h1 : wordR r = false := by cases hw : wordR r with | false => rfl | true => have := word_low hw; omega
  have h2 : printR r = false := by cases hw : printR r with | false => rfl | true => have := print_low hw; omega
  have h3 : alnumR r = false := by cases hw : alnumR r with | false => rfl | true => have := alnum_low hw; omega
  unfold nextF nextSignedF nextLabelF nextWordF
  rw [h1, h2, h3]
  repeat' split
  all_goals first | rfl | omega | simp_all

theorem nextWord_cases (r : Nat) : nextWordF r = 1 ∨ nextWordF r = 9 := by unfold nextWordF; split <;> simp
/-- From a place in a local part one comes to such a place, to the end of it, or nowhere. -/
theorem next_local (far len r : Nat) (h : far ≤ 5) : nextF far len r ≤ 5 ∨ (nextF far len r = 6 ∧ r = 64 ∧ (far = 1 ∨ far = 5)) ∨ nextF far len r = 9 := by
  have hw := nextWord_cases r
  unfold nextF nextSignedF
  repeat' split
  all_goals first | omega | (rcases hw with hw | hw <;> rw [hw] <;> omega)
theorem next_len (far len r : Nat) (h : far ≤ 5) : nextF far len r = nextF far 0 r := by
  unfold nextF
  rw [if_neg (show ¬ (far = 6 ∨ far = 7 ∨ far = 8) by omega), if_neg (show ¬ (far = 6 ∨ far = 7 ∨ far = 8) by omega)]
theorem lenF_local {f : Nat} (h : f ≤ 6) (len : Nat) : lenF f len = 0 := by unfold lenF; rw [if_neg (by omega)]
theorem next_dom (far len r : Nat) (h : 6 ≤ far ∧ far ≤ 8) : nextF far len r = nextLabelF far len r := by
  unfold nextF
  repeat' split
  all_goals first | omega | rfl
theorem label_cases (far len r : Nat) : nextLabelF far len r = 6 ∨ nextLabelF far len r = 7 ∨ nextLabelF far len r = 8 ∨ nextLabelF far len r = 9 := by
  unfold nextLabelF
  repeat' split
  all_goals simp
theorem label_ok (far len r : Nat) (h : nextLabelF far len r ≠ 9) : alnumR r = true ∨ r = 45 ∨ r = 46 := by
  unfold nextLabelF at h
  split at h
  · rename_i h1; exact Or.inl h1.1
  split at h
  · rename_i h1; exact Or.inr (Or.inl h1.1)
  split at h
  · rename_i h1; exact Or.inr (Or.inr h1.1)
  exact absurd rfl h
theorem dom_bytes : ∀ (l : List UInt8) (far len pos : Nat), 6 ≤ far ∧ far ≤ 8 → (readF l far len pos).1 ≠ 9 → ∀ b ∈ l, alnumR b.toNat = true ∨ b.toNat = 45 ∨ b.toNat = 46 := by
  intro l
  induction l with
  | nil => intro _ _ _ _ _ b hb; simp at hb
  | cons c t ih =>
    intro far len pos hf h b hb
    unfold readF at h
    rw [next_dom far len _ hf] at h
    split at h
    · exact absurd rfl h
    · rename_i h9
      have hc := label_cases far len c.toNat
      rcases List.mem_cons.1 hb with rfl | hb
      · exact label_ok far len _ h9
      · exact ih _ _ _ (by omega) h b hb
theorem dom_no_at (l : List UInt8) (far len pos : Nat) (hf : 6 ≤ far ∧ far ≤ 8) (h : (readF l far len pos).1 ≠ 9) : (64 : UInt8) ∉ l := by
  intro hm
  have := dom_bytes l far len pos hf h 64 hm
  revert this; decide

/-- What is taken of an address: its parts, or why not. -/
abbrev Took := List UInt8 × List UInt8 × Nat × Nat
def finF (said d : List UInt8) : Took := if 64 < said.length ∨ 255 < d.length then ([], [], 0, 6) else (said, low d, 0, 0)
def domP (d said : List UInt8) (pos : Nat) : Took :=
  if (readF d 6 0 pos).1 = 9 then ([], [], (readF d 6 0 pos).2, 4) else if (readF d 6 0 pos).1 = 7 then finF said d else ([], [], (readF d 6 0 pos).2, 3)
def keepF (far : Nat) (b : UInt8) : List UInt8 := if far = 0 ∧ b = 34 ∨ far = 3 ∧ (b = 34 ∨ b = 92) then [] else [b]
def runF : List UInt8 → Nat → Nat → List UInt8 → Took
  | [], _, pos, _ => ([], [], pos, 3)
  | b :: t, far, pos, said => if nextF far 0 b.toNat = 9 then ([], [], pos, 4) else if nextF far 0 b.toNat = 6 then domP t said (pos + 1) else runF t (nextF far 0 b.toNat) (pos + 1) (said ++ keepF far b)
def parseF (s : ByteArray) : Took := runF s.data.toList 0 0 []
def sayF : Nat → List UInt8 → Option (List UInt8)
  | far, [] => if far = 1 ∨ far = 5 then some [] else none
  | far, b :: t => if nextF far 0 b.toNat = 9 ∨ nextF far 0 b.toNat = 6 then none else (sayF (nextF far 0 b.toNat) t).map (keepF far b ++ ·)

theorem read_end : ∀ (l : List UInt8) (far len pos : Nat), (readF l far len pos).1 ≠ 9 → (readF l far len pos).2 = pos + l.length := by
  intro l
  induction l with
  | nil => intros; rfl
  | cons b t ih =>
    intro far len pos h
    unfold readF at h ⊢
    split at h
    · exact absurd rfl h
    · rename_i h9
      rw [if_neg h9, ih _ _ _ h, List.length_cons]; omega
theorem read_lt : ∀ (l : List UInt8) (far len pos : Nat), far ≠ 9 → (readF l far len pos).1 = 9 → (readF l far len pos).2 < pos + l.length := by
  intro l
  induction l with
  | nil => intro far len pos hf h; exact absurd h hf
  | cons b t ih =>
    intro far len pos hf h
    unfold readF at h ⊢
    split at h
    · rename_i h9; rw [if_pos h9]; simp
    · rename_i h9
      rw [if_neg h9]
      have := ih _ _ _ h9 h
      rw [List.length_cons]; omega
theorem run_bad : ∀ (l : List UInt8) (far pos : Nat) (said : List UInt8), far ≤ 5 → (readF l far 0 pos).1 ≠ 7 → runF l far pos said = ([], [], (readF l far 0 pos).2, if (readF l far 0 pos).1 = 9 then 4 else 3) := by
  intro l
  induction l with
  | nil =>
    intro far pos said hf _
    unfold runF readF
    rw [if_neg (show ¬ (far, pos).1 = 9 by show ¬ far = 9; omega)]
  | cons b t ih =>
    intro far pos said hf h
    unfold readF at h ⊢
    unfold runF
    rcases next_local far 0 b.toNat hf with hn | ⟨hn, _⟩ | hn
    · have h9 : ¬ nextF far 0 b.toNat = 9 := by omega
      have h6 : ¬ nextF far 0 b.toNat = 6 := by omega
      rw [if_neg h9, lenF_local (by omega)] at h
      rw [if_neg h9, if_neg h9, if_neg h6, lenF_local (by omega)]
      exact ih _ _ _ hn h
    · rw [hn] at h ⊢
      rw [if_neg (by omega), if_pos rfl, if_neg (by omega), lenF_local (by omega)]
      rw [if_neg (by omega), lenF_local (by omega)] at h
      unfold domP
      by_cases e9 : (readF t 6 0 (pos + 1)).1 = 9
      · rw [if_pos e9, if_pos e9]
      · rw [if_neg e9, if_neg e9, if_neg h]
    · rw [if_pos hn, if_pos hn, if_pos rfl]
theorem run_split : ∀ (l : List UInt8) (far pos : Nat), far ≤ 5 → (readF l far 0 pos).1 = 7 → ∃ a d x, l = a ++ 64 :: d ∧ sayF far a = some x ∧ (readF d 6 0 (pos + a.length + 1)).1 = 7 := by
  intro l
  induction l with
  | nil => intro far pos hf h; have : far = 7 := h; omega
  | cons b t ih =>
    intro far pos hf h
    unfold readF at h
    rcases next_local far 0 b.toNat hf with hn | ⟨hn, hb, hfar⟩ | hn
    · rw [if_neg (by omega), lenF_local (by omega)] at h
      obtain ⟨a, d, x, rfl, hs, hr⟩ := ih _ _ hn h
      refine ⟨b :: a, d, keepF far b ++ x, rfl, ?_, ?_⟩
      · unfold sayF; rw [if_neg (by omega), hs]; rfl
      · rw [List.length_cons, show pos + (a.length + 1) + 1 = pos + 1 + a.length + 1 by omega]; exact hr
    · rw [hn, if_neg (by omega), lenF_local (by omega)] at h
      refine ⟨[], t, [], ?_, ?_, h⟩
      · have : b = 64 := UInt8.toNat_inj.1 hb
        rw [this]; rfl
      · unfold sayF; rw [if_pos hfar]
    · rw [if_pos hn] at h; exact absurd h (by simp)
theorem at_next {far : Nat} (h : far = 1 ∨ far = 5) : nextF far 0 (64 : UInt8).toNat = 6 := by rcases h with rfl | rfl <;> decide
theorem read_join : ∀ (a : List UInt8) (far pos : Nat) (d x : List UInt8), far ≤ 5 → sayF far a = some x → readF (a ++ 64 :: d) far 0 pos = readF d 6 0 (pos + a.length + 1) := by
  intro a
  induction a with
  | nil =>
    intro far pos d x hf h
    unfold sayF at h
    split at h
    · rename_i hfar
      show readF (64 :: d) far 0 pos = _
      rw [readF, at_next hfar, if_neg (by omega), lenF_local (by omega)]; rfl
    · cases h
  | cons b t ih =>
    intro far pos d x hf h
    unfold sayF at h
    split at h
    · cases h
    · rename_i hn
      obtain ⟨y, hy, rfl⟩ := Option.map_eq_some_iff.1 h
      have hn5 : nextF far 0 b.toNat ≤ 5 := by have := next_local far 0 b.toNat hf; omega
      show readF (b :: (t ++ 64 :: d)) far 0 pos = _
      rw [readF, if_neg (by omega), lenF_local (by omega), ih _ _ _ _ hn5 hy, List.length_cons]
      congr 1; omega
theorem run_join : ∀ (a : List UInt8) (far pos : Nat) (d x said : List UInt8), far ≤ 5 → sayF far a = some x → runF (a ++ 64 :: d) far pos said = domP d (said ++ x) (pos + a.length + 1) := by
  intro a
  induction a with
  | nil =>
    intro far pos d x said hf h
    unfold sayF at h
    split at h
    · rename_i hfar
      obtain rfl := Option.some.inj h
      show runF (64 :: d) far pos said = _
      rw [runF, at_next hfar, if_neg (by omega), if_pos rfl, List.append_nil]; rfl
    · cases h
  | cons b t ih =>
    intro far pos d x said hf h
    unfold sayF at h
    split at h
    · cases h
    · rename_i hn
      obtain ⟨y, hy, rfl⟩ := Option.map_eq_some_iff.1 h
      have hn5 : nextF far 0 b.toNat ≤ 5 := by have := next_local far 0 b.toNat hf; omega
      show runF (b :: (t ++ 64 :: d)) far pos said = _
      rw [runF, if_neg (by omega), if_neg (by omega), ih _ _ _ _ _ hn5 hy, List.length_cons, List.append_assoc]
      congr 1; omega
/-- A text that has an address's form, taken apart. -/
theorem run_good (l : List UInt8) (h : (readF l 0 0 0).1 = 7) : ∃ a d x, l = a ++ 64 :: d ∧ (64 : UInt8) ∉ d ∧ sayF 0 a = some x ∧ (readF d 6 0 (a.length + 1)).1 = 7 ∧ runF l 0 0 [] = finF x d := by
  obtain ⟨a, d, x, rfl, hs, hr⟩ := run_split l 0 0 (by omega) h
  rw [Nat.zero_add] at hr
  refine ⟨a, d, x, rfl, dom_no_at d 6 0 _ (by omega) (by rw [hr]; omega), hs, hr, ?_⟩
  rw [run_join a 0 0 d x [] (by omega) hs]
  unfold domP
  rw [Nat.zero_add, if_neg (by rw [hr]; omega), if_pos hr]; rfl

/-- A local part without signs says itself. -/
theorem say_word : ∀ (a : List UInt8) (far : Nat) (x : List UInt8), (far = 1 ∨ far = 2) → sayF far a = some x → x = a := by
  intro a
  induction a with
  | nil =>
    intro far x _ h
    unfold sayF at h
    split at h
    · exact (Option.some.inj h).symm
    · cases h
  | cons b t ih =>
    intro far x hf h
    unfold sayF at h
    split at h
    · cases h
    · rename_i hn
      obtain ⟨y, hy, rfl⟩ := Option.map_eq_some_iff.1 h
      have hk : keepF far b = [b] := by unfold keepF; rw [if_neg (by omega)]
      have hnx : nextF far 0 b.toNat = 1 ∨ nextF far 0 b.toNat = 2 := by
        have hw := nextWord_cases b.toNat
        revert hn
        unfold nextF
        rcases hf with rfl | rfl
        · simp only [show ¬ (1 : Nat) = 0 by omega, show ¬ (1 : Nat) = 2 by omega, if_false, if_true]
          split
          · intro _; exact Or.inr rfl
          split
          · intro h; exact absurd (Or.inr rfl) h
          intro h; omega
        · simp only [show ¬ (2 : Nat) = 0 by omega, if_false, if_true]
          intro h; omega
      rw [hk, ih _ _ hnx hy]; rfl
theorem say_plain (b : UInt8) (t x : List UInt8) (hb : b ≠ 34) (h : sayF 0 (b :: t) = some x) : x = b :: t := by
  unfold sayF at h
  have hb' : b.toNat ≠ 34 := fun e => hb (UInt8.toNat_inj.1 e)
  have hnx : nextF 0 0 b.toNat = nextWordF b.toNat := by unfold nextF; rw [if_pos rfl, if_neg hb']
  split at h
  · cases h
  · rename_i hn
    obtain ⟨y, hy, rfl⟩ := Option.map_eq_some_iff.1 h
    rw [hnx] at hn hy
    have hw := nextWord_cases b.toNat
    have hk : keepF 0 b = [b] := by unfold keepF; rw [if_neg (by rintro (⟨_, h⟩ | ⟨h, _⟩); exact hb h; omega)]
    rw [hk, say_word _ _ _ (by omega) hy]; rfl
theorem say_quote (t x : List UInt8) (h : sayF 0 (34 :: t) = some x) : sayF 3 t = some x := by
  unfold sayF at h
  rw [show nextF 0 0 (34 : UInt8).toNat = 3 from rfl, if_neg (by omega)] at h
  obtain ⟨y, hy, rfl⟩ := Option.map_eq_some_iff.1 h
  rw [hy]; rfl
theorem say_end (t x : List UInt8) (h : sayF 5 t = some x) : t = [] ∧ x = [] := by
  cases t with
  | nil => exact ⟨rfl, (Option.some.inj h).symm⟩
  | cons b t =>
    unfold sayF at h
    rw [if_pos (by unfold nextF; simp only [show ¬ (5 : Nat) = 0 by omega, show ¬ (5 : Nat) = 2 by omega, show ¬ (5 : Nat) = 1 by omega, show ¬ (5 : Nat) = 3 by omega, show ¬ (5 : Nat) = 4 by omega, if_false, if_true]; split <;> simp)] at h
    cases h
end Go.Proofs.YtmolifgjghbfaaaDoor
