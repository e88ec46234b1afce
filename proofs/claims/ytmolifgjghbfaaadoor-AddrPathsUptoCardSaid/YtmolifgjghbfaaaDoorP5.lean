/- Path; what is printed comes back, and what is taken is printed. Plain facts. -/
import Derived.Test.YtmolifgjghbfaaaDoorP4
namespace Go.Proofs.YtmolifgjghbfaaaDoor
open Go.RowKit

/-- The address at a text's beginning behind its <, what stands behind, and the error. -/
abbrev Pathed := List UInt8 × List UInt8 × List UInt8 × Nat
def pathT (t : List UInt8) : Pathed :=
  if (readF t 0 0 0).1 = 9 ∧ t[(readF t 0 0 0).2]? = some 62 then
    if (readF t 0 0 0).2 = 0 then ([], [], t.drop 1, 0)
    else if (parseF ⟨(t.take (readF t 0 0 0).2).toArray⟩).2.2.2 = 0 then ((parseF ⟨(t.take (readF t 0 0 0).2).toArray⟩).1, (parseF ⟨(t.take (readF t 0 0 0).2).toArray⟩).2.1, t.drop ((readF t 0 0 0).2 + 1), 0)
    else ([], [], [], 4)
  else ([], [], [], 4)
def pathF (l : List UInt8) : Pathed := if l.head? = some 60 then pathT (l.drop 1) else ([], [], [], 4)
theorem parse_read7 (s : ByteArray) (h : (parseF s).2.2.2 = 0) : (readF s.data.toList 0 0 0).1 = 7 := by
  refine Decidable.byContradiction fun h7 => ?_
  rw [run_not7 s h7] at h
  revert h
  show (if _ then 4 else 3) = 0 → False
  split <;> intro h <;> omega
/-- An address ahead of a > is the one that Path takes. -/
theorem path_at (t : List UInt8) (m : Nat) (hm : t[m]? = some 62) (h : (parseF ⟨(t.take m).toArray⟩).2.2.2 = 0) : pathT t = ((parseF ⟨(t.take m).toArray⟩).1, (parseF ⟨(t.take m).toArray⟩).2.1, t.drop (m + 1), 0) := by
  have hml : m < t.length := by
    rcases Nat.lt_or_ge m t.length with h' | h'
    · exact h'
    · rw [List.getElem?_eq_none h'] at hm; cases hm
  have h7 := parse_read7 _ h
  have hd : (⟨(t.take m).toArray⟩ : ByteArray).data.toList = t.take m := by simp
  rw [hd] at h7
  have hst := st_whole (t.take m) 0 0 0 (by rw [h7]; omega)
  rw [h7] at hst
  have hsp : t = t.take m ++ 62 :: t.drop (m + 1) := by
    have h1 := List.drop_eq_getElem_cons hml
    have h2 : t[m] = 62 := by rw [List.getElem?_eq_getElem hml] at hm; exact Option.some.inj hm
    rw [h2] at h1
    rw [← h1, List.take_append_drop]
  have hpos : (readF t 0 0 0) = (9, m) := by
    have h9 : nextF 7 (stF (t.take m) 0 0).2 (62 : UInt8).toNat = 9 := by
      rw [next_dom _ _ _ (by omega)]
      unfold nextLabelF
      rw [if_neg (by intro h; exact absurd h.1 (by decide)), if_neg (by intro h; exact absurd h.1 (by decide)), if_neg (by intro h; exact absurd h.1 (by decide))]
    have := read_app (t.take m) (62 :: t.drop (m + 1)) 0 0 0 (by rw [hst]; omega)
    rw [← hsp, hst, readF_cons, if_pos h9] at this
    rw [this, List.length_take]
    congr 1; omega
  have hm0 : m ≠ 0 := by
    intro h0
    rw [h0] at h7
    revert h7; show (0 : Nat) = 7 → False; omega
  unfold pathT
  rw [hpos]
  simp only
  rw [if_pos (by simpa using hm), if_neg hm0, if_pos h]
where
  read_app : ∀ (a b : List UInt8) (far len pos : Nat), (stF a far len).1 ≠ 9 → readF (a ++ b) far len pos = readF b (stF a far len).1 (stF a far len).2 (pos + a.length) := by
    intro a
    induction a with
    | nil => intros; rfl
    | cons c t ih =>
      intro b far len pos h
      unfold stF at h ⊢
      by_cases h9 : nextF far len c.toNat = 9
      · rw [if_pos h9] at h; exact absurd rfl h
      · rw [if_neg h9] at h ⊢
        show readF (c :: (t ++ b)) far len pos = _
        rw [readF_cons, if_neg h9, ih b _ _ _ h, List.length_cons, show pos + 1 + t.length = pos + (t.length + 1) by omega]
theorem path_empty (t : List UInt8) (h : t.head? = some 62) : pathT t = ([], [], t.drop 1, 0) := by
  cases t with
  | nil => cases h
  | cons b r =>
    injection h with h
    subst h
    have e : readF (62 :: r) 0 0 0 = (9, 0) := by rw [readF_cons]; rfl
    unfold pathT
    rw [e]
    simp
/-- Where no > has an address ahead of it there is none. -/
theorem path_none (t : List UInt8) (h62 : t.head? ≠ some 62) (h : ∀ m, t[m]? = some 62 → (parseF ⟨(t.take m).toArray⟩).2.2.2 ≠ 0) : pathT t = ([], [], [], 4) := by
  unfold pathT
  split
  · rename_i hc
    split
    · rename_i h0
      exfalso
      rw [h0] at hc
      apply h62
      rw [← hc.2]
      cases t <;> rfl
    · rw [if_neg (h _ hc.2)]
  · rfl

theorem read_pos : ∀ (l : List UInt8) (far len p q : Nat), (readF l far len p).1 = (readF l far len q).1 := by
  intro l
  induction l with
  | nil => intros; rfl
  | cons b t ih =>
    intro far len p q
    rw [readF_cons, readF_cons]
    split
    · rfl
    · exact ih _ _ _ _
def escF (l : List UInt8) : List UInt8 := (l.map fun b => (if b.toNat = 34 ∨ b.toNat = 92 then [92] else []) ++ [b]).flatten
theorem escF_cons (b : UInt8) (t : List UInt8) : escF (b :: t) = (if b.toNat = 34 ∨ b.toNat = 92 then [92] else []) ++ [b] ++ escF t := rfl
theorem quote_print (s : ByteArray) : ∀ (a : List UInt8) (pos : Nat) (acc : List UInt8) (pl : Nat), s.data.toList.drop pos = a → (∀ b ∈ a, printR b.toNat = true) → quoteGo (lets s pos) acc pl = (acc ++ escF a ++ [34], 0, 0) := by
  intro a
  induction a with
  | nil =>
    intro pos acc pl hd _
    rw [lets_nil s pos (by have := lets_none s pos hd; omega)]
    unfold quoteGo escF; simp
  | cons b t ih =>
    intro pos acc pl hd hp
    have hb := print_low (hp b (by simp))
    obtain ⟨_, hl, hd2⟩ := lets_at s pos b t hd (by omega)
    rw [hl]
    unfold quoteGo
    have hpl : plainR b.toNat 1 = true := by
      unfold plainR
      rw [if_neg (by omega)]
      simp; omega
    rw [hpl, if_pos rfl, enc_byte b (by omega), ih (pos + 1) _ _ hd2 (fun c hc => hp c (by simp [hc])), escF_cons]
    simp only [List.append_assoc]
theorem say_esc : ∀ (a : List UInt8), (∀ b ∈ a, printR b.toNat = true) → sayF 3 (escF a ++ [34]) = some a := by
  intro a
  induction a with
  | nil => intro _; rfl
  | cons b t ih =>
    intro hp
    have ht := ih (fun c hc => hp c (by simp [hc]))
    rw [escF_cons]
    by_cases hb : b.toNat = 34 ∨ b.toNat = 92
    · rw [if_pos hb]
      show sayF 3 (92 :: (b :: (escF t ++ [34]))) = _
      have e1 : nextF 3 0 (92 : UInt8).toNat = 4 := rfl
      have e2 : nextF 4 0 b.toNat = 3 := by rw [next4, if_pos hb]
      unfold sayF
      rw [e1, if_neg (by omega)]
      unfold sayF
      rw [e2, if_neg (by omega), ht, keep_word 4 b (by omega), keep_sign 92 (Or.inr rfl)]; rfl
    · rw [if_neg hb]
      show sayF 3 (b :: (escF t ++ [34])) = _
      have e1 : nextF 3 0 b.toNat = 3 := by rw [next3]; unfold nextSignedF; rw [if_neg (by omega), if_neg (by omega), if_pos (hp b (by simp))]
      unfold sayF
      rw [e1, if_neg (by omega), ht, keep_other b (by omega) (by omega)]; rfl
theorem loc_bytes (l : List UInt8) (h : locF l = true) : l ≠ [] ∧ ∀ b ∈ l, printR b.toNat = true := by
  unfold locF at h
  rw [Bool.and_eq_true] at h
  refine ⟨?_, fun b hb => List.all_eq_true.1 h.2 b hb⟩
  intro e; rw [e] at h; simp at h
theorem out_say (l : List UInt8) (h : locF l = true) (hl : l.length ≤ 64) : sayF 0 (outF l) = some l := by
  unfold outF
  split
  · rename_i h1; exact (word_say0 l h1).1
  · have hp := (loc_bytes l h).2
    have hq : quoteF ⟨l.toArray⟩ = (34 :: (escF l ++ [34]), 0, 0) := by
      unfold quoteF
      rw [if_neg (by simp [ByteArray.size]; omega), quote_print ⟨l.toArray⟩ l 0 [34] 0 (by simp) hp]
      simp
    rw [hq]
    unfold sayF
    rw [show nextF 0 0 (34 : UInt8).toNat = 3 from rfl, if_neg (by omega), say_esc l hp]; rfl
/-- What is printed comes back. -/
theorem print_back (loc dom : List UInt8) (o : List UInt8) (h : printF loc dom = (o, 0)) : parseF ⟨o.toArray⟩ = (loc, dom, 0, 0) ∧ o.length ≤ 1000 := by
  unfold printF at h
  split at h
  · cases h
  split at h
  · cases h
  split at h
  · cases h
  rename_i h1 h2 h3
  injection h with h _
  have hl : locF loc = true := by simpa using h1
  have hd : domF dom = true := by simpa using h2
  unfold domF at hd
  rw [Bool.and_eq_true] at hd
  have hd1 := of_decide_eq_true hd.1
  have hd2 : low dom = dom := by simpa using hd.2
  have hs := out_say loc hl (by omega)
  have hr := run_join (outF loc) 0 0 dom loc [] (by omega) hs
  constructor
  · unfold parseF
    rw [← h, show (⟨(outF loc ++ 64 :: dom).toArray⟩ : ByteArray).data.toList = outF loc ++ 64 :: dom by simp, hr]
    unfold domP
    rw [read_pos dom 6 0 _ 0, hd1, if_neg (by omega), if_pos rfl]
    unfold finF
    rw [if_neg (by simpa using h3), hd2]; rfl
  · rw [← h, List.length_append, List.length_cons]
    have : (outF loc).length ≤ 700 := by
      unfold outF
      split
      · omega
      · have h4 := quoteGo_len (lets ⟨loc.toArray⟩ 0) [34] 0
        have h5 := lets_len ⟨loc.toArray⟩
        unfold quoteF
        split
        · simp
        · simp [ByteArray.size] at h5
          simp at h4; omega
    omega
theorem say_print : ∀ (l : List UInt8) (far : Nat) (x : List UInt8), far ≤ 5 → sayF far l = some x → ∀ b ∈ x, printR b.toNat = true := by
  intro l
  induction l with
  | nil =>
    intro far x _ h
    unfold sayF at h
    split at h
    · obtain rfl := Option.some.inj h; intro b hb; simp at hb
    · cases h
  | cons c t ih =>
    intro far x hf h
    unfold sayF at h
    split at h
    · cases h
    · rename_i hn
      obtain ⟨y, hy, rfl⟩ := Option.map_eq_some_iff.1 h
      have hn5 : nextF far 0 c.toNat ≤ 5 := by have := next_local far 0 c.toNat hf; omega
      intro b hb
      rcases List.mem_append.1 hb with hb | hb
      · have hbc : b = c := by
          unfold keepF at hb
          split at hb
          · simp at hb
          · simpa using hb
        subst hbc
        have hw33 : wordR b.toNat = true → printR b.toNat = true := by
          intro hw
          have := word_low hw
          have h33 : 32 ≤ b.toNat := by
            unfold wordR at hw
            rw [Bool.or_eq_true] at hw
            rcases hw with hw | hw
            · unfold alnumR at hw; simp at hw; omega
            · have := of_decide_eq_true hw; unfold signL at this; simp at this; omega
          unfold printR; simp; omega
        have hnw : nextWordF b.toNat ≠ 9 → wordR b.toNat = true := by
          unfold nextWordF; split
          · rename_i h; intro _; exact h
          · intro h; exact absurd rfl h
        have hp : ∀ n, b.toNat = n → 32 ≤ n → n ≤ 126 → printR b.toNat = true := by
          intro n h1 h2 h3; unfold printR; simp; omega
        have h9 : nextF far 0 b.toNat ≠ 9 := fun h => hn (Or.inl h)
        revert h9
        unfold nextF nextSignedF
        repeat' split
        all_goals intro h9
        all_goals first | (exact hp _ ‹_› (by omega) (by omega)) | (exact hw33 (hnw h9)) | assumption | (exact absurd rfl h9) | (rename_i h1; rcases h1 with h1 | h1 <;> exact hp _ h1 (by omega) (by omega)) | omega
      · exact ih _ y hn5 hy b hb
theorem alnum_low_same (b : UInt8) : alnumR (lowB b).toNat = alnumR b.toNat := by
  by_cases h : 65 ≤ b.toNat ∧ b.toNat ≤ 90
  · have := lowB_in b h
    have e : (lowB b).toNat = b.toNat + 32 := by omega
    rw [e]
    unfold alnumR
    rw [Bool.eq_iff_iff]; simp; omega
  · rw [lowB_out b h]
theorem label_low (far len : Nat) (b : UInt8) : nextLabelF far len (lowB b).toNat = nextLabelF far len b.toNat := by
  unfold nextLabelF
  rw [alnum_low_same]
  by_cases h : 65 ≤ b.toNat ∧ b.toNat ≤ 90
  · have := lowB_in b h
    have e : (lowB b).toNat = b.toNat + 32 := by omega
    rw [e, if_neg (show ¬ (b.toNat + 32 = 45 ∧ far ≠ 6 ∧ len < 62) by omega), if_neg (show ¬ (b.toNat + 32 = 46 ∧ far = 7) by omega), if_neg (show ¬ (b.toNat = 45 ∧ far ≠ 6 ∧ len < 62) by omega), if_neg (show ¬ (b.toNat = 46 ∧ far = 7) by omega)]
  · rw [lowB_out b h]
theorem low_read : ∀ (l : List UInt8) (far len pos : Nat), 6 ≤ far ∧ far ≤ 8 → (readF (low l) far len pos).1 = (readF l far len pos).1 := by
  intro l
  induction l with
  | nil => intros; rfl
  | cons b t ih =>
    intro far len pos hf
    show (readF (lowB b :: low t) far len pos).1 = _
    rw [readF_cons, readF_cons, next_dom _ _ _ hf, next_dom _ _ _ hf, label_low]
    split
    · rfl
    · have := label_cases far len b.toNat
      exact ih _ _ _ (by omega)
theorem lowB_idem (b : UInt8) : lowB (lowB b) = lowB b := by
  by_cases h : 65 ≤ b.toNat ∧ b.toNat ≤ 90
  · have := lowB_in b h
    exact lowB_out _ (by omega)
  · rw [lowB_out b h, lowB_out b h]
theorem low_idem (l : List UInt8) : low (low l) = low l := by
  unfold low
  rw [List.map_map]
  apply List.map_congr_left
  intro b _
  exact lowB_idem b
/-- What is taken is printed. -/
theorem taken_prints (s : ByteArray) (h : (parseF s).2.2.2 = 0) (hne : (parseF s).1 ≠ []) : (printF (parseF s).1 (parseF s).2.1).2 = 0 := by
  have h7 := parse_read7 s h
  obtain ⟨a, d, x, _, _, hsay, hdom, hr⟩ := run_good _ h7
  have hp : parseF s = finF x d := hr
  rw [hp] at h hne ⊢
  unfold finF at h hne ⊢
  split at h
  · cases h
  · rename_i hlim
    rw [if_neg hlim] at hne ⊢
    simp only at hne ⊢
    have hl : locF x = true := by
      unfold locF
      rw [Bool.and_eq_true]
      refine ⟨by cases x with | nil => exact absurd rfl hne | cons => rfl, List.all_eq_true.2 fun b hb => say_print a 0 x (by omega) hsay b hb⟩
    have hd : domF (low d) = true := by
      unfold domF
      rw [low_read d 6 0 0 (by omega), read_pos d 6 0 0 (a.length + 1), hdom, low_idem]; simp
    unfold printF
    rw [hl, if_neg (by simp), hd, if_neg (by simp), if_neg (by rw [low_length]; exact hlim)]
end Go.Proofs.YtmolifgjghbfaaaDoor
