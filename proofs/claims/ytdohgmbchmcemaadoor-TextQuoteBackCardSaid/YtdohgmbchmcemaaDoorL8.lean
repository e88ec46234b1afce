import Derived.Test.YtdohgmbchmcemaaDoorL7
namespace Go.Proofs.YtdohgmbchmcemaaDoor
open Go.RowKit

theorem dec_valid (s : ByteArray) (pos r k : Nat) (hd : Utf8.decode s pos = (r, k)) : r ≤ 1114111 ∧ ¬ (55296 ≤ r ∧ r ≤ 57343) := by
  rw [Lib.decode_at] at hd
  unfold Lib.decodeN at hd
  have l0 := (s.get! pos).toNat_lt
  have l1 := (s.get! (pos + 1)).toNat_lt
  revert hd
  repeat' split
  all_goals (intro hd; injection hd with h1 h2; omega)

theorem quote_bad : ∀ (l : List (Nat × Nat × Nat)) (acc : List UInt8) (pl : Nat), (quoteGo l acc pl).2.2 ≠ 0 → (quoteGo l acc pl).1 = []
  | [], acc, pl, h => by simp [quoteGo] at h
  | (p, r, k) :: t, acc, pl, h => by
    unfold quoteGo at h ⊢
    cases hq : plainR r k with
    | false => simp
    | true =>
      rw [hq] at h
      simp only [if_true] at h ⊢
      exact quote_bad t _ _ h

theorem esc_len : ∀ l : List (Nat × Nat × Nat), (l.map fun x => escL x.2.1).flatten.length ≤ l.length + (l.map fun x => Lib.encodeRune (x.2.1 : Int)).flatten.length
  | [] => by simp
  | x :: t => by
    have := esc_len t
    have h1 : (escL x.2.1).length ≤ 1 + (Lib.encodeRune (x.2.1 : Int)).length := by
      unfold escL
      split <;> simp only [List.length_append, List.length_cons, List.length_nil, List.nil_append] <;> omega
    simp only [List.map_cons, List.flatten_cons, List.length_append, List.length_cons]
    omega

/-- One letter of what stands at a place. -/
theorem lets_enc (t : ByteArray) (pos r : Nat) (rest : List UInt8) (hv : r ≤ 1114111 ∧ ¬ (55296 ≤ r ∧ r ≤ 57343)) (h : t.data.toList.drop pos = Lib.encodeRune (r : Int) ++ rest) :
    lets t pos = (pos, r, (Lib.encodeRune (r : Int)).length) :: lets t (pos + (Lib.encodeRune (r : Int)).length) ∧ t.data.toList.drop (pos + (Lib.encodeRune (r : Int)).length) = rest := by
  have hd := decodeL_enc r hv rest
  rw [← h, Lib.decodeL_drop] at hd
  have hl := (Lib.runeCells_le (r : Int)).1
  rw [Lib.runeCells_length] at hl
  have hlt : pos < t.size := by
    have := congrArg List.length h
    rw [List.length_drop, List.length_append, ← Lib.size_eq] at this
    omega
  refine ⟨by rw [lets_cons t pos hlt, hd], ?_⟩
  rw [← List.drop_drop, h, List.drop_left]

theorem enc_low (r : Nat) (h : r < 128) : Lib.encodeRune (r : Int) = [UInt8.ofNat r] := by
  unfold Lib.encodeRune
  rw [Lib.encodeRuneZ_one (by omega) (by omega)]
  simp

theorem unq_back (t : ByteArray) (rest : List UInt8) : ∀ (l : List (Nat × Nat × Nat)) (pos : Nat) (acc : List UInt8) (pl : Nat), 0 < pos →
    t.data.toList.drop pos = (l.map fun x => escL x.2.1).flatten ++ (34 :: rest) → (∀ x ∈ l, plainR x.2.1 x.2.2 = true ∧ x.2.1 ≤ 1114111 ∧ ¬ (55296 ≤ x.2.1 ∧ x.2.1 ≤ 57343)) →
    acc.length + (l.map fun x => Lib.encodeRune (x.2.1 : Int)).flatten.length ≤ 1024 →
    unqGo (lets t pos) acc pl false = (acc ++ (l.map fun x => Lib.encodeRune (x.2.1 : Int)).flatten, pos + (l.map fun x => escL x.2.1).flatten.length + 1, 0)
  | [], pos, acc, pl, hpos, hdr, _, hlen => by
    simp only [List.map_nil, List.flatten_nil, List.nil_append, List.append_nil, List.length_nil, Nat.add_zero] at hdr hlen ⊢
    obtain ⟨h1, h2⟩ := lets_enc t pos 34 rest (by omega) (by rw [hdr]; rfl)
    rw [h1, show (Lib.encodeRune ((34 : Nat) : Int)).length = 1 from rfl]
    unfold unqGo
    have hq : quotesR pos 34 1 false = true := by unfold quotesR; rw [if_neg (by omega), if_neg (by simp)]; rfl
    rw [hq, if_neg (by simp), if_neg (by omega), if_neg (by simp), if_neg (by omega), if_neg (by omega)]
  | (p, r, k) :: l, pos, acc, pl, hpos, hdr, hall, hlen => by
    obtain ⟨hpr, hv1, hv2⟩ := hall (p, r, k) (List.mem_cons_self ..)
    simp only at hpr hv1 hv2
    simp only [List.map_cons, List.flatten_cons, List.append_assoc, List.length_append] at hdr hlen ⊢
    have hall' : ∀ x ∈ l, plainR x.2.1 x.2.2 = true ∧ x.2.1 ≤ 1114111 ∧ ¬ (55296 ≤ x.2.1 ∧ x.2.1 ≤ 57343) := fun x hx => hall x (List.mem_cons_of_mem _ hx)
    by_cases hs : r = 34 ∨ r = 92
    · have he : escL r = [92] ++ Lib.encodeRune (r : Int) := by unfold escL; rw [if_pos hs]
      have hr1 : (Lib.encodeRune (r : Int)).length = 1 := by rw [enc_low r (by omega)]; rfl
      rw [he, List.append_assoc] at hdr
      obtain ⟨h1, h2⟩ := lets_enc t pos 92 (Lib.encodeRune (r : Int) ++ ((l.map fun x => escL x.2.1).flatten ++ (34 :: rest))) (by omega) (by rw [hdr]; rfl)
      rw [show (Lib.encodeRune ((92 : Nat) : Int)).length = 1 from rfl] at h1 h2
      obtain ⟨h3, h4⟩ := lets_enc t (pos + 1) r _ ⟨hv1, hv2⟩ h2
      rw [hr1] at h3 h4
      rw [h1]
      unfold unqGo
      have hq : quotesR pos 92 1 false = true := by unfold quotesR; rw [if_neg (by omega), if_neg (by simp)]; rfl
      rw [hq, if_neg (by simp), if_neg (by omega), if_neg (by simp), if_pos rfl, h3]
      unfold unqGo
      have hq2 : quotesR (pos + 1) r 1 true = true := by unfold quotesR; rw [if_neg (by omega), if_pos rfl]; rcases hs with e | e <;> simp [e]
      rw [hq2, if_neg (by simp), if_neg (by omega), if_pos (Or.inl rfl)]
      have ih := unq_back t rest l (pos + 1 + 1) (acc ++ Lib.encodeRune (r : Int)) (pl + 1 + 1) (by omega) h4 hall' (by rw [List.length_append]; omega)
      rw [ih, he]
      simp only [List.append_assoc, List.length_append, List.length_cons, List.length_nil, hr1]
      congr 2
      omega
    · have he : escL r = Lib.encodeRune (r : Int) := by unfold escL; rw [if_neg hs]; rfl
      rw [he] at hdr
      obtain ⟨h1, h2⟩ := lets_enc t pos r _ ⟨hv1, hv2⟩ hdr
      rw [h1]
      unfold unqGo
      have hw : plainR r (Lib.encodeRune (r : Int)).length = true := by
        unfold plainR at hpr ⊢
        by_cases h : r = 65533
        · subst h; rfl
        · rw [if_neg h] at hpr ⊢; exact hpr
      have hq : quotesR pos r (Lib.encodeRune (r : Int)).length false = true := by unfold quotesR; rw [if_neg (by omega), if_neg (by simp)]; exact hw
      rw [hq, if_neg (by simp), if_neg (by omega), if_pos (Or.inr ⟨fun e => hs (Or.inl e), fun e => hs (Or.inr e)⟩)]
      have hl := (Lib.runeCells_le (r : Int)).1
      have ih := unq_back t rest l (pos + (Lib.encodeRune (r : Int)).length) (acc ++ Lib.encodeRune (r : Int)) (pl + 1) (by omega) h2 hall' (by rw [List.length_append]; omega)
      rw [ih, he]
      simp only [List.append_assoc]
      congr 2
      omega

theorem lets_ok (s : ByteArray) : ∀ n pos, s.size - pos = n → ∀ x ∈ lets s pos, x.2.1 ≤ 1114111 ∧ ¬ (55296 ≤ x.2.1 ∧ x.2.1 ≤ 57343) := by
  intro n
  induction n using Nat.strongRecOn with
  | _ n ih =>
    intro pos hn x hx
    by_cases hp : pos < s.size
    · rw [lets_cons s pos hp] at hx
      have hw := dec_le s pos hp
      rcases List.mem_cons.1 hx with e | e
      · subst e; exact dec_valid s pos _ _ rfl
      · exact ih (s.size - (pos + (Utf8.decode s pos).2)) (by omega) _ rfl x e
    · rw [lets_nil s pos hp] at hx; simp at hx

/-- UNQUOTE OF QUOTE. -/
theorem quote_back (s behind : ByteArray) (h : (quoteF s).2.2 = 0) :
    unqF (⟨(quoteF s).1.toArray⟩ ++ behind) = (s.data.toList, (quoteF s).1.length, 0) ∧ (quoteF s).1.length ≤ 2050 := by
  unfold quoteF at h ⊢
  by_cases hlen : 1024 < s.size
  · rw [if_pos hlen] at h; simp at h
  rw [if_neg hlen] at h ⊢
  obtain ⟨h1, h2⟩ := quoteGo_ok _ _ _ h
  have hb := enc_bytes s _ 0 rfl (Nat.zero_le _) h1
  rw [List.drop_zero] at hb
  have hel := esc_len (lets s 0)
  have hll : (lets s 0).length ≤ s.size := by
    have h3 := lets_length s s.size 0
    have h4 : lets s 0 = letsF s s.size 0 := by unfold lets; rw [Nat.sub_zero]
    rw [← h4] at h3; exact h3
  rw [hb, ← Lib.size_eq] at hel
  rw [h2]
  simp only
  refine ⟨?_, by simp only [List.length_append, List.length_cons, List.length_nil]; omega⟩
  generalize hE : ((lets s 0).map fun x => escL x.2.1).flatten = E at *
  unfold unqF
  have hT : ((⟨([34] ++ E ++ [34]).toArray⟩ : ByteArray) ++ behind).data.toList = 34 :: (E ++ (34 :: behind.data.toList)) := by
    rw [app_str]; simp
  generalize (⟨([34] ++ E ++ [34]).toArray⟩ : ByteArray) ++ behind = t at *
  obtain ⟨h5, h6⟩ := lets_enc t 0 34 (E ++ (34 :: behind.data.toList)) (by omega) (by rw [List.drop_zero, hT]; rfl)
  rw [show (Lib.encodeRune ((34 : Nat) : Int)).length = 1 from rfl] at h5 h6
  rw [h5]
  unfold unqGo
  have hq : quotesR 0 34 1 false = true := by unfold quotesR; rw [if_pos rfl]; rfl
  rw [hq, if_neg (by simp), if_pos rfl, Nat.zero_add]
  rw [Nat.zero_add] at h6
  have ih := unq_back t behind.data.toList (lets s 0) 1 [] 1 (by omega) (by rw [h6, hE]) (fun x hx => ⟨h1 x hx, lets_ok s _ 0 rfl x hx⟩) (by rw [hb, ← Lib.size_eq]; simp; omega)
  rw [ih, hb, hE]
  simp only [List.nil_append, List.length_append, List.length_cons, List.length_nil]
end Go.Proofs.YtdohgmbchmcemaaDoor
