import Derived.Test.YtbhkchdkknainaaEqs
/- Unstuff of Stuff over lists. -/
namespace Go.Proofs.Ytbhkchdkknainaa
open Go

theorem lineLen_dot (l : List UInt8) : lineLen (46 :: l) = (lineLen l).map (· + 1) := by
  conv => lhs; unfold lineLen
  rw [if_neg (fun h => absurd h.1 (by decide))]
theorem lineLen_end (r : List UInt8) : ∀ l : List UInt8, lineLen l = none → lineLen (l ++ 13 :: 10 :: r) = some (l.length + 2)
  | [], _ => by
    show lineLen (13 :: 10 :: r) = some 2
    unfold lineLen; rw [if_pos ⟨rfl, rfl⟩]
  | b :: t, h => by
    unfold lineLen at h
    split at h
    · cases h
    · rename_i hc
      have hm := Option.map_eq_none_iff.1 h
      show lineLen (b :: (t ++ 13 :: 10 :: r)) = _
      unfold lineLen
      rw [if_neg, lineLen_end r t hm]
      · rfl
      · rintro ⟨h1, h2⟩
        cases t with
        | nil => simp at h2
        | cons c t => exact hc ⟨h1, by simpa using h2⟩
theorem lineLen_take (r : List UInt8) : ∀ (l : List UInt8) (n : Nat), lineLen l = some n → lineLen (l.take n ++ r) = some n
  | [], n, h => by simp [lineLen] at h
  | b :: t, n, h => by
    unfold lineLen at h
    split at h
    · rename_i hc
      obtain rfl := Option.some.inj h
      obtain ⟨rfl, h2⟩ := hc
      cases t with
      | nil => simp at h2
      | cons c t =>
        simp at h2
        subst h2
        show lineLen (13 :: 10 :: r) = some 2
        unfold lineLen; rw [if_pos ⟨rfl, rfl⟩]
    · rename_i hc
      obtain ⟨m, hm, rfl⟩ := Option.map_eq_some_iff.1 h
      have h2 := lineLen_le t m hm
      rw [List.take_succ_cons]
      show lineLen (b :: (t.take m ++ r)) = _
      unfold lineLen
      rw [if_neg, lineLen_take r t m hm]
      · rfl
      · rintro ⟨g1, g2⟩
        cases t with
        | nil => simp at h2; omega
        | cons c t =>
          obtain ⟨m, rfl⟩ : ∃ m', m = m' + 1 := ⟨m - 1, by omega⟩
          exact hc ⟨g1, by simpa using g2⟩

/-- A line with its point is taken as the line. -/
theorem unst_line (l lr R acc : List UInt8) (k : Nat) (h2 : 2 ≤ lr.length) (hh : l.head? = lr.head?) (hn : lineLen (lr ++ R) = some lr.length) :
    unstS (dotOf l ++ lr ++ R) acc k = unstS R (acc ++ lr) (k + (dotOf l).length + lr.length) := by
  unfold dotOf
  rw [hh]
  match lr, h2 with
  | b :: c :: t, _ =>
    rw [List.head?_cons]
    by_cases hb : b = 46
    · subst hb
      rw [if_pos rfl]
      have hL : lineLen ([46] ++ (46 :: c :: t) ++ R) = some ((46 :: c :: t).length + 1) := by
        show lineLen (46 :: ((46 :: c :: t) ++ R)) = _
        rw [lineLen_dot, hn]; rfl
      rw [unstS_some _ _ _ _ hL]
      have ht : ([46] ++ (46 :: c :: t) ++ R).take ((46 :: c :: t).length + 1) = 46 :: 46 :: c :: t := by
        rw [show ((46 : UInt8) :: c :: t).length + 1 = ([46] ++ (46 :: c :: t) : List UInt8).length by simp, List.take_left]; rfl
      have hd : ([46] ++ (46 :: c :: t) ++ R).drop ((46 :: c :: t).length + 1) = R := by
        rw [show ((46 : UInt8) :: c :: t).length + 1 = ([46] ++ (46 :: c :: t) : List UInt8).length by simp, List.drop_left]
      have e1 : ([46] ++ (46 :: c :: t) ++ R : List UInt8).head? = some (46 : UInt8) := rfl
      rw [ht, hd, if_neg (by intro h; injection h with _ h; injection h with h _; exact absurd h (by decide)), if_pos e1]
      simp only [List.drop_succ_cons, List.drop_zero, List.length_cons, List.length_nil]
      congr 1; omega
    · rw [if_neg (fun h => hb (by injection h))]
      rw [List.nil_append, unstS_some _ _ _ _ hn]
      have ht : ((b :: c :: t) ++ R).take (b :: c :: t).length = b :: c :: t := List.take_left
      have hd : ((b :: c :: t) ++ R).drop (b :: c :: t).length = R := List.drop_left
      rw [ht, hd, if_neg (by intro h; injection h with h _; exact hb h), if_neg (by intro h; exact hb (by injection h))]
      rfl
theorem unst_dot (q acc : List UInt8) (k : Nat) : unstS ([46, 13, 10] ++ q) acc k = some (acc, k + 3) := by
  have h : lineLen ([46, 13, 10] ++ q) = some 3 := by
    show lineLen (46 :: 13 :: 10 :: q) = _
    rw [lineLen_dot]
    unfold lineLen; rw [if_pos ⟨rfl, rfl⟩]; rfl
  have e1 : ([46, 13, 10] ++ q : List UInt8).take 3 = ([46, 13, 10] : List UInt8) := rfl
  rw [unstS_some _ _ _ _ h, if_pos e1]

theorem back_one (p q : List UInt8) : ∀ (f k : Nat), p.length - k ≤ f → k ≤ p.length → beginsL p k = true → ∀ (acc : List UInt8) (n : Nat),
    unstS (stuffS (p.drop k) ++ ([46, 13, 10] ++ q)) acc n = some (acc ++ p.drop k ++ (if beginsL p p.length = true then [] else [13, 10]), n + (stuffS (p.drop k)).length + 3) := by
  intro f
  induction f with
  | zero =>
    intro k h1 h2 hk acc n
    have : k = p.length := by omega
    subst this
    rw [List.drop_length, stuffS_nil, if_pos hk, List.nil_append, unst_dot]
    simp
  | succ f ih =>
    intro k h1 h2 hk acc n
    by_cases he : k = p.length
    · subst he
      rw [List.drop_length, stuffS_nil, if_pos hk, List.nil_append, unst_dot]
      simp
    · have hlen : (p.drop k).length = p.length - k := List.length_drop
      have h0 : p.drop k ≠ [] := by intro hh; rw [hh] at hlen; simp at hlen; omega
      have hp0 : 0 < (p.drop k).length := List.length_pos_iff.2 h0
      cases hl : lineLen (p.drop k) with
      | none =>
        have hb : beginsL p p.length = false := by
          have := beginsL_none hk hl (i := p.length - k) (by omega)
          rwa [show k + (p.length - k) = p.length by omega] at this
        have hhd : (p.drop k).head? = (p.drop k ++ [13, 10]).head? := by
          rw [List.head?_append]
          cases hq : (p.drop k).head? with
          | none => exact absurd (List.head?_eq_none_iff.1 hq) h0
          | some x => rfl
        rw [stuffS_none _ h0 hl, hb, if_neg (by decide)]
        have hL := unst_line (p.drop k) (p.drop k ++ [13, 10]) ([46, 13, 10] ++ q) acc n (by rw [List.length_append]; simp) hhd (by
          rw [List.append_assoc]
          have := lineLen_end ([46, 13, 10] ++ q) (p.drop k) hl
          rw [List.length_append]
          exact this)
        rw [List.append_assoc (dotOf (p.drop k)), hL, unst_dot]
        simp only [List.length_append, List.length_cons, List.length_nil, List.append_assoc]
        congr 2
        omega
      | some m =>
        have hle := lineLen_le _ _ hl
        have hhd : (p.drop k).head? = ((p.drop k).take m).head? := by
          rw [List.head?_take]; rw [if_neg (by omega)]
        have hm : ((p.drop k).take m).length = m := by rw [List.length_take]; omega
        have hL := unst_line (p.drop k) ((p.drop k).take m) (stuffS (p.drop (k + m)) ++ ([46, 13, 10] ++ q)) acc n (by omega) hhd (by rw [hm]; exact lineLen_take _ _ _ hl)
        rw [stuffS_some _ _ h0 hl, List.drop_drop, List.append_assoc (dotOf (p.drop k) ++ (p.drop k).take m), hL, ih (k + m) (by omega) (by omega) (beginsL_next hl)]
        simp only [List.length_append, List.append_assoc]
        rw [← List.append_assoc (List.take m (List.drop k p)), ← List.drop_drop, List.take_append_drop]
        congr 2
        omega
theorem back_eq (p q : List UInt8) : unstL (stuffL p ++ q) = some (p ++ (if beginsL p p.length = true then [] else [13, 10]), (stuffL p).length) := by
  show unstS (stuffS p ++ [46, 13, 10] ++ q) [] 0 = _
  rw [List.append_assoc]
  have h := back_one p q p.length 0 (by omega) (by omega) rfl [] 0
  rw [List.drop_zero] at h
  rw [h]
  show _ = some (_, (stuffS p ++ [46, 13, 10]).length)
  rw [List.length_append]
  simp
theorem stuffF_len : ∀ (f : Nat) (l : List UInt8), (stuffF f l).length ≤ 4 * l.length := by
  intro f
  induction f with
  | zero => intro l; exact Nat.zero_le _
  | succ f ih =>
    intro l
    unfold stuffF
    by_cases h0 : l = []
    · rw [if_pos h0]; exact Nat.zero_le _
    · have hp : 0 < l.length := List.length_pos_iff.2 h0
      have hd : (if l.head? = some 46 then ([46] : List UInt8) else []).length ≤ 1 := by split <;> simp
      rw [if_neg h0]
      cases hl : lineLen l with
      | none => simp only [List.length_append, List.length_cons, List.length_nil]; omega
      | some n =>
        have hle := lineLen_le l n hl
        have := ih (l.drop n)
        rw [List.length_drop] at this
        simp only [List.length_append, List.length_take]
        omega
theorem stuffL_len (l : List UInt8) : (stuffL l).length ≤ 4 * l.length + 3 := by
  unfold stuffL
  rw [List.length_append]
  have := stuffF_len (l.length + 1) l
  simp only [List.length_cons, List.length_nil]
  omega
end Go.Proofs.Ytbhkchdkknainaa
