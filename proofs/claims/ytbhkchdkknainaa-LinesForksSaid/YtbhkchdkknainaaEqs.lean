import Derived.Test.YtbhkchdkknainaaV6
/- The code's way and the document's are one. -/
namespace Go.Proofs.Ytbhkchdkknainaa
open Go

theorem endsL_zero (b : UInt8) (t : List UInt8) : (endsL (b :: t) 0 = true) ↔ (b = 13 ∧ t.head? = some 10) := by
  unfold endsL
  cases t with
  | nil => simp
  | cons c t => simp
theorem endsL_succ (b : UInt8) (t : List UInt8) (i : Nat) : endsL (b :: t) (i + 1) = endsL t i := by
  unfold endsL
  simp
theorem endsL_nil (i : Nat) : endsL [] i = false := by unfold endsL; simp
theorem endsL_lt {p : List UInt8} {i : Nat} (h : endsL p i = true) : i + 1 < p.length := by
  unfold endsL at h
  rw [Bool.and_eq_true, decide_eq_true_iff] at h
  exact h.1
theorem endsL_at {p : List UInt8} {i : Nat} (h : endsL p i = true) : p.getD i 0 = 13 ∧ p.getD (i + 1) 0 = 10 := by
  unfold endsL at h
  rw [Bool.and_eq_true, Bool.and_eq_true, beq_iff_eq, beq_iff_eq] at h
  exact h.2
theorem endsL_drop (p : List UInt8) (k i : Nat) : endsL (p.drop k) i = endsL p (k + i) := by
  unfold endsL
  have hd : decide (i + 1 < (p.drop k).length) = decide (k + i + 1 < p.length) := by
    rw [List.length_drop]; exact decide_eq_decide.2 (by omega)
  rw [hd]
  simp only [List.getD, List.getElem?_drop]
  rw [Nat.add_assoc]
theorem lineLen_some : ∀ (r : List UInt8) (n : Nat), lineLen r = some n → endsL r (n - 2) = true ∧ ∀ i, i < n - 2 → endsL r i = false
  | [], n, h => by simp [lineLen] at h
  | b :: t, n, h => by
    unfold lineLen at h
    split at h
    · rename_i hc
      obtain rfl := Option.some.inj h
      exact ⟨(endsL_zero b t).2 hc, fun i hi => by omega⟩
    · rename_i hc
      obtain ⟨m, hm, rfl⟩ := Option.map_eq_some_iff.1 h
      have h2 := (lineLen_le t m hm).1
      obtain ⟨i1, i2⟩ := lineLen_some t m hm
      refine ⟨by rw [show m + 1 - 2 = (m - 2) + 1 by omega, endsL_succ]; exact i1, fun i hi => ?_⟩
      cases i with
      | zero =>
        cases he : endsL (b :: t) 0 with
        | false => rfl
        | true => exact absurd ((endsL_zero b t).1 he) hc
      | succ i => rw [endsL_succ]; exact i2 i (by omega)
theorem lineLen_none : ∀ (r : List UInt8), lineLen r = none → ∀ i, endsL r i = false
  | [], _, i => endsL_nil i
  | b :: t, h, i => by
    unfold lineLen at h
    split at h
    · cases h
    · rename_i hc
      have hm := Option.map_eq_none_iff.1 h
      cases i with
      | zero =>
        cases he : endsL (b :: t) 0 with
        | false => rfl
        | true => exact absurd ((endsL_zero b t).1 he) hc
      | succ i => rw [endsL_succ]; exact lineLen_none t hm i

theorem beginsL_of {p : List UInt8} {i : Nat} (h : beginsL p i = true) : i = 0 ∨ (2 ≤ i ∧ endsL p (i - 2) = true) := by
  unfold beginsL at h
  rw [Bool.or_eq_true, Bool.and_eq_true, decide_eq_true_iff, decide_eq_true_iff] at h
  exact h
theorem beginsL_to {p : List UInt8} {i : Nat} (h : i = 0 ∨ (2 ≤ i ∧ endsL p (i - 2) = true)) : beginsL p i = true := by
  unfold beginsL
  rw [Bool.or_eq_true, Bool.and_eq_true, decide_eq_true_iff, decide_eq_true_iff]
  exact h
/-- Between a line's first byte and the next line, none begins. -/
theorem beginsL_no {p : List UInt8} {k i : Nat} (hk : beginsL p k = true) (hi : 0 < i) (hn : ∀ j, j + 2 ≤ i → endsL (p.drop k) j = false) : beginsL p (k + i) = false := by
  cases hb : beginsL p (k + i) with
  | false => rfl
  | true =>
    rcases beginsL_of hb with h | ⟨h2, h3⟩
    · omega
    · by_cases h1 : i = 1
      · subst h1
        rcases beginsL_of hk with h | ⟨g2, g3⟩
        · omega
        · have a1 := (endsL_at g3).2
          have a2 := (endsL_at h3).1
          rw [show k - 2 + 1 = k + 1 - 2 by omega, a2] at a1
          exact absurd a1 (by decide)
      · have := hn (i - 2) (by omega)
        rw [endsL_drop, show k + (i - 2) = k + i - 2 by omega, h3] at this
        cases this
theorem beginsL_in {p : List UInt8} {k n i : Nat} (hk : beginsL p k = true) (hl : lineLen (p.drop k) = some n) (hi : 0 < i) (hin : i < n) : beginsL p (k + i) = false :=
  beginsL_no hk hi fun j hj => (lineLen_some _ _ hl).2 j (by omega)
theorem beginsL_none {p : List UInt8} {k i : Nat} (hk : beginsL p k = true) (hl : lineLen (p.drop k) = none) (hi : 0 < i) : beginsL p (k + i) = false :=
  beginsL_no hk hi fun j _ => lineLen_none _ hl j
theorem beginsL_next {p : List UInt8} {k n : Nat} (hl : lineLen (p.drop k) = some n) : beginsL p (k + n) = true := by
  have h2 := (lineLen_le _ _ hl).1
  have h := (lineLen_some _ _ hl).1
  rw [endsL_drop] at h
  exact beginsL_to (Or.inr ⟨by omega, by rw [show k + n - 2 = k + (n - 2) by omega]; exact h⟩)

theorem drop_head (p : List UInt8) (k : Nat) (h : k < p.length) : p.drop k = p[k] :: p.drop (k + 1) := List.drop_eq_getElem_cons h

/-- Where no line begins, what is stuffed is what stands there. -/
theorem stuffR_plain (p : List UInt8) : ∀ (m j : Nat), j + m ≤ p.length → (∀ i, j ≤ i → i < j + m → beginsL p i = false) → stuffR p (p.length - j) j = (p.drop j).take m ++ stuffR p (p.length - (j + m)) (j + m) := by
  intro m
  induction m with
  | zero => intro j h hb; rw [List.take_zero]; rfl
  | succ m ih =>
    intro j h hb
    rw [stuffR_step p j (by omega), if_neg (fun hh => by rw [hb j (Nat.le_refl _) (by omega)] at hh; exact absurd hh.2 (by decide)), drop_head p j (by omega), List.take_succ_cons, ih (j + 1) (by omega) (fun i h1 h2 => hb i (by omega) (by omega)), show j + 1 + m = j + (m + 1) by omega]
    rfl
theorem dot_head (p : List UInt8) (k : Nat) (h : k < p.length) (hk : beginsL p k = true) : (if p[k].toNat = 46 ∧ beginsL p k = true then ([46] : List UInt8) else []) = dotOf (p.drop k) := by
  unfold dotOf
  rw [drop_head p k h, List.head?_cons]
  by_cases hx : p[k].toNat = 46
  · rw [if_pos ⟨hx, hk⟩, if_pos (by rw [show p[k] = 46 from UInt8.toNat_inj.1 (by rw [hx]; rfl)])]
  · rw [if_neg (fun hh => hx hh.1), if_neg (fun hh => hx (by injection hh with hh; rw [hh]; rfl))]
theorem stuffR_line (p : List UInt8) (k n : Nat) (hk : beginsL p k = true) (h1 : 0 < n) (hn : k + n ≤ p.length) (hb : ∀ i, 0 < i → i < n → beginsL p (k + i) = false) :
    stuffR p (p.length - k) k = dotOf (p.drop k) ++ (p.drop k).take n ++ stuffR p (p.length - (k + n)) (k + n) := by
  obtain ⟨m, rfl⟩ : ∃ m, n = m + 1 := ⟨n - 1, by omega⟩
  rw [stuffR_step p k (by omega), dot_head p k (by omega) hk, stuffR_plain p m (k + 1) (by omega) (fun i h2 h3 => by
    have := hb (i - k) (by omega) (by omega)
    rwa [show k + (i - k) = i by omega] at this), show k + 1 + m = k + (m + 1) by omega]
  conv => rhs; rw [drop_head p k (by omega), List.take_succ_cons]
  simp only [List.append_assoc, List.cons_append, List.nil_append]
  rw [← drop_head p k (by omega)]
theorem stuff_one (p : List UInt8) : ∀ (f k : Nat), p.length - k ≤ f → k ≤ p.length → beginsL p k = true → stuffS (p.drop k) = stuffR p (p.length - k) k ++ (if beginsL p p.length = true then [] else [13, 10]) := by
  intro f
  induction f with
  | zero =>
    intro k h1 h2 hk
    have : k = p.length := by omega
    subst this
    rw [List.drop_length, stuffS_nil, stuffR_end _ _ _ (Nat.le_refl _), if_pos hk]
    rfl
  | succ f ih =>
    intro k h1 h2 hk
    by_cases he : k = p.length
    · subst he
      rw [List.drop_length, stuffS_nil, stuffR_end _ _ _ (Nat.le_refl _), if_pos hk]
      rfl
    · have hlen : (p.drop k).length = p.length - k := List.length_drop
      have h0 : p.drop k ≠ [] := by intro hh; rw [hh] at hlen; simp at hlen; omega
      cases hl : lineLen (p.drop k) with
      | none =>
        have hb : beginsL p p.length = false := by
          have := beginsL_none hk hl (i := p.length - k) (by omega)
          rwa [show k + (p.length - k) = p.length by omega] at this
        rw [stuffS_none _ h0 hl, hb, if_neg (by decide), stuffR_line p k (p.length - k) hk (by omega) (by omega) (fun i h3 _ => beginsL_none hk hl h3), stuffR_end p _ (k + (p.length - k)) (by omega), List.append_nil, List.take_of_length_le (by omega)]
      | some n =>
        have hle := lineLen_le _ _ hl
        rw [stuffS_some _ _ h0 hl, List.drop_drop, ih (k + n) (by omega) (by omega) (beginsL_next hl), stuffR_line p k n hk (by omega) (by omega) (fun i h3 h4 => beginsL_in hk hl h3 h4)]
        simp only [List.append_assoc]
theorem stuff_eq (p : List UInt8) : stuffL p = stuffD p := by
  show stuffS p ++ [46, 13, 10] = stuffR p (p.length - 0) 0 ++ (if beginsL p p.length = true then [] else [13, 10]) ++ [46, 13, 10]
  rw [← stuff_one p p.length 0 (by omega) (by omega) rfl]
  rfl

theorem bodyG_split (p : List UInt8) : ∀ (f m j : Nat), bodyG p (f + m) j = bodyG p f j ++ bodyG p m (j + f) := by
  intro f
  induction f with
  | zero => intro m j; rw [Nat.zero_add]; rfl
  | succ f ih =>
    intro m j
    rw [show f + 1 + m = (f + m) + 1 by omega]
    conv => lhs; unfold bodyG
    conv => rhs; lhs; unfold bodyG
    rw [ih, show j + 1 + f = j + (f + 1) by omega, List.append_assoc]
theorem getD_at (p : List UInt8) (j : Nat) (h : j < p.length) : p.getD j 0 = p[j] := by simp [List.getD, h]
theorem bodyG_plain (p : List UInt8) : ∀ (m j : Nat), j + m ≤ p.length → (∀ i, j ≤ i → i < j + m → beginsL p i = false) → bodyG p m j = (p.drop j).take m := by
  intro m
  induction m with
  | zero => intro j h hb; rw [List.take_zero]; rfl
  | succ m ih =>
    intro j h hb
    unfold bodyG
    rw [if_neg (fun hh => by rw [hb j (Nat.le_refl _) (by omega)] at hh; exact absurd hh.2 (by decide)), drop_head p j (by omega), List.take_succ_cons, ih (j + 1) (by omega) (fun i h1 h2 => hb i (by omega) (by omega)), getD_at p j (by omega)]
    rfl
theorem bodyD_line (p : List UInt8) (k n : Nat) (hk : beginsL p k = true) (h1 : 0 < n) (hn : k + n ≤ p.length) (hb : ∀ i, 0 < i → i < n → beginsL p (k + i) = false) :
    bodyD p (k + n) = bodyD p k ++ (if (p.drop k).head? = some 46 then ((p.drop k).take n).drop 1 else (p.drop k).take n) := by
  obtain ⟨m, rfl⟩ : ∃ m, n = m + 1 := ⟨n - 1, by omega⟩
  unfold bodyD
  rw [bodyG_split, Nat.zero_add]
  congr 1
  conv => lhs; unfold bodyG
  rw [getD_at p k (by omega), bodyG_plain p m (k + 1) (by omega) (fun i h2 h3 => by
    have := hb (i - k) (by omega) (by omega)
    rwa [show k + (i - k) = i by omega] at this), drop_head p k (by omega), List.head?_cons, List.take_succ_cons]
  by_cases hx : p[k].toNat = 46
  · rw [if_pos ⟨hx, hk⟩, if_pos (by rw [show p[k] = 46 from UInt8.toNat_inj.1 (by rw [hx]; rfl)])]
    rfl
  · rw [if_neg (fun hh => hx hh.1), if_neg (fun hh => hx (by injection hh with hh; rw [hh]; rfl))]
    rfl
theorem unstR_skip (p : List UInt8) : ∀ (m j : Nat), j + m ≤ p.length → (∀ i, j ≤ i → i < j + m → endAt p i = false) → unstR p (p.length - j) j = unstR p (p.length - (j + m)) (j + m) := by
  intro m
  induction m with
  | zero => intro j h hb; rfl
  | succ m ih =>
    intro j h hb
    rw [unstR_step p j (by omega), hb j (Nat.le_refl _) (by omega), if_neg (by decide), ih (j + 1) (by omega) (fun i h1 h2 => hb i (by omega) (by omega)), show j + 1 + m = j + (m + 1) by omega]
theorem endAt_no {p : List UInt8} {i : Nat} (h : beginsL p i = false) : endAt p i = false := by unfold endAt; rw [h]; rfl
theorem endAt_no' {p : List UInt8} {i : Nat} (h : endsL p (i + 1) = false) : endAt p i = false := by unfold endAt; rw [h, Bool.and_false, Bool.and_false]
theorem take_three (r : List UInt8) (h : 3 ≤ r.length) : r.take 3 = [r.getD 0 0, r.getD 1 0, r.getD 2 0] := by
  match r, h with
  | a :: b :: c :: r, _ => rfl
theorem drop_getD (p : List UInt8) (k i : Nat) : (p.drop k).getD i 0 = p.getD (k + i) 0 := by simp [List.getD]
theorem endAt_take (p : List UInt8) (k n : Nat) (hk : beginsL p k = true) (hl : lineLen (p.drop k) = some n) : endAt p k = true ↔ (p.drop k).take n = [46, 13, 10] := by
  have hle := lineLen_le _ _ hl
  obtain ⟨s1, s2⟩ := lineLen_some _ _ hl
  constructor
  · intro h
    unfold endAt at h
    rw [Bool.and_eq_true, Bool.and_eq_true, decide_eq_true_iff] at h
    obtain ⟨_, hx, he⟩ := h
    have he2 := he
    rw [← endsL_drop] at he2
    have hn3 : n = 3 := by
      by_cases h3 : 1 < n - 2
      · rw [s2 1 h3] at he2; cases he2
      · by_cases hn2 : n = 2
        · subst hn2
          have := (endsL_at s1).1
          rw [drop_getD, Nat.add_zero] at this
          rw [this] at hx
          exact absurd hx (by decide)
        · omega
    subst hn3
    have hA := endsL_at he2
    rw [take_three _ hle.2, hA.1, hA.2, drop_getD, Nat.add_zero, show p.getD k 0 = 46 from UInt8.toNat_inj.1 (by rw [hx]; rfl)]
  · intro h
    have hn3 : n = 3 := by
      have := congrArg List.length h
      rw [List.length_take] at this
      simp only [List.length_cons, List.length_nil] at this
      omega
    subst hn3
    rw [take_three _ hle.2] at h
    injection h with h0 _
    unfold endAt
    rw [hk, ← endsL_drop, s1]
    rw [drop_getD, Nat.add_zero] at h0
    rw [h0]
    rfl
theorem unst_one (p : List UInt8) : ∀ (f k : Nat), p.length - k ≤ f → k ≤ p.length → beginsL p k = true → unstS (p.drop k) (bodyD p k) k = unstR p (p.length - k) k := by
  intro f
  induction f with
  | zero =>
    intro k h1 h2 hk
    have : k = p.length := by omega
    subst this
    rw [List.drop_length, unstS_none _ _ _ rfl, unstR_end _ _ _ (Nat.le_refl _)]
  | succ f ih =>
    intro k h1 h2 hk
    cases hl : lineLen (p.drop k) with
    | none =>
      rw [unstS_none _ _ _ hl, unstR_skip p (p.length - k) k (by omega) (fun i h3 _ => endAt_no' (by
        have := lineLen_none _ hl (i + 1 - k)
        rwa [endsL_drop, show k + (i + 1 - k) = i + 1 by omega] at this)), unstR_end _ _ _ (by omega)]
    | some n =>
      have hle := lineLen_le _ _ hl
      have hlen : (p.drop k).length = p.length - k := List.length_drop
      rw [unstS_some _ _ _ _ hl]
      by_cases hE : (p.drop k).take n = [46, 13, 10]
      · have hn3 : n = 3 := by
          have := congrArg List.length hE
          rw [List.length_take] at this
          simp only [List.length_cons, List.length_nil] at this
          omega
        rw [if_pos hE, unstR_step p k (by omega), if_pos ((endAt_take p k n hk hl).2 hE), hn3]
      · rw [if_neg hE, List.drop_drop, ← bodyD_line p k n hk (by omega) (by omega) (fun i h3 h4 => beginsL_in hk hl h3 h4), ih (k + n) (by omega) (by omega) (beginsL_next hl)]
        refine (unstR_skip p n k (by omega) fun i h3 h4 => ?_).symm
        by_cases hik : i = k
        · subst hik
          cases he : endAt p i with
          | false => rfl
          | true => exact absurd ((endAt_take p i n hk hl).1 he) hE
        · have := beginsL_in hk hl (i := i - k) (by omega) (by omega)
          rw [show k + (i - k) = i by omega] at this
          exact endAt_no this
theorem unst_eq (p : List UInt8) : unstL p = unstD p := unst_one p p.length 0 (by omega) (by omega) rfl
end Go.Proofs.Ytbhkchdkknainaa
