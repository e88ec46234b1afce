/- A pattern with * and % and a name, in plain words: what is matched, how the code's two ways back keep it, and the document's rows. No walk. -/
namespace Go.Proofs.YtnglmaebmabdcaaDoor
namespace Gl

/-- How many / there are below a place. -/
def cnt (f : Nat → Nat) : Nat → Nat
  | 0 => 0
  | n + 1 => cnt f n + if f n = 47 then 1 else 0

theorem cnt_add (f : Nat → Nat) (n : Nat) (k : Nat) (h : ∀ i, n ≤ i → i < n + k → f i ≠ 47) : cnt f (n + k) = cnt f n := by
  induction k with
  | zero => rfl
  | succ k ih =>
    have h1 := ih fun i h1 h2 => h i h1 (by omega)
    have h2 := h (n + k) (by omega) (by omega)
    show cnt f (n + k) + (if f (n + k) = 47 then 1 else 0) = _
    rw [if_neg h2]
    exact h1

theorem cnt_le_add (f : Nat → Nat) (n k : Nat) : cnt f n ≤ cnt f (n + k) := by
  induction k with
  | zero => exact Nat.le_refl _
  | succ k ih =>
    show _ ≤ cnt f (n + k) + _
    omega

theorem cnt_flat {f : Nat → Nat} {n m : Nat} (hnm : n ≤ m) (h : ∀ i, n ≤ i → i < m → f i ≠ 47) : cnt f m = cnt f n := by
  obtain ⟨k, rfl⟩ : ∃ k, m = n + k := ⟨m - n, by omega⟩
  exact cnt_add f n k h

theorem cnt_le {f : Nat → Nat} {n m : Nat} (hnm : n ≤ m) : cnt f n ≤ cnt f m := by
  obtain ⟨k, rfl⟩ : ∃ k, m = n + k := ⟨m - n, by omega⟩
  exact cnt_le_add f n k

theorem cnt_sign (f : Nat → Nat) (n : Nat) (h : f n = 47) : cnt f (n + 1) = cnt f n + 1 := by
  show cnt f n + _ = _
  rw [if_pos h]

theorem cnt_none (f : Nat → Nat) (n : Nat) (h : f n ≠ 47) : cnt f (n + 1) = cnt f n := by
  show cnt f n + _ = _
  rw [if_neg h]
  rfl

/-- What stands in the pattern from a place on stands for what stands in the name from a place on. -/
inductive D (pl nl : Nat) (fp fn : Nat → Nat) : Nat → Nat → Prop
  | fin : D pl nl fp fn pl nl
  | star (p n m : Nat) : p < pl → fp p = 42 → n ≤ m → D pl nl fp fn (p + 1) m → D pl nl fp fn p n
  | part (p n m : Nat) : p < pl → fp p = 37 → n ≤ m → (∀ i, n ≤ i → i < m → fn i ≠ 47) → D pl nl fp fn (p + 1) m → D pl nl fp fn p n
  | lit (p n : Nat) : p < pl → n < nl → fp p ≠ 42 → fp p ≠ 37 → fp p = fn n → D pl nl fp fn (p + 1) (n + 1) → D pl nl fp fn p n

section
variable {pl nl : Nat} {fp fn : Nat → Nat}

theorem D.le {p n : Nat} (h : D pl nl fp fn p n) : p ≤ pl ∧ n ≤ nl := by
  induction h with
  | fin => exact ⟨Nat.le_refl _, Nat.le_refl _⟩
  | star p n m h1 h2 h3 _ ih => exact ⟨by omega, by omega⟩
  | part p n m h1 h2 h3 _ _ ih => exact ⟨by omega, by omega⟩
  | lit p n h1 h2 _ _ _ _ ih => exact ⟨by omega, by omega⟩

theorem D.star_iff {p n : Nat} (hp : p < pl) (h : fp p = 42) : D pl nl fp fn p n ↔ ∃ m, n ≤ m ∧ D pl nl fp fn (p + 1) m := by
  constructor
  · intro hd
    cases hd with
    | fin => omega
    | star _ _ m _ _ h3 h4 => exact ⟨m, h3, h4⟩
    | part _ _ m _ h2 => omega
    | lit _ _ _ _ h3 => omega
  · rintro ⟨m, h1, h2⟩
    exact .star p n m hp h h1 h2

theorem D.part_iff {p n : Nat} (hp : p < pl) (h : fp p = 37) : D pl nl fp fn p n ↔ ∃ m, n ≤ m ∧ (∀ i, n ≤ i → i < m → fn i ≠ 47) ∧ D pl nl fp fn (p + 1) m := by
  constructor
  · intro hd
    cases hd with
    | fin => omega
    | star _ _ m _ h2 => omega
    | part _ _ m _ _ h3 h4 h5 => exact ⟨m, h3, h4, h5⟩
    | lit _ _ _ _ _ h4 => omega
  · rintro ⟨m, h1, h2, h3⟩
    exact .part p n m hp h h1 h2 h3

theorem D.lit_iff {p n : Nat} (hp : p < pl) (h1 : fp p ≠ 42) (h2 : fp p ≠ 37) : D pl nl fp fn p n ↔ n < nl ∧ fp p = fn n ∧ D pl nl fp fn (p + 1) (n + 1) := by
  constructor
  · intro hd
    cases hd with
    | fin => omega
    | star _ _ m _ h2 => omega
    | part _ _ m _ h2 => omega
    | lit _ _ _ h2 _ _ h5 h6 => exact ⟨h2, h5, h6⟩
  · rintro ⟨h3, h4, h5⟩
    exact .lit p n hp h3 h1 h2 h4 h5

theorem D.end_iff {n : Nat} : D pl nl fp fn pl n ↔ n = nl := by
  constructor
  · intro hd
    cases hd with
    | fin => rfl
    | star _ _ _ h => omega
    | part _ _ _ h => omega
    | lit _ _ h => omega
  · rintro rfl
    exact .fin

/-- Letters that stand for themselves. -/
def Lits (fp fn : Nat → Nat) (pp pn p : Nat) : Prop := ∀ i, pp ≤ i → i < p → fp i ≠ 42 ∧ fp i ≠ 37 ∧ fp i = fn (pn + (i - pp))

theorem D.lits {pp k : Nat} (j : Nat) (hj : pp + j ≤ pl) (h : ∀ i, pp ≤ i → i < pp + j → fp i ≠ 42 ∧ fp i ≠ 37) :
    D pl nl fp fn pp k ↔ (k + j ≤ nl ∧ (∀ i, i < j → fp (pp + i) = fn (k + i)) ∧ D pl nl fp fn (pp + j) (k + j)) := by
  induction j with
  | zero =>
    constructor
    · intro hd
      exact ⟨hd.le.2, fun i hi => absurd hi (Nat.not_lt_zero _), hd⟩
    · exact fun hd => hd.2.2
  | succ j ih =>
    rw [ih (by omega) fun i h1 h2 => h i h1 (by omega)]
    have hl := h (pp + j) (by omega) (by omega)
    rw [D.lit_iff (n := k + j) (by omega) hl.1 hl.2]
    constructor
    · rintro ⟨h1, h2, h3, h4, h5⟩
      refine ⟨by omega, fun i hi => ?_, h5⟩
      by_cases e : i = j
      · subst e; exact h4
      · exact h2 i (by omega)
    · rintro ⟨h1, h2, h3⟩
      exact ⟨by omega, fun i hi => h2 i (by omega), by omega, h2 j (by omega), h3⟩

/-- Where the code stands: p and n, the last *, and the last % behind it. -/
structure Inv (pl nl : Nat) (fp fn : Nat → Nat) (sT : Bool) (sp sn : Nat) (pT : Bool) (pp pn : Nat) (p n : Nat) : Prop where
  hp : p ≤ pl
  hn : n ≤ nl
  all : D pl nl fp fn 0 0 ↔ (D pl nl fp fn p n ∨ (pT = true ∧ ∃ k, pn < k ∧ (∀ i, pn ≤ i → i < k → fn i ≠ 47) ∧ D pl nl fp fn pp k) ∨ (sT = true ∧ ∃ k, sn < k ∧ D pl nl fp fn sp k))
  part : pT = true → pp ≤ p ∧ pn ≤ n ∧ n + pp = p + pn ∧ Lits fp fn pp pn p
  star : sT = true → sp ≤ p ∧ sn ≤ n ∧ ∀ k, sn ≤ k → D pl nl fp fn sp k → ∃ m, n ≤ m ∧ D pl nl fp fn p m ∧ cnt fn m + cnt fp sp = cnt fp p + cnt fn k
  both : sT = true → pT = true → sp ≤ pp ∧ sn ≤ pn ∧ cnt fn pn + cnt fp sp = cnt fp pp + cnt fn sn ∧
    ∀ k, sn ≤ k → D pl nl fp fn sp k → ∃ m, pn ≤ m ∧ D pl nl fp fn pp m ∧ cnt fn m + cnt fp sp = cnt fp pp + cnt fn k
  same : sT = true → cnt fn n + cnt fp sp = cnt fp p + cnt fn sn

theorem Inv.zero (sp sn pp pn : Nat) : Inv pl nl fp fn false sp sn false pp pn 0 0 :=
  ⟨Nat.zero_le _, Nat.zero_le _, by simp, by simp, by simp, by simp, by simp⟩

variable {sT pT : Bool} {sp sn pp pn p n : Nat}

theorem Inv.more_end (h : Inv pl nl fp fn sT sp sn pT pp pn p n) (hpT : pT = true) {k : Nat} (hk : pn < k) (hd : D pl nl fp fn pp k) : D pl nl fp fn p (k + (p - pp)) ∧ k + (p - pp) ≤ nl ∧ n < k + (p - pp) ∧ ∀ i, i < p - pp → fn (pn + i) = fn (k + i) := by
  obtain ⟨h1, h2, h3, h4⟩ := h.part hpT
  have hl := (D.lits (p - pp) (by have := h.hp; omega) fun i h5 h6 => ⟨(h4 i h5 (by omega)).1, (h4 i h5 (by omega)).2.1⟩).1 hd
  obtain ⟨h5, h6, h7⟩ := hl
  rw [show pp + (p - pp) = p by omega] at h7
  refine ⟨h7, h5, by omega, fun i hi => ?_⟩
  have := (h4 (pp + i) (by omega) (by omega)).2.2
  rw [show pn + (pp + i - pp) = pn + i by omega] at this
  rw [← this]
  exact h6 i hi

/-- A row of letters that is found again, a while behind: no / is in it, if none is in that while. -/
theorem no_sign {f : Nat → Nat} {a b j : Nat} (hab : a < b) (h1 : ∀ i, a ≤ i → i < b → f i ≠ 47) (h2 : ∀ i, i < j → f (a + i) = f (b + i)) : ∀ i, i < (b - a) + j → f (a + i) ≠ 47 := by
  intro i
  induction i using Nat.strongRecOn with
  | _ i ih =>
    intro hi
    by_cases h : i < b - a
    · exact h1 (a + i) (by omega) (by omega)
    · have h3 := ih (i - (b - a)) (by omega) (by omega)
      rw [h2 (i - (b - a)) (by omega), show b + (i - (b - a)) = a + i by omega] at h3
      exact h3

theorem Inv.meetStar (h : Inv pl nl fp fn sT sp sn pT pp pn p n) (hp : p < pl) (hc : fp p = 42) (pp' pn' : Nat) : Inv pl nl fp fn true (p + 1) n false pp' pn' (p + 1) n := by
  refine ⟨hp, h.hn, ?_, by simp, fun _ => ⟨Nat.le_refl _, Nat.le_refl _, fun k hk hd => ⟨k, hk, hd, by omega⟩⟩, by simp, fun _ => by omega⟩
  have hto : D pl nl fp fn p n ↔ (D pl nl fp fn (p + 1) n ∨ ∃ k, n < k ∧ D pl nl fp fn (p + 1) k) := by
    rw [D.star_iff hp hc]
    constructor
    · rintro ⟨m, h1, h2⟩
      by_cases e : n = m
      · subst e; exact Or.inl h2
      · exact Or.inr ⟨m, by omega, h2⟩
    · rintro (h1 | ⟨k, h1, h2⟩)
      · exact ⟨n, Nat.le_refl _, h1⟩
      · exact ⟨k, by omega, h2⟩
  have hup : ∀ {m}, n ≤ m → D pl nl fp fn p m → D pl nl fp fn p n := by
    intro m hm hd
    obtain ⟨q, h1, h2⟩ := (D.star_iff hp hc).1 hd
    exact (D.star_iff hp hc).2 ⟨q, by omega, h2⟩
  rw [h.all]
  constructor
  · rintro (h1 | ⟨h1, k, h2, h3, h4⟩ | ⟨h1, k, h2, h3⟩)
    · rcases hto.1 h1 with h2 | h2
      · exact Or.inl h2
      · exact Or.inr (Or.inr ⟨rfl, h2⟩)
    · have := h.more_end h1 h2 h4
      rcases hto.1 (hup (by omega) this.1) with h2 | h2
      · exact Or.inl h2
      · exact Or.inr (Or.inr ⟨rfl, h2⟩)
    · obtain ⟨m, h4, h5, _⟩ := (h.star h1).2.2 k (by omega) h3
      rcases hto.1 (hup h4 h5) with h2 | h2
      · exact Or.inl h2
      · exact Or.inr (Or.inr ⟨rfl, h2⟩)
  · rintro (h1 | ⟨h1, _⟩ | ⟨_, h1⟩)
    · exact Or.inl (hto.2 (Or.inl h1))
    · simp at h1
    · exact Or.inl (hto.2 (Or.inr h1))

theorem Inv.meetPart (h : Inv pl nl fp fn sT sp sn pT pp pn p n) (hp : p < pl) (hc : fp p = 37) : Inv pl nl fp fn sT sp sn true (p + 1) n (p + 1) n := by
  have hcp : cnt fp (p + 1) = cnt fp p := cnt_none fp p (by omega)
  have hL : sT = true → ∀ k, sn ≤ k → D pl nl fp fn sp k → ∃ m, n ≤ m ∧ D pl nl fp fn (p + 1) m ∧ cnt fn m + cnt fp sp = cnt fp (p + 1) + cnt fn k := by
    intro h1 k hk hd
    obtain ⟨m, h4, h5, h6⟩ := (h.star h1).2.2 k hk hd
    obtain ⟨q, h7, h8, h9⟩ := (D.part_iff hp hc).1 h5
    exact ⟨q, by omega, h9, by rw [cnt_flat h7 h8, hcp]; exact h6⟩
  refine ⟨hp, h.hn, ?_, fun _ => ⟨Nat.le_refl _, Nat.le_refl _, by omega, fun i h1 h2 => by omega⟩,
    fun h1 => ⟨by have := (h.star h1).1; omega, (h.star h1).2.1, hL h1⟩,
    fun h1 _ => ⟨by have := (h.star h1).1; omega, (h.star h1).2.1, by rw [hcp]; exact h.same h1, hL h1⟩,
    fun h1 => by rw [hcp]; exact h.same h1⟩
  have hto : D pl nl fp fn p n ↔ (D pl nl fp fn (p + 1) n ∨ ∃ k, n < k ∧ (∀ i, n ≤ i → i < k → fn i ≠ 47) ∧ D pl nl fp fn (p + 1) k) := by
    rw [D.part_iff hp hc]
    constructor
    · rintro ⟨m, h1, h2, h3⟩
      by_cases e : n = m
      · subst e; exact Or.inl h3
      · exact Or.inr ⟨m, by omega, h2, h3⟩
    · rintro (h1 | ⟨k, h1, h2⟩)
      · exact ⟨n, Nat.le_refl _, fun i _ _ => by omega, h1⟩
      · exact ⟨k, by omega, h2⟩
  rw [h.all]
  constructor
  · rintro (h1 | ⟨h1, k, h2, h3, h4⟩ | h1)
    · rcases hto.1 h1 with h2 | h2
      · exact Or.inl h2
      · exact Or.inr (Or.inl ⟨rfl, h2⟩)
    · obtain ⟨h5, h6, h7, h8⟩ := h.more_end h1 h2 h4
      obtain ⟨_, h9, h10, _⟩ := h.part h1
      have hno := no_sign h2 h3 h8
      obtain ⟨q, h11, h12, h13⟩ := (D.part_iff hp hc).1 h5
      have : D pl nl fp fn p n := (D.part_iff hp hc).2 ⟨q, by omega, fun i h14 h15 => by
        by_cases hi : i < k + (p - pp)
        · have := hno (i - pn) (by omega)
          rw [show pn + (i - pn) = i by omega] at this
          exact this
        · exact h12 i (by omega) h15, h13⟩
      rcases hto.1 this with h2 | h2
      · exact Or.inl h2
      · exact Or.inr (Or.inl ⟨rfl, h2⟩)
    · exact Or.inr (Or.inr h1)
  · rintro (h1 | ⟨_, h1⟩ | h1)
    · exact Or.inl (hto.2 (Or.inl h1))
    · exact Or.inl (hto.2 (Or.inr h1))
    · exact Or.inr (Or.inr h1)

theorem Inv.meetLit (h : Inv pl nl fp fn sT sp sn pT pp pn p n) (hp : p < pl) (hn : n < nl) (h1 : fp p ≠ 42) (h2 : fp p ≠ 37) (hc : fp p = fn n) : Inv pl nl fp fn sT sp sn pT pp pn (p + 1) (n + 1) := by
  have hbump : ∀ m, fp p = fn m → cnt fn (m + 1) + cnt fp p = cnt fp (p + 1) + cnt fn m := by
    intro m hm
    by_cases e : fp p = 47
    · rw [cnt_sign fp p e, cnt_sign fn m (by omega)]; omega
    · rw [cnt_none fp p e, cnt_none fn m (by omega)]; omega
  refine ⟨hp, hn, ?_, fun ht => ?_, fun ht => ?_, h.both, fun ht => ?_⟩
  · rw [h.all]
    have : D pl nl fp fn p n ↔ D pl nl fp fn (p + 1) (n + 1) := by
      rw [D.lit_iff hp h1 h2]
      exact ⟨fun h => h.2.2, fun h => ⟨hn, hc, h⟩⟩
    rw [this]
  · obtain ⟨h3, h4, h5, h6⟩ := h.part ht
    refine ⟨by omega, by omega, by omega, fun i h7 h8 => ?_⟩
    by_cases e : i = p
    · subst e
      rw [show pn + (i - pp) = n by omega]
      exact ⟨h1, h2, hc⟩
    · exact h6 i h7 (by omega)
  · obtain ⟨h3, h4, h5⟩ := h.star ht
    refine ⟨by omega, by omega, fun k hk hd => ?_⟩
    obtain ⟨m, h6, h7, h8⟩ := h5 k hk hd
    obtain ⟨h9, h10, h11⟩ := (D.lit_iff hp h1 h2).1 h7
    have := hbump m h10
    exact ⟨m + 1, by omega, h11, by omega⟩
  · have := hbump n hc
    have := h.same ht
    omega

theorem D.rest (hp : p ≤ pl) : D pl nl fp fn p nl ↔ ∀ i, p ≤ i → i < pl → (fp i = 42 ∨ fp i = 37) := by
  obtain ⟨j, rfl⟩ : ∃ j, pl = p + j := ⟨pl - p, by omega⟩
  clear hp
  generalize hpl : p + j = pl
  induction j generalizing p with
  | zero =>
    obtain rfl : p = pl := by omega
    rw [D.end_iff]
    exact ⟨fun _ i h1 h2 => by omega, fun _ => rfl⟩
  | succ j ih =>
    have ih := ih (p := p + 1) (by omega)
    have hm : ∀ m, nl ≤ m → (D pl nl fp fn (p + 1) m ↔ m = nl ∧ D pl nl fp fn (p + 1) nl) := by
      intro m h1
      constructor
      · intro h2
        have := h2.le.2
        obtain rfl : m = nl := by omega
        exact ⟨rfl, h2⟩
      · rintro ⟨rfl, h2⟩
        exact h2
    by_cases h1 : fp p = 42
    · rw [D.star_iff (by omega) h1]
      constructor
      · rintro ⟨m, h2, h3⟩ i h4 h5
        by_cases e : i = p
        · subst e; exact Or.inl h1
        · exact ih.1 ((hm m h2).1 h3).2 i (by omega) h5
      · intro h2
        exact ⟨nl, Nat.le_refl _, ih.2 fun i h3 h4 => h2 i (by omega) h4⟩
    · by_cases h2 : fp p = 37
      · rw [D.part_iff (by omega) h2]
        constructor
        · rintro ⟨m, h3, _, h4⟩ i h5 h6
          by_cases e : i = p
          · subst e; exact Or.inr h2
          · exact ih.1 ((hm m h3).1 h4).2 i (by omega) h6
        · intro h3
          exact ⟨nl, Nat.le_refl _, fun i h4 h5 => by omega, ih.2 fun i h4 h5 => h3 i (by omega) h5⟩
      · rw [D.lit_iff (by omega) h1 h2]
        constructor
        · rintro ⟨h3, _⟩
          omega
        · intro h3
          have := h3 p (Nat.le_refl _) (by omega)
          omega

/-- At the name's end: only signs are left. -/
theorem Inv.done (h : Inv pl nl fp fn sT sp sn pT pp pn p n) (hn : n = nl) : D pl nl fp fn 0 0 ↔ ∀ i, p ≤ i → i < pl → (fp i = 42 ∨ fp i = 37) := by
  rw [← D.rest (nl := nl) (fn := fn) h.hp, h.all, hn]
  constructor
  · rintro (h1 | ⟨h1, k, h2, h3, h4⟩ | ⟨h1, k, h2, h3⟩)
    · exact h1
    · have := h.more_end h1 h2 h4
      omega
    · obtain ⟨m, h4, h5, _⟩ := (h.star h1).2.2 k (by omega) h3
      have := h5.le.2
      obtain rfl : m = nl := by omega
      exact h5
  · exact fun h => Or.inl h

/-- Nothing goes on here. -/
def Stuck (pl nl : Nat) (fp fn : Nat → Nat) (p n : Nat) : Prop := n < nl ∧ (p < pl → fp p ≠ 42 ∧ fp p ≠ 37 ∧ fp p ≠ fn n)

theorem Stuck.not (h : Stuck pl nl fp fn p n) : ¬ D pl nl fp fn p n := by
  intro hd
  by_cases hp : p < pl
  · obtain ⟨h1, h2, h3⟩ := h.2 hp
    exact h3 ((D.lit_iff hp h1 h2).1 hd).2.1
  · have := hd.le.1
    obtain rfl : p = pl := by omega
    have := D.end_iff.1 hd
    have := h.1
    omega

theorem Inv.stuckPart (h : Inv pl nl fp fn sT sp sn pT pp pn p n) (hs : Stuck pl nl fp fn p n) (hpT : pT = true) : pn < nl ∧ ¬ D pl nl fp fn pp pn := by
  obtain ⟨h1, h2, h3, h4⟩ := h.part hpT
  refine ⟨by have := hs.1; omega, fun hd => ?_⟩
  have := ((D.lits (p - pp) (by have := h.hp; omega) fun i h5 h6 => ⟨(h4 i h5 (by omega)).1, (h4 i h5 (by omega)).2.1⟩).1 hd).2.2
  rw [show pp + (p - pp) = p by omega, show pn + (p - pp) = n by omega] at this
  exact hs.not this

theorem Inv.goPart (h : Inv pl nl fp fn sT sp sn pT pp pn p n) (hs : Stuck pl nl fp fn p n) (hpT : pT = true) (hc : fn pn ≠ 47) : Inv pl nl fp fn sT sp sn pT pp (pn + 1) pp (pn + 1) := by
  obtain ⟨hlt, hno⟩ := h.stuckPart hs hpT
  obtain ⟨h1, h2, h3, h4⟩ := h.part hpT
  have hcn := cnt_none fn pn hc
  have hL : sT = true → ∀ k, sn ≤ k → D pl nl fp fn sp k → ∃ m, pn + 1 ≤ m ∧ D pl nl fp fn pp m ∧ cnt fn m + cnt fp sp = cnt fp pp + cnt fn k := by
    intro ht k hk hd
    obtain ⟨m, h5, h6, h7⟩ := (h.both ht hpT).2.2.2 k hk hd
    by_cases e : m = pn
    · subst e; exact absurd h6 hno
    · exact ⟨m, by omega, h6, h7⟩
  refine ⟨by have := h.hp; omega, hlt, ?_, fun _ => ⟨Nat.le_refl _, Nat.le_refl _, by omega, fun i h1 h2 => by omega⟩,
    fun ht => ⟨(h.both ht hpT).1, by have := (h.both ht hpT).2.1; omega, hL ht⟩,
    fun ht _ => ⟨(h.both ht hpT).1, by have := (h.both ht hpT).2.1; omega, by rw [hcn]; exact (h.both ht hpT).2.2.1, hL ht⟩,
    fun ht => by rw [hcn]; exact (h.both ht hpT).2.2.1⟩
  rw [h.all]
  constructor
  · rintro (h5 | ⟨_, k, h6, h7, h8⟩ | h5)
    · exact absurd h5 hs.not
    · by_cases e : k = pn + 1
      · subst e; exact Or.inl h8
      · exact Or.inr (Or.inl ⟨hpT, k, by omega, fun i h9 h10 => h7 i (by omega) h10, h8⟩)
    · exact Or.inr (Or.inr h5)
  · have hthis : ∀ i, pn ≤ i → i < pn + 1 → fn i ≠ 47 := by
      intro i h5 h6
      obtain rfl : i = pn := by omega
      exact hc
    rintro (h5 | ⟨_, k, h6, h7, h8⟩ | h5)
    · exact Or.inr (Or.inl ⟨hpT, pn + 1, by omega, hthis, h5⟩)
    · refine Or.inr (Or.inl ⟨hpT, k, by omega, fun i h9 h10 => ?_, h8⟩)
      by_cases e : i = pn
      · subst e; exact hc
      · exact h7 i (by omega) h10
    · exact Or.inr (Or.inr h5)

theorem no_more (hc : pT = true → fn pn = 47) : ¬ (pT = true ∧ ∃ k, pn < k ∧ (∀ i, pn ≤ i → i < k → fn i ≠ 47) ∧ D pl nl fp fn pp k) := by
  rintro ⟨h1, k, h2, h3, _⟩
  exact h3 pn (Nat.le_refl _) h2 (hc h1)

/-- The * takes more: one byte, or all up to the next /, where a % came to one. -/
theorem Inv.goStar (h : Inv pl nl fp fn sT sp sn pT pp pn p n) (hs : Stuck pl nl fp fn p n) (hsT : sT = true) (hc : pT = true → fn pn = 47) (x : Nat) (hx : sn ≤ x) (hx0 : pT = false → x = sn)
    (hx1 : pT = true → x ≤ pn ∧ ∀ i, sn ≤ i → i < x → fn i ≠ 47) (pp' pn' : Nat) : Inv pl nl fp fn sT sp (x + 1) false pp' pn' sp (x + 1) := by
  obtain ⟨h1, h2, h3⟩ := h.star hsT
  have hxn : x + 1 ≤ nl := by
    have := hs.1
    by_cases e : pT = true
    · have := (hx1 e).1; have := (h.part e).2.1; omega
    · have := hx0 (by simpa using e); omega
  have hskip : ∀ k, sn < k → k ≤ x → ¬ D pl nl fp fn sp k := by
    intro k h4 h5 hd
    by_cases e : pT = true
    · obtain ⟨h6, h7, h8, h9⟩ := h.both hsT e
      obtain ⟨m, h10, h11, h12⟩ := h9 k (by omega) hd
      obtain ⟨hlt, hno⟩ := h.stuckPart hs e
      by_cases e2 : m = pn
      · subst e2; exact hno h11
      · have h13 := cnt_sign fn pn (hc e)
        have h14 : cnt fn (pn + 1) ≤ cnt fn m := cnt_le (by omega)
        have h15 : cnt fn k = cnt fn sn := cnt_flat (by omega) fun i h16 h17 => (hx1 e).2 i h16 (by omega)
        omega
    · have := hx0 (by simpa using e)
      omega
  refine ⟨by have := h.hp; omega, hxn, ?_, by simp, fun _ => ⟨Nat.le_refl _, Nat.le_refl _, fun k hk hd => ⟨k, hk, hd, by omega⟩⟩, by simp, fun _ => by omega⟩
  rw [h.all]
  constructor
  · rintro (h5 | h5 | ⟨_, k, h6, h7⟩)
    · exact absurd h5 hs.not
    · exact absurd h5 (no_more hc)
    · by_cases e : k = x + 1
      · subst e; exact Or.inl h7
      · by_cases e2 : k ≤ x
        · exact absurd h7 (hskip k h6 e2)
        · exact Or.inr (Or.inr ⟨hsT, k, by omega, h7⟩)
  · rintro (h5 | ⟨h5, _⟩ | ⟨_, k, h6, h7⟩)
    · exact Or.inr (Or.inr ⟨hsT, x + 1, by omega, h5⟩)
    · simp at h5
    · exact Or.inr (Or.inr ⟨hsT, k, by omega, h7⟩)

theorem Inv.fails (h : Inv pl nl fp fn sT sp sn pT pp pn p n) (hs : Stuck pl nl fp fn p n) (hsT : sT = false) (hc : pT = true → fn pn = 47) : ¬ D pl nl fp fn 0 0 := by
  rw [h.all]
  rintro (h5 | h5 | ⟨h5, _⟩)
  · exact hs.not h5
  · exact no_more hc h5
  · rw [hsT] at h5; cases h5

end

/-- The document's rows. -/
def nextRow (fn : Nat → Nat) (r : Nat → Bool) (c : Nat) : Nat → Bool
  | 0 => if c = 42 ∨ c = 37 then r 0 else false
  | n + 1 => if c = 42 ∨ c = 37 then r (n + 1) || (nextRow fn r c n && (c == 42 || fn n != 47)) else r n && fn n == c

def rows (fp fn : Nat → Nat) : Nat → Nat → Bool
  | 0 => fun n => n == 0
  | p + 1 => nextRow fn (rows fp fn p) (fp p)

theorem nextRow_star (fn : Nat → Nat) (r : Nat → Bool) (n : Nat) : nextRow fn r 42 n = true ↔ ∃ k, k ≤ n ∧ r k = true := by
  induction n with
  | zero =>
    constructor
    · intro h
      exact ⟨0, Nat.le_refl _, by simpa [nextRow] using h⟩
    · rintro ⟨k, h1, h2⟩
      obtain rfl : k = 0 := by omega
      simpa [nextRow] using h2
  | succ n ih =>
    have : nextRow fn r 42 (n + 1) = (r (n + 1) || nextRow fn r 42 n) := by simp [nextRow]
    rw [this, Bool.or_eq_true, ih]
    constructor
    · rintro (h | ⟨k, h1, h2⟩)
      · exact ⟨n + 1, Nat.le_refl _, h⟩
      · exact ⟨k, by omega, h2⟩
    · rintro ⟨k, h1, h2⟩
      by_cases e : k = n + 1
      · subst e; exact Or.inl h2
      · exact Or.inr ⟨k, by omega, h2⟩

theorem nextRow_part (fn : Nat → Nat) (r : Nat → Bool) (n : Nat) : nextRow fn r 37 n = true ↔ ∃ k, k ≤ n ∧ r k = true ∧ ∀ i, k ≤ i → i < n → fn i ≠ 47 := by
  induction n with
  | zero =>
    constructor
    · intro h
      exact ⟨0, Nat.le_refl _, by simpa [nextRow] using h, fun i h1 h2 => by omega⟩
    · rintro ⟨k, h1, h2, _⟩
      obtain rfl : k = 0 := by omega
      simpa [nextRow] using h2
  | succ n ih =>
    have : nextRow fn r 37 (n + 1) = (r (n + 1) || (nextRow fn r 37 n && fn n != 47)) := by simp [nextRow]
    rw [this, Bool.or_eq_true, Bool.and_eq_true, ih]
    constructor
    · rintro (h | ⟨⟨k, h1, h2, h3⟩, h4⟩)
      · exact ⟨n + 1, Nat.le_refl _, h, fun i h1 h2 => by omega⟩
      · refine ⟨k, by omega, h2, fun i h5 h6 => ?_⟩
        by_cases e : i = n
        · subst e; simpa using h4
        · exact h3 i h5 (by omega)
    · rintro ⟨k, h1, h2, h3⟩
      by_cases e : k = n + 1
      · subst e; exact Or.inl h2
      · exact Or.inr ⟨⟨k, by omega, h2, fun i h4 h5 => h3 i h4 (by omega)⟩, by simpa using h3 n (by omega) (by omega)⟩

theorem nextRow_lit (fn : Nat → Nat) (r : Nat → Bool) (c n : Nat) (h1 : c ≠ 42) (h2 : c ≠ 37) : nextRow fn r c n = true ↔ ∃ k, n = k + 1 ∧ r k = true ∧ fn k = c := by
  cases n with
  | zero => simp [nextRow, h1, h2]
  | succ n => simp [nextRow, h1, h2]

theorem rows_mid (pl nl : Nat) (fp fn : Nat → Nat) (p : Nat) (hp : p ≤ pl) : D pl nl fp fn 0 0 ↔ ∃ n, rows fp fn p n = true ∧ D pl nl fp fn p n := by
  induction p with
  | zero =>
    constructor
    · intro h
      exact ⟨0, rfl, h⟩
    · rintro ⟨n, h1, h2⟩
      obtain rfl : n = 0 := by simpa [rows] using h1
      exact h2
  | succ p ih =>
    rw [ih (by omega)]
    show _ ↔ ∃ n, nextRow fn (rows fp fn p) (fp p) n = true ∧ _
    by_cases h1 : fp p = 42
    · simp only [h1, nextRow_star, D.star_iff (show p < pl by omega) h1]
      constructor
      · rintro ⟨n, h2, m, h3, h4⟩
        exact ⟨m, ⟨n, h3, h2⟩, h4⟩
      · rintro ⟨m, ⟨n, h3, h2⟩, h4⟩
        exact ⟨n, h2, m, h3, h4⟩
    · by_cases h2 : fp p = 37
      · simp only [h2, nextRow_part, D.part_iff (show p < pl by omega) h2]
        constructor
        · rintro ⟨n, h2, m, h3, h4, h5⟩
          exact ⟨m, ⟨n, h3, h2, h4⟩, h5⟩
        · rintro ⟨m, ⟨n, h3, h2, h4⟩, h5⟩
          exact ⟨n, h2, m, h3, h4, h5⟩
      · simp only [nextRow_lit _ _ _ _ h1 h2, D.lit_iff (show p < pl by omega) h1 h2]
        constructor
        · rintro ⟨n, h3, h4, h5, h6⟩
          exact ⟨n + 1, ⟨n, rfl, h3, h5.symm⟩, h6⟩
        · rintro ⟨m, ⟨n, rfl, h3, h4⟩, h5⟩
          exact ⟨n, h3, by have := h5.le.2; omega, h4.symm, h5⟩

/-- The document's answer is the same. -/
theorem rows_D (pl nl : Nat) (fp fn : Nat → Nat) : rows fp fn pl nl = true ↔ D pl nl fp fn 0 0 := by
  rw [rows_mid pl nl fp fn pl (Nat.le_refl _)]
  constructor
  · intro h
    exact ⟨nl, h, .fin⟩
  · rintro ⟨n, h1, h2⟩
    obtain rfl := D.end_iff.1 h2
    exact h1

end Gl
end Go.Proofs.YtnglmaebmabdcaaDoor
