/- Date: days in plain words: the days ahead of a year, of a month; a day's number, and its own. -/
namespace Go.Proofs.YtkkmjadkagpihaaDoor

/-- A day more in the year? -/
def lp (y : Int) : Int := if (y % 4 = 0 ∧ y % 100 ≠ 0) ∨ y % 400 = 0 then 1 else 0
def dim (y m : Int) : Int := if m = 2 then 28 + lp y else if m = 4 ∨ m = 6 ∨ m = 9 ∨ m = 11 then 30 else 31
/-- The number of a year's first day. -/
def bg (y : Int) : Int := 365 * (y - 1) + (y - 1) / 4 - (y - 1) / 100 + (y - 1) / 400 - 719162
/-- The days of the year ahead of a month. -/
def cum (y m : Int) : Int := (if m ≤ 1 then 0 else if m = 2 then 31 else if m = 3 then 59 else if m = 4 then 90 else if m = 5 then 120 else if m = 6 then 151 else if m = 7 then 181 else if m = 8 then 212 else if m = 9 then 243 else if m = 10 then 273 else if m = 11 then 304 else if m = 12 then 334 else 365) + if m > 2 then lp y else 0
def num (y m d : Int) : Int := bg y + cum y m + d - 1
/-- Is a day right? -/
def rt (y m d : Int) : Bool := decide (1 ≤ y ∧ y ≤ 9999 ∧ 1 ≤ m ∧ m ≤ 12 ∧ 1 ≤ d ∧ d ≤ dim y m)

theorem lp_01 (y : Int) : 0 ≤ lp y ∧ lp y ≤ 1 := by unfold lp; split <;> omega
theorem bg_succ (y : Int) : bg (y + 1) = bg y + 365 + lp y := by
  unfold bg lp
  split <;> omega
theorem bg_mono {a b : Int} (h : a ≤ b) : bg a ≤ bg b := by unfold bg; omega
theorem bg_bd (y : Int) (h0 : 1 ≤ y) (h : y ≤ 10000) : -719162 ≤ bg y ∧ bg y ≤ 2932897 := by unfold bg; omega
theorem bg_1 : bg 1 = -719162 := by decide
theorem bg_last : bg 10000 = 2932897 := by decide
theorem bg_lo (y : Int) (h : 1 ≤ y) : 365 * (y - 1) - 719162 ≤ bg y := by unfold bg; omega
theorem bg_hi (y : Int) (h : 1 ≤ y) : bg y ≤ 366 * (y - 1) - 719162 := by unfold bg; omega
theorem dim_bd (y m : Int) : 28 ≤ dim y m ∧ dim y m ≤ 31 := by
  have := lp_01 y
  unfold dim; split
  · omega
  · split <;> omega
theorem cum_1 (y : Int) : cum y 1 = 0 := by unfold cum; simp
theorem cum_13 (y : Int) : cum y 13 = 365 + lp y := by unfold cum; simp
theorem cum_succ (y m : Int) (h1 : 1 ≤ m) (h2 : m ≤ 12) : cum y (m + 1) = cum y m + dim y m := by
  have e : m = 1 ∨ m = 2 ∨ m = 3 ∨ m = 4 ∨ m = 5 ∨ m = 6 ∨ m = 7 ∨ m = 8 ∨ m = 9 ∨ m = 10 ∨ m = 11 ∨ m = 12 := by omega
  have := lp_01 y
  rcases e with rfl | rfl | rfl | rfl | rfl | rfl | rfl | rfl | rfl | rfl | rfl | rfl <;> simp [cum, dim] <;> omega
theorem cum_bd (y m : Int) (h1 : 1 ≤ m) (h2 : m ≤ 13) : 0 ≤ cum y m ∧ cum y m ≤ 366 := by
  have e : m = 1 ∨ m = 2 ∨ m = 3 ∨ m = 4 ∨ m = 5 ∨ m = 6 ∨ m = 7 ∨ m = 8 ∨ m = 9 ∨ m = 10 ∨ m = 11 ∨ m = 12 ∨ m = 13 := by omega
  have := lp_01 y
  rcases e with rfl | rfl | rfl | rfl | rfl | rfl | rfl | rfl | rfl | rfl | rfl | rfl | rfl <;> simp [cum] <;> omega
theorem cum_mono (y : Int) {a b : Int} (h1 : 1 ≤ a) (h : a ≤ b) (h2 : b ≤ 13) : cum y a ≤ cum y b := by
  obtain ⟨k, hk⟩ : ∃ k : Nat, b = a + k := ⟨(b - a).toNat, by omega⟩
  subst hk
  induction k with
  | zero => simp
  | succ k ih =>
    have h3 := ih (by omega) (by omega)
    have h4 := cum_succ y (a + k) (by omega) (by omega)
    have h5 := dim_bd y (a + k)
    have : a + ((k + 1 : Nat) : Int) = a + k + 1 := by omega
    rw [this]; omega

theorem rt_iff {y m d : Int} : rt y m d = true ↔ (1 ≤ y ∧ y ≤ 9999 ∧ 1 ≤ m ∧ m ≤ 12 ∧ 1 ≤ d ∧ d ≤ dim y m) := by unfold rt; simp

/-- A day that is right lies within its year. -/
theorem num_year {y m d : Int} (h : rt y m d = true) : bg y ≤ num y m d ∧ num y m d < bg (y + 1) := by
  rw [rt_iff] at h
  have a := cum_mono y (a := m + 1) (b := 13) (by omega) (by omega) (by omega)
  have b := cum_succ y m (by omega) (by omega)
  have c := cum_bd y m (by omega) (by omega)
  rw [bg_succ]; rw [cum_13] at a
  unfold num; omega
theorem num_in {y m d : Int} (h : rt y m d = true) : -719162 ≤ num y m d ∧ num y m d ≤ 2932896 := by
  have a := num_year h
  rw [rt_iff] at h
  have b := bg_bd y (by omega) (by omega)
  have c := bg_bd (y + 1) (by omega) (by omega)
  omega
/-- Two days that are right are one, if their numbers are. -/
theorem num_inj {y m d y' m' d' : Int} (h : rt y m d = true) (h' : rt y' m' d' = true) (e : num y m d = num y' m' d') : y = y' ∧ m = m' ∧ d = d' := by
  have a := num_year h
  have b := num_year h'
  have hy : y = y' := by
    rcases Int.lt_trichotomy y y' with g | g | g
    · have := bg_mono (a := y + 1) (b := y') (by omega); omega
    · exact g
    · have := bg_mono (a := y' + 1) (b := y) (by omega); omega
  subst hy
  rw [rt_iff] at h h'
  have c := cum_succ y m (by omega) (by omega)
  have c' := cum_succ y m' (by omega) (by omega)
  unfold num at e
  have hm : m = m' := by
    rcases Int.lt_trichotomy m m' with g | g | g
    · have := cum_mono y (a := m + 1) (b := m') (by omega) (by omega) (by omega); omega
    · exact g
    · have := cum_mono y (a := m' + 1) (b := m) (by omega) (by omega) (by omega); omega
  subst hm
  exact ⟨rfl, rfl, by omega⟩

theorem year_of (n : Int) (h1 : -719162 ≤ n) (h2 : n ≤ 2932896) : ∃ y, 1 ≤ y ∧ y ≤ 9999 ∧ bg y ≤ n ∧ n < bg (y + 1) := by
  suffices ∀ k : Nat, ∀ a : Int, 1 ≤ a → a + k = 10000 → bg a ≤ n → ∃ y, 1 ≤ y ∧ y ≤ 9999 ∧ bg y ≤ n ∧ n < bg (y + 1) from
    this 9999 1 (by omega) (by omega) (by rw [bg_1]; exact h1)
  intro k
  induction k with
  | zero =>
    intro a ha hk hb
    obtain rfl : a = 10000 := by omega
    rw [bg_last] at hb; omega
  | succ k ih =>
    intro a ha hk hb
    by_cases h : bg (a + 1) ≤ n
    · exact ih (a + 1) (by omega) (by omega) h
    · exact ⟨a, ha, by omega, hb, by omega⟩
theorem month_of (y n : Int) (h1 : 0 ≤ n) (h2 : n < 365 + lp y) : ∃ m, 1 ≤ m ∧ m ≤ 12 ∧ cum y m ≤ n ∧ n < cum y (m + 1) := by
  suffices ∀ k : Nat, ∀ a : Int, 1 ≤ a → a + k = 13 → cum y a ≤ n → ∃ m, 1 ≤ m ∧ m ≤ 12 ∧ cum y m ≤ n ∧ n < cum y (m + 1) from
    this 12 1 (by omega) (by omega) (by rw [cum_1]; exact h1)
  intro k
  induction k with
  | zero =>
    intro a ha hk hb
    obtain rfl : a = 13 := by omega
    rw [cum_13] at hb; omega
  | succ k ih =>
    intro a ha hk hb
    by_cases h : cum y (a + 1) ≤ n
    · exact ih (a + 1) (by omega) (by omega) h
    · exact ⟨a, ha, by omega, hb, by omega⟩
/-- Each number from the first to the last is a day's that is right. -/
theorem day_of (n : Int) (h1 : -719162 ≤ n) (h2 : n ≤ 2932896) : ∃ y m d, rt y m d = true ∧ num y m d = n := by
  obtain ⟨y, a, b, c, d⟩ := year_of n h1 h2
  rw [bg_succ] at d
  obtain ⟨m, e, f, g, i⟩ := month_of y (n - bg y) (by omega) (by omega)
  rw [cum_succ y m e f] at i
  exact ⟨y, m, n - bg y - cum y m + 1, rt_iff.2 ⟨a, b, e, f, by omega, by omega⟩, by unfold num; omega⟩
end Go.Proofs.YtkkmjadkagpihaaDoor
