/- Glob: which names are ahead of others; the program's list and the document's: plain words, no walk. -/
import Derived.Test.YtnglmaebmabdcaaDoorQP1
namespace Go.Proofs.YtnglmaebmabdcaaDoor
namespace Gl

theorem compactUpTo_succ (d : Array Nm) (m : Nat) : Lib.compactUpTo d (m + 1) = Lib.compactUpTo d m ++ (if Lib.keeps d m then [d[m]!] else []) := by
  unfold Lib.compactUpTo
  rw [List.range_succ, List.filter_append, List.map_append]
  congr 1
  cases h : Lib.keeps d m <;> simp [h]
theorem compact_spec (d : Array Nm) (n : Nat) (hmono : ∀ i j, i ≤ j → j < n → d[i]! ≤ d[j]!) : ∀ m, m ≤ n → Asc (Lib.compactUpTo d m) ∧ ∀ x, x ∈ Lib.compactUpTo d m ↔ ∃ j, j < m ∧ x = d[j]!
  | 0, _ => ⟨List.Pairwise.nil, fun x => ⟨fun h => by simp [Lib.compactUpTo] at h, fun ⟨j, h, _⟩ => by omega⟩⟩
  | m + 1, hm => by
    obtain ⟨h1, h2⟩ := compact_spec d n hmono m (by omega)
    rw [compactUpTo_succ]
    by_cases hk : Lib.keeps d m = true
    · rw [if_pos hk]
      unfold Lib.keeps at hk
      have hk' := of_decide_eq_true hk
      constructor
      · refine List.pairwise_append.2 ⟨h1, by simp, fun x hx y hy => ?_⟩
        obtain rfl := List.mem_singleton.1 hy
        obtain ⟨j, hj, rfl⟩ := (h2 x).1 hx
        have hne : d[m]! ≠ d[m - 1]! := hk'.resolve_left (by omega)
        have hle1 := hmono j (m - 1) (by omega) (by omega)
        have hle2 := hmono (m - 1) m (by omega) (by omega)
        have hlt : d[m - 1]! < d[m]! := by
          rcases lt_or (d[m - 1]!) (d[m]!) with h | h | h
          · exact h
          · exact absurd h.symm hne
          · exact absurd h (List.not_lt.2 hle2)
        rcases lt_or (d[j]!) (d[m - 1]!) with h | h | h
        · exact List.lt_trans h hlt
        · rw [h]; exact hlt
        · exact absurd h (List.not_lt.2 hle1)
      · intro x
        rw [List.mem_append, h2, List.mem_singleton]
        constructor
        · rintro (⟨j, hj, rfl⟩ | rfl)
          · exact ⟨j, by omega, rfl⟩
          · exact ⟨m, by omega, rfl⟩
        · rintro ⟨j, hj, rfl⟩
          by_cases e : j = m
          · subst e; exact .inr rfl
          · exact .inl ⟨j, by omega, rfl⟩
    · rw [if_neg hk, List.append_nil]
      unfold Lib.keeps at hk
      have hk' : ¬ (m = 0 ∨ d[m]! ≠ d[m - 1]!) := fun h => hk (decide_eq_true h)
      refine ⟨h1, fun x => ?_⟩
      rw [h2]
      constructor
      · rintro ⟨j, hj, rfl⟩
        exact ⟨j, by omega, rfl⟩
      · rintro ⟨j, hj, rfl⟩
        by_cases e : j = m
        · subst e
          exact ⟨j - 1, by omega, Decidable.byContradiction fun h => hk' (.inr h)⟩
        · exact ⟨j, by omega, rfl⟩
theorem rise_both (l : List Nm) : Asc (rise l) ∧ ∀ x, x ∈ rise l ↔ x ∈ l := by
  unfold rise Lib.compact
  obtain ⟨m, hm⟩ : ∃ m, (l.mergeSort fun x y => decide (x ≤ y)) = m := ⟨_, rfl⟩
  have hs := sorted l
  have hmem : ∀ x, x ∈ m ↔ x ∈ l := fun x => by rw [← hm]; exact List.mem_mergeSort
  rw [hm] at hs ⊢
  have hmono : ∀ i j, i ≤ j → j < m.length → m.toArray[i]! ≤ m.toArray[j]! := by
    intro i j hij hj
    have e : ∀ k, k < m.length → m.toArray[k]! = m[k]! := fun k hk => by simp
    rw [e i (by omega), e j hj, getElem!_pos m i (by omega), getElem!_pos m j hj]
    by_cases h : i = j
    · subst h; exact List.le_refl _
    · exact List.pairwise_iff_getElem.1 hs i j (by omega) hj (by omega)
  obtain ⟨h1, h2⟩ := compact_spec m.toArray m.length hmono m.length (Nat.le_refl _)
  refine ⟨h1, fun x => ?_⟩
  rw [h2, ← hmem]
  constructor
  · rintro ⟨j, hj, rfl⟩
    have : m.toArray[j]! = m[j] := by simp [hj]
    rw [this]; exact List.getElem_mem hj
  · intro hx
    obtain ⟨j, hj, rfl⟩ := List.getElem_of_mem hx
    exact ⟨j, hj, by simp [hj]⟩

/-- A name's beginnings that end ahead of a /, of those below a place. -/
def ahs (s : Nm) (n : Nat) : List Nm := ((List.range n).filter fun j => decide (s[j]? = some 47)).map (s.take ·)
theorem ahs_succ (s : Nm) (n : Nat) : ahs s (n + 1) = ahs s n ++ (if s[n]? = some 47 then [s.take n] else []) := by
  unfold ahs
  rw [List.range_succ, List.filter_append, List.map_append]
  congr 1
  by_cases h : s[n]? = some 47 <;> simp [h]
theorem ahs_len (s : Nm) (n : Nat) : (ahs s n).length ≤ n := by
  unfold ahs
  rw [List.length_map]
  exact Nat.le_trans (List.length_filter_le _ _) (by simp)
theorem mem_ahs {s : Nm} {n : Nat} {x : Nm} : x ∈ ahs s n ↔ ∃ j, j < n ∧ s[j]? = some 47 ∧ x = s.take j := by
  unfold ahs
  simp only [List.mem_map, List.mem_filter, List.mem_range, decide_eq_true_eq]
  constructor
  · rintro ⟨j, ⟨h1, h2⟩, rfl⟩
    exact ⟨j, h1, h2, rfl⟩
  · rintro ⟨j, h1, h2, rfl⟩
    exact ⟨j, ⟨h1, h2⟩, rfl⟩
def allA (N : List Nm) : List Nm := N.flatMap fun s => ahs s s.length
def known (N : List Nm) (x : Nm) : Bool := decide (x = [] ∨ x ∈ N)
/-- The names that others are under. -/
def aheadL (N : List Nm) : List Nm := rise ((allA N).filter fun x => !known N x)
/-- .. which they are. -/
def AhP (N : List Nm) (x : Nm) : Prop := x ≠ [] ∧ x ∉ N ∧ ∃ s, s ∈ N ∧ ∃ j, s[j]? = some 47 ∧ x = s.take j
theorem mem_aheadL (N : List Nm) (x : Nm) : x ∈ aheadL N ↔ AhP N x := by
  unfold aheadL AhP
  rw [(rise_both _).2]
  unfold allA known
  rw [List.mem_filter, List.mem_flatMap]
  simp only [Bool.not_eq_true', decide_eq_false_iff_not, not_or]
  constructor
  · rintro ⟨⟨s, hs, hx⟩, h1, h2⟩
    obtain ⟨j, _, h3, h4⟩ := mem_ahs.1 hx
    exact ⟨h1, h2, s, hs, j, h3, h4⟩
  · rintro ⟨h1, h2, s, hs, j, h3, h4⟩
    refine ⟨⟨s, hs, mem_ahs.2 ⟨j, (List.getElem?_eq_some_iff.1 h3).1, h3, h4⟩⟩, h1, h2⟩
/-- How far the document has come: all of the names below i, and of that one what is below k. -/
def AhAt (N : List Nm) (i k : Nat) (x : Nm) : Prop := x ≠ [] ∧ x ∉ N ∧ ∃ a j s, N[a]? = some s ∧ s[j]? = some 47 ∧ x = s.take j ∧ (a < i ∨ (a = i ∧ j < k))
theorem AhAt.zero (N : List Nm) (x : Nm) : ¬ AhAt N 0 0 x := by
  rintro ⟨_, _, a, j, s, _, _, _, h | ⟨_, h⟩⟩ <;> omega
theorem AhAt.one (N : List Nm) (i : Nat) (x : Nm) : AhAt N i 1 x ↔ AhAt N i 0 x := by
  constructor
  · rintro ⟨h1, h2, a, j, s, h3, h4, h5, h | ⟨h6, h7⟩⟩
    · exact ⟨h1, h2, a, j, s, h3, h4, h5, .inl h⟩
    · obtain rfl : j = 0 := by omega
      exact absurd (by rw [h5]; rfl) h1
  · rintro ⟨h1, h2, a, j, s, h3, h4, h5, h | ⟨h6, h7⟩⟩
    · exact ⟨h1, h2, a, j, s, h3, h4, h5, .inl h⟩
    · omega
theorem AhAt.step {N : List Nm} {i k : Nat} {s : Nm} (hs : N[i]? = some s) (hk : 0 < k) (hc : s[k]? = some 47) (hn : s.take k ∉ N) (x : Nm) : AhAt N i (k + 1) x ↔ AhAt N i k x ∨ x = s.take k := by
  have hlt := (List.getElem?_eq_some_iff.1 hc).1
  constructor
  · rintro ⟨h1, h2, a, j, s', h3, h4, h5, h | ⟨h6, h7⟩⟩
    · exact .inl ⟨h1, h2, a, j, s', h3, h4, h5, .inl h⟩
    · subst h6
      rw [hs] at h3
      obtain rfl := Option.some.inj h3
      by_cases e : j = k
      · subst e; exact .inr h5
      · exact .inl ⟨h1, h2, a, j, s, hs, h4, h5, .inr ⟨rfl, by omega⟩⟩
  · rintro (⟨h1, h2, a, j, s', h3, h4, h5, h⟩ | rfl)
    · exact ⟨h1, h2, a, j, s', h3, h4, h5, by omega⟩
    · refine ⟨fun e => ?_, hn, i, k, s, hs, hc, rfl, .inr ⟨rfl, by omega⟩⟩
      have := congrArg List.length e
      rw [List.length_take, List.length_nil] at this
      omega
theorem AhAt.skip {N : List Nm} {i k : Nat} {s : Nm} (hs : N[i]? = some s) (hc : s[k]? ≠ some 47 ∨ s.take k ∈ N) (x : Nm) : AhAt N i (k + 1) x ↔ AhAt N i k x := by
  constructor
  · rintro ⟨h1, h2, a, j, s', h3, h4, h5, h | ⟨h6, h7⟩⟩
    · exact ⟨h1, h2, a, j, s', h3, h4, h5, .inl h⟩
    · subst h6
      rw [hs] at h3
      obtain rfl := Option.some.inj h3
      by_cases e : j = k
      · subst e
        rcases hc with hc | hc
        · exact absurd h4 hc
        · rw [h5] at h2; exact absurd hc h2
      · exact ⟨h1, h2, a, j, s, hs, h4, h5, .inr ⟨rfl, by omega⟩⟩
  · rintro ⟨h1, h2, a, j, s', h3, h4, h5, h⟩
    exact ⟨h1, h2, a, j, s', h3, h4, h5, by omega⟩
theorem AhAt.row {N : List Nm} {i k : Nat} {s : Nm} (hs : N[i]? = some s) (hk : s.length ≤ k) (x : Nm) : AhAt N i k x ↔ AhAt N (i + 1) 0 x := by
  constructor
  · rintro ⟨h1, h2, a, j, s', h3, h4, h5, h⟩
    exact ⟨h1, h2, a, j, s', h3, h4, h5, .inl (by omega)⟩
  · rintro ⟨h1, h2, a, j, s', h3, h4, h5, h⟩
    refine ⟨h1, h2, a, j, s', h3, h4, h5, ?_⟩
    by_cases e : a = i
    · subst e
      rw [hs] at h3
      obtain rfl := Option.some.inj h3
      have := (List.getElem?_eq_some_iff.1 h4).1
      exact .inr ⟨rfl, by omega⟩
    · exact .inl (by omega)
theorem AhAt.end {N : List Nm} {i : Nat} (hi : N.length ≤ i) (x : Nm) : AhAt N i 0 x ↔ AhP N x := by
  constructor
  · rintro ⟨h1, h2, a, j, s', h3, h4, h5, h⟩
    exact ⟨h1, h2, s', List.mem_of_getElem? h3, j, h4, h5⟩
  · rintro ⟨h1, h2, s, hs, j, h4, h5⟩
    obtain ⟨a, ha⟩ := List.mem_iff_getElem?.1 hs
    exact ⟨h1, h2, a, j, s, ha, h4, h5, .inl (by have := (List.getElem?_eq_some_iff.1 ha).1; omega)⟩
theorem AhP.le {N : List Nm} {x : Nm} {b : Nat} (h : AhP N x) (hb : ∀ s, s ∈ N → s.length ≤ b) : x.length ≤ b := by
  obtain ⟨_, _, s, hs, j, _, rfl⟩ := h
  have := hb s hs
  rw [List.length_take]; omega
/-- The names that a pattern stands for. -/
def pickL (N : List Nm) (m : Nm → Bool) : List Nm := rise ((N ++ aheadL N).filter m)
end Gl
end Go.Proofs.YtnglmaebmabdcaaDoor
