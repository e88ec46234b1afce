/- Coord: what no operation on a node breaks, in plain words. No walk. -/
import Derived.Test.YtleghofpabdkhaaY21
namespace Go.Proofs.Ytleghofpabdkhaa
open Go Go.RowKit

theorem find_at {α : Type} (f : α → Bool) (l : List α) (t : α) (h : l.find? f = some t) : ∃ j : Nat, idxF f 0 l = (j : Int) ∧ l[j]? = some t ∧ f t = true := by
  rcases idx_spec f l 0 with ⟨_, e2⟩ | ⟨j, u, e1, e2, e3, _⟩
  · rw [find_none _ _ e2] at h; cases h
  · rw [find_idx f l 0 j u e1 e2] at h
    injection h with h
    subst h
    exact ⟨j, by rw [e1, Nat.zero_add], e2, e3⟩
theorem done_dn {x : Txn} {t : Trn} (h : doneB x t = true) : t.dn = true := by
  unfold doneB at h
  cases hd : t.dn <;> simp_all
theorem drop_cases (c : Cd) (x : Txn) : (c.drop x).2 = c ∨ ∃ j t, c.under[j]? = some t ∧ askedB x t = true ∧ (c.drop x).2 = c.cut j := by
  unfold Cd.drop
  cases hf : c.under.find? (askedB x) with
  | none => exact Or.inl rfl
  | some t =>
    obtain ⟨j, e1, e2, e3⟩ := find_at _ _ t hf
    dsimp only
    split
    · exact Or.inl rfl
    · exact Or.inr ⟨j, t, e2, e3, by rw [e1]; rfl⟩
theorem vote_cases (c : Cd) (x : Txn) (i : Int) (yes : Bool) : (c.vote x i yes).2.2 = c ∨ ∃ j t, c.under[j]? = some t ∧ askedB x t = true ∧ ((c.vote x i yes).2.2 = c.cut j ∨ (t.sh.has i = true ∧ yes = true ∧ (c.vote x i yes).2.2 = c.say j t i)) := by
  unfold Cd.vote
  cases hf : c.under.find? (askedB x) with
  | none => exact Or.inl rfl
  | some t =>
    obtain ⟨j, e1, e2, e3⟩ := find_at _ _ t hf
    dsimp only
    by_cases hh : t.sh.has i = true
    · rw [if_pos hh]
      by_cases hy : yes = true
      · rw [if_pos hy, e1]
        refine Or.inr ⟨j, t, e2, e3, Or.inr ⟨hh, hy, ?_⟩⟩
        by_cases ha : (t.said i).all = true
        · rw [if_pos ha]; rfl
        · rw [if_neg ha]; rfl
      · rw [if_neg hy]
        rcases drop_cases c x with h | ⟨j', t', h1, h2, h3⟩
        · exact Or.inl h
        · exact Or.inr ⟨j', t', h1, h2, Or.inl h3⟩
    · rw [if_neg hh]
      exact Or.inl rfl
theorem ack_cases (c : Cd) (x : Txn) (i : Int) : (c.ack x i).2.2 = c ∨ ∃ j t, c.under[j]? = some t ∧ doneB x t = true ∧ (c.ack x i).2.2 = c.say j t i := by
  unfold Cd.ack
  cases hf : c.under.find? (doneB x) with
  | none => exact Or.inl rfl
  | some t =>
    obtain ⟨j, e1, e2, e3⟩ := find_at _ _ t hf
    dsimp only
    by_cases hh : t.sh.has i = true
    · rw [if_pos hh, e1]
      refine Or.inr ⟨j, t, e2, e3, ?_⟩
      by_cases ha : (t.said i).all = true
      · rw [if_pos ha]; rfl
      · rw [if_neg ha]; rfl
    · rw [if_neg hh]
      exact Or.inl rfl
theorem redo_cases (c : Cd) (l : List UInt8) : c.redo l = (4, c) ∨ (∃ n, numV 1 l = 1 ∧ n = (numV 4 (restV 1 l) : Int) ∧ countsB n = true ∧ c.redo l = c.live n) ∨ (∃ X S, numV 1 l = 2 ∧ countsB X.boot = true ∧ countsB X.n = true ∧ c.redo l = c.finish X S) ∨ (∃ X, numV 1 l = 3 ∧ c.redo l = c.over X) := by
  unfold Cd.redo
  split
  · rename_i h1
    split
    · rename_i h2; exact Or.inr (Or.inl ⟨_, h1, rfl, h2.1, rfl⟩)
    · exact Or.inl rfl
  · split
    · rename_i h1
      split
      · rename_i h2
        have h3 := h2.1
        unfold nmR at h3
        rw [Bool.and_eq_true] at h3
        exact Or.inr (Or.inr (Or.inl ⟨_, _, h1, h3.1, h3.2, rfl⟩))
      · exact Or.inl rfl
    · split
      · rename_i h1
        split
        · exact Or.inr (Or.inr (Or.inr ⟨_, h1, rfl⟩))
        · exact Or.inl rfl
      · exact Or.inl rfl
theorem put_cases (C : Cd) (x : Txn) (S : St4) : (C.put x S).2 = C ∨ (C.under.length < 8 ∧ (C.put x S).2 = { C with under := C.under ++ [⟨x, S, St4.none, true⟩], next := if x.boot = C.life then max C.next (x.n + 1) else C.next }) := by
  unfold Cd.put
  split
  · exact Or.inl rfl
  · exact Or.inr ⟨by omega, rfl⟩
theorem finish_cases (c : Cd) (x : Txn) (S : St4) : c.finish x S = (13, c) ∨ (c.under.find? (doneB x) = none ∧ ((c.under.find? (askedB x) = none ∧ c.finish x S = c.put x S) ∨ ∃ j t, c.under[j]? = some t ∧ askedB x t = true ∧ t.all = true ∧ t.sh.eq S = true ∧ c.finish x S = (c.cut j).put x S)) := by
  unfold Cd.finish
  split
  · exact Or.inl rfl
  · cases hf : c.under.find? (doneB x) with
    | some t => exact Or.inl rfl
    | none =>
      cases hfa : c.under.find? (askedB x) with
      | none => exact Or.inr ⟨rfl, Or.inl ⟨rfl, rfl⟩⟩
      | some t =>
        obtain ⟨j, e1, e2, e3⟩ := find_at _ _ t hfa
        dsimp only
        split
        · rename_i hq
          exact Or.inr ⟨rfl, Or.inr ⟨j, t, e2, e3, hq.1, hq.2, by rw [e1]; rfl⟩⟩
        · exact Or.inl rfl
theorem over_cases (c : Cd) (x : Txn) : (c.over x).2 = c ∨ ∃ j t, c.under[j]? = some t ∧ doneB x t = true ∧ (c.over x).2 = c.cut j := by
  unfold Cd.over
  cases hf : c.under.find? (doneB x) with
  | none => exact Or.inl rfl
  | some t =>
    obtain ⟨j, e1, e2, e3⟩ := find_at _ _ t hf
    exact Or.inr ⟨j, t, e2, e3, by rw [e1]; rfl⟩
theorem Sim.say {z c : Cd} (h : Sim z c) {j : Nat} {t : Trn} (i : Int) (hj : c.under[j]? = some t) : Sim z (c.say j t i) := ⟨h.nd, h.lf, h.dn, by rw [h.un]; exact (keys_set c.under j t (t.said i) hj rfl rfl).symm⟩
theorem Sim.cut {z c : Cd} (h : Sim z c) {j : Nat} {t : Trn} (hj : c.under[j]? = some t) (hd : t.dn = false) : Sim z (c.cut j) := ⟨h.nd, h.lf, h.dn, by rw [h.un]; exact (keys_cut c.under j t hj hd).symm⟩
theorem Sim.begin {z c : Cd} (h : Sim z c) (l : List Int) : Sim z (c.begin l).2 := by
  unfold Cd.begin
  split
  · exact h
  · split
    · exact h
    · split
      · exact h
      · exact ⟨h.nd, h.lf, h.dn, by rw [h.un]; show _ = keys (_ ++ _); rw [keys_append]; simp [keys]⟩
theorem Sim.vote {z c : Cd} (h : Sim z c) (x : Txn) (i : Int) (yes : Bool) : Sim z (c.vote x i yes).2.2 := by
  rcases vote_cases c x i yes with e | ⟨j, t, h1, h2, e | ⟨_, _, e⟩⟩
  · rw [e]; exact h
  · rw [e]; exact h.cut h1 (asked_dn h2)
  · rw [e]; exact h.say i h1
theorem Sim.ack {z c : Cd} (h : Sim z c) (x : Txn) (i : Int) : Sim z (c.ack x i).2.2 := by
  rcases ack_cases c x i with e | ⟨j, t, h1, _, e⟩
  · rw [e]; exact h
  · rw [e]; exact h.say i h1
/-- What holds of any node. -/
structure Wf (c : Cd) : Prop where
  len : c.under.length ≤ 8
  lf : 0 ≤ c.life ∧ c.life ≤ 2147483647
  nx : 1 ≤ c.next ∧ c.next ≤ 2147483648
  rg : ∀ t ∈ c.under, 0 ≤ t.tx.boot ∧ t.tx.boot ≤ 2147483648 ∧ 0 ≤ t.tx.n ∧ t.tx.n ≤ 2147483648
theorem Wf.new (n : Int) : Wf ⟨n, 0, 1, []⟩ := ⟨Nat.zero_le _, by dsimp only; omega, by dsimp only; omega, fun t ht => by cases ht⟩
theorem Wf.cut {c : Cd} (h : Wf c) (j : Nat) : Wf (c.cut j) := ⟨Nat.le_trans (List.length_eraseIdx_le ..) h.len, h.lf, h.nx, fun t ht => h.rg t (List.mem_of_mem_eraseIdx ht)⟩
theorem Wf.say {c : Cd} (h : Wf c) {j : Nat} {t : Trn} (i : Int) (hj : c.under[j]? = some t) : Wf (c.say j t i) := by
  refine ⟨?_, h.lf, h.nx, fun u hu => ?_⟩
  · show (c.under.set j (t.said i)).length ≤ 8
    rw [List.length_set]; exact h.len
  · rcases List.mem_or_eq_of_mem_set hu with hu | rfl
    · exact h.rg u hu
    · exact h.rg t (List.mem_of_getElem? hj)
theorem Wf.begin {c : Cd} (h : Wf c) (l : List Int) : Wf (c.begin l).2 := by
  unfold Cd.begin
  split
  · exact h
  · split
    · exact h
    · split
      · exact h
      · rename_i h1 h2 h3
        have := h.lf
        have := h.nx
        refine ⟨?_, h.lf, ?_, fun t ht => ?_⟩
        · show (c.under ++ [_]).length ≤ 8
          rw [List.length_append, List.length_singleton]; omega
        · show 1 ≤ c.next + 1 ∧ c.next + 1 ≤ 2147483648
          omega
        · rcases List.mem_append.1 ht with ht | ht
          · exact h.rg t ht
          · rw [List.mem_singleton.1 ht]
            dsimp only
            omega
theorem Wf.drop {c : Cd} (h : Wf c) (x : Txn) : Wf (c.drop x).2 := by
  rcases drop_cases c x with e | ⟨j, t, h1, h2, e⟩
  · rw [e]; exact h
  · rw [e]; exact h.cut j
theorem Wf.vote {c : Cd} (h : Wf c) (x : Txn) (i : Int) (yes : Bool) : Wf (c.vote x i yes).2.2 := by
  rcases vote_cases c x i yes with e | ⟨j, t, h1, h2, e | ⟨_, _, e⟩⟩
  · rw [e]; exact h
  · rw [e]; exact h.cut j
  · rw [e]; exact h.say i h1
theorem Wf.ack {c : Cd} (h : Wf c) (x : Txn) (i : Int) : Wf (c.ack x i).2.2 := by
  rcases ack_cases c x i with e | ⟨j, t, h1, _, e⟩
  · rw [e]; exact h
  · rw [e]; exact h.say i h1
theorem counts_iff {n : Int} (h : countsB n = true) : 1 ≤ n ∧ n ≤ 2147483647 := by
  unfold countsB at h
  simpa using h
/-- A node goes on: its lives, and its numbers in a life, rise. -/
def Le (c d : Cd) : Prop := c.life < d.life ∨ (c.life = d.life ∧ c.next ≤ d.next)
theorem Le.refl (c : Cd) : Le c c := Or.inr ⟨rfl, Int.le_refl _⟩
theorem put_keep {C : Cd} {x : Txn} {S : St4} (h : Wf C) (h1 : countsB x.boot = true) (h2 : countsB x.n = true) : Wf (C.put x S).2 ∧ Le C (C.put x S).2 ∧ (C.put x S).2.life = C.life := by
  have a1 := counts_iff h1
  have a2 := counts_iff h2
  have := h.nx
  rcases put_cases C x S with e | ⟨hl, e⟩
  · rw [e]; exact ⟨h, Le.refl _, rfl⟩
  · rw [e]
    refine ⟨⟨?_, h.lf, ?_, fun t ht => ?_⟩, Or.inr ⟨rfl, ?_⟩, rfl⟩
    · show (C.under ++ [_]).length ≤ 8
      rw [List.length_append, List.length_singleton]; omega
    · dsimp only
      split <;> omega
    · rcases List.mem_append.1 ht with ht | ht
      · exact h.rg t ht
      · rw [List.mem_singleton.1 ht]
        dsimp only
        omega
    · dsimp only
      split <;> omega
theorem redo_keep {c : Cd} (h : Wf c) (l : List UInt8) : Wf (c.redo l).2 ∧ Le c (c.redo l).2 ∧ (numV 1 l ≠ 1 → (c.redo l).2.life = c.life) := by
  rcases redo_cases c l with e | ⟨n, hk, hn, hc, e⟩ | ⟨X, S, hk, h1, h2, e⟩ | ⟨X, hk, e⟩
  · rw [e]; exact ⟨h, Le.refl _, fun _ => rfl⟩
  · rw [e]
    have a := counts_iff hc
    unfold Cd.live
    split
    · exact ⟨h, Le.refl _, fun hne => absurd hk hne⟩
    · rename_i hlt
      refine ⟨⟨Nat.le_trans (List.length_filter_le _ _) h.len, by dsimp only; omega, by dsimp only; omega, fun t ht => h.rg t (List.mem_filter.1 ht).1⟩, Or.inl (by dsimp only; omega), fun hne => absurd hk hne⟩
  · rw [e]
    rcases finish_cases c X S with e2 | ⟨_, ⟨_, e2⟩ | ⟨j, t, hj, _, _, _, e2⟩⟩
    · rw [e2]; exact ⟨h, Le.refl _, fun _ => rfl⟩
    · rw [e2]
      obtain ⟨p1, p2, p3⟩ := put_keep (S := S) h h1 h2
      exact ⟨p1, p2, fun _ => p3⟩
    · rw [e2]
      obtain ⟨p1, p2, p3⟩ := put_keep (S := S) (h.cut j) h1 h2
      exact ⟨p1, p2, fun _ => p3⟩
  · rw [e]
    rcases over_cases c X with e2 | ⟨j, t, hj, _, e2⟩
    · rw [e2]; exact ⟨h, Le.refl _, fun _ => rfl⟩
    · rw [e2]; exact ⟨h.cut j, Le.refl _, fun _ => rfl⟩
/-- A name that was given. -/
def Old (c : Cd) (x : Txn) : Prop := x.boot < c.life ∨ (x.boot = c.life ∧ x.n < c.next)
theorem Old.le {c d : Cd} {x : Txn} (h : Old c x) (hl : Le c d) : Old d x := by
  unfold Old Le at *
  omega
theorem begin_new {c : Cd} {l : List Int} (h : (c.begin l).1.2 = 0) : ¬ Old c (c.begin l).1.1 ∧ Old (c.begin l).2 (c.begin l).1.1 ∧ Le c (c.begin l).2 := by
  unfold Cd.begin at *
  split
  · rename_i h1; rw [if_pos h1] at h; dsimp only at h; omega
  · rename_i h1
    rw [if_neg h1] at h
    split
    · rename_i h2; rw [if_pos h2] at h; dsimp only at h; omega
    · rename_i h2
      rw [if_neg h2] at h
      split
      · rename_i h3; rw [if_pos h3] at h; dsimp only at h; omega
      · unfold Old Le
        dsimp only
        omega
theorem begin_le (c : Cd) (l : List Int) : Le c (c.begin l).2 := by
  by_cases h : (c.begin l).1.2 = 0
  · exact (begin_new h).2.2
  · unfold Cd.begin at *
    split
    · exact Le.refl _
    · rename_i h1
      rw [if_neg h1] at h
      split
      · exact Le.refl _
      · rename_i h2
        rw [if_neg h2] at h
        split
        · exact Le.refl _
        · rename_i h3
          rw [if_neg h3] at h
          exact absurd rfl h
theorem vote_le (c : Cd) (x : Txn) (i : Int) (yes : Bool) : Le c (c.vote x i yes).2.2 := by
  rcases vote_cases c x i yes with e | ⟨j, t, h1, h2, e | ⟨_, _, e⟩⟩ <;> rw [e] <;> exact Le.refl _
theorem ack_le (c : Cd) (x : Txn) (i : Int) : Le c (c.ack x i).2.2 := by
  rcases ack_cases c x i with e | ⟨j, t, h1, _, e⟩ <;> rw [e] <;> exact Le.refl _
end Go.Proofs.Ytleghofpabdkhaa
