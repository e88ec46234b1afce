/- Coord: records redone by a new node, in plain words. No walk. -/
import Derived.Test.YtleghofpabdkhaaY18
namespace Go.Proofs.Ytleghofpabdkhaa
open Go Go.RowKit

def keyT (t : Trn) : Txn × St4 := (t.tx, t.sh)
def keys (l : List Trn) : List (Txn × St4) := (l.filter (·.dn)).map keyT
/-- z has of c what was redone. -/
structure Sim (z c : Cd) : Prop where
  nd : z.node = c.node
  lf : z.life = c.life
  dn : ∀ t ∈ z.under, t.dn = true
  un : keys z.under = keys c.under
theorem idx_eraseP {α : Type} (f : α → Bool) : ∀ (l : List α) (k j : Nat), idxF f k l = ((k + j : Nat) : Int) → l.eraseIdx j = l.eraseP f
  | [], k, j, h => by unfold idxF at h; omega
  | x :: l, k, j, h => by
    rw [idxF] at h
    by_cases hf : f x = true
    · rw [if_pos hf] at h
      obtain rfl : j = 0 := by omega
      rw [List.eraseP_cons_of_pos hf]
      rfl
    · rw [if_neg hf] at h
      rw [List.eraseP_cons_of_neg hf]
      cases j with
      | zero =>
        rcases idx_spec f l (k + 1) with ⟨h1, _⟩ | ⟨j, y, h1, _⟩ <;> omega
      | succ j =>
        rw [List.eraseIdx_cons_succ, idx_eraseP f l (k + 1) j (by rw [h]; congr 1; omega)]
theorem keys_nil : keys [] = [] := rfl
theorem keys_cons (t : Trn) (l : List Trn) : keys (t :: l) = if t.dn = true then keyT t :: keys l else keys l := by
  unfold keys
  rw [List.filter_cons]
  split <;> rfl
theorem keys_append (l m : List Trn) : keys (l ++ m) = keys l ++ keys m := by unfold keys; rw [List.filter_append, List.map_append]
theorem keys_len (l : List Trn) : (keys l).length ≤ l.length := by unfold keys; rw [List.length_map]; exact List.length_filter_le _ _
theorem keys_all {l : List Trn} (h : ∀ t ∈ l, t.dn = true) : (keys l).length = l.length := by
  unfold keys
  rw [List.length_map, List.filter_eq_self.2 h]
theorem done_none (x : Txn) : ∀ (l : List Trn), l.find? (doneB x) = none ↔ ∀ k ∈ keys l, k.1.eq x = false
  | [] => by simp [keys]
  | t :: l => by
    have ih := done_none x l
    rw [keys_cons, List.find?_cons]
    unfold doneB at *
    cases hd : t.dn <;> cases he : t.tx.eq x <;> simp [hd, he, ih, keyT]
theorem erase_done (x : Txn) : ∀ (l : List Trn), keys (l.eraseP (doneB x)) = (keys l).eraseP (fun k => k.1.eq x)
  | [] => rfl
  | t :: l => by
    have ih := erase_done x l
    by_cases hf : doneB x t = true
    · rw [List.eraseP_cons_of_pos hf, keys_cons]
      have hf2 := hf
      unfold doneB at hf2
      rw [Bool.and_eq_true] at hf2
      rw [if_pos hf2.2, List.eraseP_cons_of_pos (by show t.tx.eq x = true; exact hf2.1)]
    · rw [List.eraseP_cons_of_neg hf, keys_cons, keys_cons, ih]
      unfold doneB at hf
      cases hd : t.dn with
      | false => simp
      | true =>
        rw [hd, Bool.and_true] at hf
        simp only [if_true]
        rw [List.eraseP_cons_of_neg (by show ¬ t.tx.eq x = true; exact hf)]
/-- What is not done is no matter. -/
theorem keys_cut (l : List Trn) (i : Nat) (t : Trn) (hi : l[i]? = some t) (hd : t.dn = false) : keys (l.eraseIdx i) = keys l := by
  induction l generalizing i with
  | nil => cases hi
  | cons a l ih =>
    cases i with
    | zero =>
      simp at hi
      subst hi
      rw [keys_cons, hd]
      rfl
    | succ i =>
      rw [List.eraseIdx_cons_succ, keys_cons, keys_cons, ih i (by simpa using hi)]
theorem keys_set (l : List Trn) (i : Nat) (t u : Trn) (hi : l[i]? = some t) (hd : u.dn = t.dn) (hk : keyT u = keyT t) : keys (l.set i u) = keys l := by
  induction l generalizing i with
  | nil => cases hi
  | cons a l ih =>
    cases i with
    | zero =>
      simp at hi
      subst hi
      rw [List.set_cons_zero, keys_cons, keys_cons, hd, hk]
    | succ i =>
      rw [List.set_cons_succ, keys_cons, keys_cons, ih i (by simpa using hi)]
theorem sim_live {z c c' : Cd} {n : Int} (h : Sim z c) (hc : c.live n = (0, c')) : ∃ z', z.live n = (0, z') ∧ Sim z' c' := by
  unfold Cd.live at hc ⊢
  rw [h.lf]
  by_cases hn : n ≤ c.life
  · rw [if_pos hn] at hc
    injection hc with h1 _
    omega
  · rw [if_neg hn] at hc ⊢
    injection hc with _ h2
    subst h2
    refine ⟨_, rfl, h.nd, rfl, fun t ht => ?_, ?_⟩
    · exact (List.mem_filter.1 ht).2
    · have := h.un
      unfold keys at this ⊢
      simp only [List.filter_filter, Bool.and_self]
      exact this
theorem put_ok {C c' : Cd} {x : Txn} {S : St4} (h : C.put x S = (0, c')) : C.under.length < 8 ∧ c'.under = C.under ++ [⟨x, S, St4.none, true⟩] ∧ c'.life = C.life ∧ c'.node = C.node := by
  unfold Cd.put at h
  by_cases hf : 8 ≤ C.under.length
  · rw [if_pos hf] at h
    injection h with h1 _
    omega
  · rw [if_neg hf] at h
    injection h with _ h2
    subst h2
    exact ⟨by omega, rfl, rfl, rfl⟩
theorem put_does {C : Cd} {x : Txn} {S : St4} (h : C.under.length < 8) : ∃ c', C.put x S = (0, c') ∧ c'.under = C.under ++ [⟨x, S, St4.none, true⟩] ∧ c'.life = C.life ∧ c'.node = C.node := by
  unfold Cd.put
  rw [if_neg (by omega)]
  exact ⟨_, rfl, rfl, rfl, rfl⟩
theorem asked_dn {x : Txn} {t : Trn} (h : askedB x t = true) : t.dn = false := by
  unfold askedB at h
  cases hd : t.dn <;> simp_all
theorem sim_finish {z c c' : Cd} {x : Txn} {S : St4} (h : Sim z c) (hc : c.finish x S = (0, c')) : ∃ z', z.finish x S = (0, z') ∧ Sim z' c' := by
  unfold Cd.finish at hc ⊢
  rw [h.lf]
  by_cases hb : c.life < x.boot
  · rw [if_pos hb] at hc
    injection hc with h1 _
    omega
  rw [if_neg hb] at hc ⊢
  cases hf : c.under.find? (doneB x) with
  | some t =>
    rw [hf] at hc
    injection hc with h1 _
    omega
  | none =>
    rw [hf] at hc
    have hz : z.under.find? (doneB x) = none := (done_none x _).2 (by rw [h.un]; exact (done_none x _).1 hf)
    have hza : z.under.find? (askedB x) = none := List.find?_eq_none.2 (fun t ht he => by have := asked_dn he; rw [h.dn t ht] at this; cases this)
    rw [hz, hza]
    dsimp only at hc ⊢
    have hlen : ∀ C : Cd, keys C.under = keys c.under → C.under.length < 8 → z.under.length < 8 := fun C hk hl => by
      have h1 := keys_len C.under
      have h2 := keys_all h.dn
      rw [h.un, ← hk] at h2
      omega
    have hgo : ∀ C : Cd, keys C.under = keys c.under → C.life = c.life → C.node = c.node → C.put x S = (0, c') → ∃ z', z.put x S = (0, z') ∧ Sim z' c' := fun C hk hl hn hp => by
      obtain ⟨p1, p2, p3, p4⟩ := put_ok hp
      obtain ⟨z', q1, q2, q3, q4⟩ := put_does (C := z) (x := x) (S := S) (hlen C hk p1)
      refine ⟨z', q1, by rw [q4, p4, hn, h.nd], by rw [q3, p3, hl, h.lf], fun t ht => ?_, by rw [q2, p2, keys_append, keys_append, h.un, hk]⟩
      rw [q2] at ht
      rcases List.mem_append.1 ht with ht | ht
      · exact h.dn t ht
      · rw [List.mem_singleton.1 ht]
    cases hfa : c.under.find? (askedB x) with
    | none =>
      rw [hfa] at hc
      exact hgo c rfl rfl rfl hc
    | some t =>
      rw [hfa] at hc
      dsimp only at hc
      by_cases hq : t.all = true ∧ t.sh.eq S = true
      · rw [if_pos hq] at hc
        rcases idx_spec (askedB x) c.under 0 with ⟨_, e2⟩ | ⟨j, u, e1, e2, e3, e4⟩
        · rw [find_none _ _ e2] at hfa
          cases hfa
        · rw [Nat.zero_add] at e1
          rw [e1] at hc
          exact hgo (c.cut j) (keys_cut c.under j u e2 (asked_dn e3)) rfl rfl hc
      · rw [if_neg hq] at hc
        injection hc with h1 _
        omega
theorem sim_over {z c c' : Cd} {x : Txn} (h : Sim z c) (hc : c.over x = (0, c')) : ∃ z', z.over x = (0, z') ∧ Sim z' c' := by
  unfold Cd.over at hc ⊢
  cases hf : c.under.find? (doneB x) with
  | none =>
    rw [hf] at hc
    injection hc with h1 _
    omega
  | some t =>
    rw [hf] at hc
    injection hc with _ h2
    subst h2
    cases hz : z.under.find? (doneB x) with
    | none =>
      have := (done_none x _).2 (fun k hk => (done_none x z.under).1 hz k (by rw [h.un]; exact hk))
      rw [hf] at this
      cases this
    | some u =>
      have her : ∀ l : List Trn, l.find? (doneB x) ≠ none → l.eraseIdx (idxF (doneB x) 0 l).toNat = l.eraseP (doneB x) := fun l hl => by
        rcases idx_spec (doneB x) l 0 with ⟨_, e2⟩ | ⟨j, u, e1, e2, e3, e4⟩
        · exact absurd (find_none _ _ e2) hl
        · rw [e1, Nat.zero_add]
          exact idx_eraseP (doneB x) l 0 j e1
      refine ⟨_, rfl, h.nd, h.lf, fun t ht => h.dn t (List.mem_of_mem_eraseIdx ht), ?_⟩
      show keys (z.under.eraseIdx _) = keys (c.under.eraseIdx _)
      rw [her _ (by rw [hz]; simp), her _ (by rw [hf]; simp), erase_done, erase_done, h.un]
/-- Each record that one node takes, the other takes. -/
theorem sim_redo {z c c' : Cd} {l : List UInt8} (h : Sim z c) (hc : c.redo l = (0, c')) : ∃ z', z.redo l = (0, z') ∧ Sim z' c' := by
  have hX : ∀ q, nmX z q = nmX c q := fun q => by unfold nmX; rw [h.nd]
  have hR : ∀ q, nmR z q = nmR c q := fun q => by unfold nmR; rw [hX]
  unfold Cd.redo at hc ⊢
  rw [hR, hX]
  have h4 : ((4 : Int), c) = (0, c') → False := fun e => by injection e with e _; omega
  split
  · rename_i h1
    rw [if_pos h1] at hc
    split
    · rename_i h2
      rw [if_pos h2] at hc
      exact sim_live h hc
    · rename_i h2
      rw [if_neg h2] at hc
      exact (h4 hc).elim
  · rename_i h1
    rw [if_neg h1] at hc
    split
    · rename_i h2
      rw [if_pos h2] at hc
      split
      · rename_i h3
        rw [if_pos h3] at hc
        exact sim_finish h hc
      · rename_i h3
        rw [if_neg h3] at hc
        exact (h4 hc).elim
    · rename_i h2
      rw [if_neg h2] at hc
      split
      · rename_i h3
        rw [if_pos h3] at hc
        split
        · rename_i h5
          rw [if_pos h5] at hc
          exact sim_over h hc
        · rename_i h5
          rw [if_neg h5] at hc
          exact (h4 hc).elim
      · rename_i h3
        rw [if_neg h3] at hc
        exact (h4 hc).elim
end Go.Proofs.Ytleghofpabdkhaa
