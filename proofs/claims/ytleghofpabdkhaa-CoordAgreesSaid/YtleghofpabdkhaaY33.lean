/- Coord: CoordAgrees in plain words, whole: fates beside votes. No walk. -/
import Derived.Test.YtleghofpabdkhaaY29
namespace Go.Proofs.Ytleghofpabdkhaa
open Go Go.RowKit

/-- Where the script stands: votes, fates, names, shards. -/
structure AgP (c : Cd) (xs : List Txn) (hs : List (List Int)) (ys : List St4) (fs : List Int) : Prop where
  a : AgrW c xs hs ys
  fl : fs.length = xs.length
  ft : ∀ (k : Nat) (x : Txn), xs[k]? = some x → fs[k]? = some 2 → ∀ t ∈ c.under, t.tx ≠ x
  sv : ∀ l ∈ hs, (setE l).2 = true
  nm : ∀ x ∈ xs, x.node = c.node ∧ countsB x.boot = true ∧ countsB x.n = true
theorem AgP.new (n : Int) : AgP ⟨n, 0, 1, []⟩ [] [] [] [] := ⟨AgrW.new n, rfl, fun k x h => by simp at h, fun l h => (by cases h), fun x h => (by cases h)⟩
theorem AgP.less {c c' : Cd} {xs : List Txn} {hs : List (List Int)} {ys ys' : List St4} {fs : List Int} (h : AgP c xs hs ys fs) (a' : AgrW c' xs hs ys') (hn : c'.node = c.node) (hu : ∀ t ∈ c'.under, ∃ t0 ∈ c.under, t0.tx = t.tx) : AgP c' xs hs ys' fs :=
  ⟨a', h.fl, fun k x hx hf t ht e => by
    obtain ⟨t0, h0, e0⟩ := hu t ht
    exact h.ft k x hx hf t0 h0 (e0.trans e), h.sv, fun x hx => by rw [hn]; exact h.nm x hx⟩
theorem AgrW.up {c : Cd} {txs : List Txn} {shs : List (List Int)} {yes : List St4} (h : AgrW c txs shs yes) {k : Nat} {y : St4} (hy : yes[k]? = some y) (i : Int) : AgrW c txs shs (yes.set k (y.put i)) := by
  have hal := (List.getElem?_eq_some_iff.1 hy).1
  refine ⟨h.wf, fun u hu => ?_, h.ol, by simpa using h.ln, h.di⟩
  obtain ⟨m, l, z, k1, k2, k3, k4, k5, k6⟩ := h.kn u hu
  by_cases hk : m = k
  · subst hk
    rw [hy] at k3
    injection k3 with k3
    subst k3
    exact ⟨m, l, y.put i, k1, k2, by rw [List.getElem?_set_self hal], k4, fun hn => St4.le_trans (k5 hn) (St4.le_put y i), fun hn => St4.le_trans (k6 hn) (St4.le_put y i)⟩
  · exact ⟨m, l, z, k1, k2, by rw [List.getElem?_set_ne (Ne.symm hk)]; exact k3, k4, k5, k6⟩
theorem under_cut {c : Cd} (j : Nat) : ∀ t ∈ (c.cut j).under, ∃ t0 ∈ c.under, t0.tx = t.tx := fun t ht => ⟨t, List.mem_of_mem_eraseIdx ht, rfl⟩
theorem under_say {c : Cd} {j : Nat} {t0 : Trn} (i : Int) (hj : c.under[j]? = some t0) : ∀ t ∈ (c.say j t0 i).under, ∃ t0 ∈ c.under, t0.tx = t.tx := fun t ht => by
  rcases List.mem_or_eq_of_mem_set ht with ht | rfl
  · exact ⟨t, ht, rfl⟩
  · exact ⟨t0, List.mem_of_getElem? hj, rfl⟩
theorem AgP.drop {c : Cd} {xs : List Txn} {hs : List (List Int)} {ys : List St4} {fs : List Int} (h : AgP c xs hs ys fs) (x : Txn) : AgP (c.drop x).2 xs hs ys fs := by
  refine h.less (h.a.drop x) ?_ ?_
  · rcases drop_cases c x with e | ⟨j, t, _, _, e⟩ <;> rw [e] <;> rfl
  · rcases drop_cases c x with e | ⟨j, t, _, _, e⟩ <;> rw [e]
    · exact fun t ht => ⟨t, ht, rfl⟩
    · exact under_cut j
theorem AgP.ack {c : Cd} {xs : List Txn} {hs : List (List Int)} {ys : List St4} {fs : List Int} (h : AgP c xs hs ys fs) (x : Txn) (i : Int) : AgP (c.ack x i).2.2 xs hs ys fs := by
  refine h.less (h.a.ack x i) ?_ ?_
  · rcases ack_cases c x i with e | ⟨j, t, _, _, e⟩ <;> rw [e] <;> rfl
  · rcases ack_cases c x i with e | ⟨j, t, hj, _, e⟩ <;> rw [e]
    · exact fun t ht => ⟨t, ht, rfl⟩
    · exact under_say i hj
theorem AgP.over {c : Cd} {xs : List Txn} {hs : List (List Int)} {ys : List St4} {fs : List Int} (h : AgP c xs hs ys fs) (x : Txn) : AgP (c.over x).2 xs hs ys fs := by
  refine h.less (h.a.over x) ?_ ?_
  · rcases over_cases c x with e | ⟨j, t, _, _, e⟩ <;> rw [e] <;> rfl
  · rcases over_cases c x with e | ⟨j, t, _, _, e⟩ <;> rw [e]
    · exact fun t ht => ⟨t, ht, rfl⟩
    · exact under_cut j
theorem AgP.live {c : Cd} {xs : List Txn} {hs : List (List Int)} {ys : List St4} {fs : List Int} (h : AgP c xs hs ys fs) (l : List UInt8) (n : Int) (e : c.redo l = c.live n) : AgP (c.redo l).2 xs hs ys fs := by
  refine h.less (h.a.live l n e) ?_ ?_ <;> rw [e] <;> unfold Cd.live
  · split <;> rfl
  · split
    · exact fun t ht => ⟨t, ht, rfl⟩
    · exact fun t ht => ⟨t, (List.mem_filter.1 ht).1, rfl⟩
theorem AgP.fin {c : Cd} {xs : List Txn} {hs : List (List Int)} {ys : List St4} {fs : List Int} (h : AgP c xs hs ys fs) {x : Txn} {S : St4} {t0 : Trn} (hm : t0 ∈ c.under) (hq : askedB x t0 = true) (hall : t0.all = true) (hS : t0.sh = S) (b1 : countsB x.boot = true) (b2 : countsB x.n = true) : AgP (c.finish x S).2 xs hs ys fs := by
  have htx : t0.tx = x := Txn.eq_of (by unfold askedB at hq; rw [Bool.and_eq_true] at hq; exact hq.1)
  have hput : ∀ C : Cd, C.node = c.node → (∀ t ∈ C.under, ∃ t1 ∈ c.under, t1.tx = t.tx) → (C.put x S).2.node = c.node ∧ ∀ t ∈ (C.put x S).2.under, ∃ t1 ∈ c.under, t1.tx = t.tx := fun C hn hu => by
    rcases put_cases C x S with e | ⟨_, e⟩ <;> rw [e]
    · exact ⟨hn, hu⟩
    · refine ⟨hn, fun t ht => ?_⟩
      rcases List.mem_append.1 ht with ht | ht
      · exact hu t ht
      · rw [List.mem_singleton.1 ht]; exact ⟨t0, hm, htx⟩
  have hc : (c.finish x S).2.node = c.node ∧ ∀ t ∈ (c.finish x S).2.under, ∃ t1 ∈ c.under, t1.tx = t.tx := by
    rcases finish_cases c x S with e | ⟨_, ⟨_, e⟩ | ⟨j, t, hj, _, _, _, e⟩⟩ <;> rw [e]
    · exact ⟨rfl, fun t ht => ⟨t, ht, rfl⟩⟩
    · exact hput c rfl (fun t ht => ⟨t, ht, rfl⟩)
    · exact hput _ rfl (under_cut j)
  exact h.less (h.a.finish hm hq hall hS b1 b2) hc.1 hc.2
/-- A name is given. -/
theorem AgP.given {c : Cd} {xs : List Txn} {hs : List (List Int)} {ys : List St4} {fs : List Int} (h : AgP c xs hs ys fs) {l : List Int} (h0 : (c.begin l).1.2 = 0) : AgP (c.begin l).2 (xs ++ [(c.begin l).1.1]) (hs ++ [l]) (ys ++ [St4.none]) (fs ++ [0]) := by
  have hA := h.a.given h0
  obtain ⟨e1, e2⟩ := begin_ok h0
  have hb : c.life ≠ 0 ∧ ¬ (8 ≤ c.under.length ∨ 2147483647 ≤ c.next) := by
    unfold Cd.begin at h0
    split at h0
    · dsimp only at h0; omega
    · split at h0
      · dsimp only at h0; omega
      · split at h0
        · dsimp only at h0; omega
        · rename_i q1 _ q3; exact ⟨q1, q3⟩
  have hl := h.a.wf.lf
  have hx := h.a.wf.nx
  refine ⟨hA, by simp [h.fl], fun k x hk hf t ht e => ?_, fun m hm => ?_, fun x hx => ?_⟩
  · by_cases hkl : k < xs.length
    · have hk' := hk
      rw [List.getElem?_append_left hkl] at hk
      rw [List.getElem?_append_left (by rw [h.fl]; exact hkl)] at hf
      rw [e2] at ht
      rcases List.mem_append.1 ht with ht | ht
      · exact h.ft k x hk hf t ht e
      · rw [List.mem_singleton.1 ht] at e
        have : k = xs.length := hA.di k xs.length x hk' (by rw [List.getElem?_append_right (Nat.le_refl _), Nat.sub_self]; rw [← e, e2]; rfl)
        omega
    · rw [List.getElem?_append_right (by rw [h.fl]; omega)] at hf
      have : k - fs.length = 0 := by
        rcases Nat.eq_zero_or_pos (k - fs.length) with h0 | h0
        · exact h0
        · rw [List.getElem?_eq_none (by simp; omega)] at hf; cases hf
      rw [this] at hf
      injection hf with hf
      omega
  · rcases List.mem_append.1 hm with hm | hm
    · exact h.sv m hm
    · rw [List.mem_singleton.1 hm]; exact e1
  · rw [e2] at hx ⊢
    rcases List.mem_append.1 hx with hx | hx
    · exact h.nm x hx
    · rw [List.mem_singleton.1 hx]
      refine ⟨rfl, ?_, ?_⟩ <;> unfold countsB <;> simp <;> omega
/-- A vote: what it does, and what its record does. -/
theorem vote_not {c : Cd} {x : Txn} {i : Int} (h : (c.vote x i true).2.1 ≠ 0) : (c.vote x i true).2.2 = c ∧ (c.vote x i true).1 = none := by
  unfold Cd.vote at *
  split
  · exact ⟨rfl, rfl⟩
  · rename_i t ht
    rw [ht] at h
    dsimp only at h ⊢
    split
    · rename_i hh
      rw [if_pos hh] at h
      rw [if_pos rfl] at h ⊢
      split at h <;> exact absurd rfl h
    · exact ⟨rfl, rfl⟩
theorem vote_nay {c : Cd} {x : Txn} {i : Int} : ((c.vote x i false).2.2 = c ∨ (c.vote x i false).2.2 = (c.drop x).2) ∧ (c.vote x i false).1 = none := by
  unfold Cd.vote
  split
  · exact ⟨Or.inl rfl, rfl⟩
  · split
    · rw [if_neg (by simp)]; exact ⟨Or.inr rfl, rfl⟩
    · exact ⟨Or.inl rfl, rfl⟩
theorem vote_aye {c : Cd} {x : Txn} {i : Int} (h : (c.vote x i true).2.1 = 0) : ∃ j t, c.under[j]? = some t ∧ askedB x t = true ∧ t.sh.has i = true ∧ (c.vote x i true).2.2 = c.say j t i ∧ ∀ l, (c.vote x i true).1 = some l → l = doneL x.boot.toNat x.n.toNat t.sh ∧ (t.said i).all = true := by
  unfold Cd.vote at *
  split
  · rename_i ht; rw [ht] at h; dsimp only at h; omega
  · rename_i t ht
    rw [ht] at h
    dsimp only at h ⊢
    obtain ⟨j, hj, hi⟩ : ∃ j : Nat, c.under[j]? = some t ∧ (idxF (askedB x) 0 c.under).toNat = j := by
      rcases idx_spec (askedB x) c.under 0 with ⟨_, hn⟩ | ⟨j, t', h1, h2, h3, _⟩
      · rw [find_none _ _ hn] at ht; cases ht
      · have := find_idx (askedB x) c.under 0 j t' h1 h2
        rw [ht] at this
        injection this with this
        subst this
        exact ⟨j, h2, by rw [h1]; simp⟩
    split
    · rename_i hh
      refine ⟨j, t, hj, List.find?_some ht, hh, ?_, ?_⟩
      · rw [if_pos rfl, hi]
        split <;> rfl
      · intro l hl
        rw [if_pos rfl] at hl
        split at hl
        · rename_i ha
          injection hl with hl
          exact ⟨hl.symm, ha⟩
        · cases hl
    · rename_i hh
      rw [if_neg hh] at h
      dsimp only at h
      omega
theorem has_rng {s : St4} {i : Int} (h : s.has i = true) : 0 ≤ i ∧ i < 4 := by
  unfold St4.has at h
  repeat' split at h
  all_goals (first | omega | cases h)
theorem AgP.nay {c : Cd} {xs : List Txn} {hs : List (List Int)} {ys : List St4} {fs : List Int} (h : AgP c xs hs ys fs) (x : Txn) (i : Int) : AgP (c.vote x i false).2.2 xs hs ys fs := by
  rcases (vote_nay (c := c) (x := x) (i := i)).1 with e | e <;> rw [e]
  · exact h
  · exact h.drop x
theorem AgP.aye {c : Cd} {xs : List Txn} {hs : List (List Int)} {ys : List St4} {fs : List Int} (h : AgP c xs hs ys fs) {x : Txn} {k : Nat} {y : St4} {i : Int} (hx : xs[k]? = some x) (hy : ys[k]? = some y) (h0 : (c.vote x i true).2.1 = 0) :
    (0 ≤ i ∧ i < 4) ∧ AgP (c.vote x i true).2.2 xs hs (ys.set k (y.put i)) fs ∧ ∀ l, (c.vote x i true).1 = some l → AgP ((c.vote x i true).2.2.redo l).2 xs hs (ys.set k (y.put i)) fs := by
  obtain ⟨j, t, hj, ha, hh, e, hr⟩ := vote_aye h0
  have hA : AgP (c.say j t i) xs hs (ys.set k (y.put i)) fs := h.less (h.a.said i hx hy hj ha) rfl (under_say i hj)
  refine ⟨has_rng hh, by rw [e]; exact hA, fun l hl => ?_⟩
  obtain ⟨rfl, hall⟩ := hr l hl
  have htx : t.tx = x := Txn.eq_of (by unfold askedB at ha; rw [Bool.and_eq_true] at ha; exact ha.1)
  obtain ⟨n1, n2, n3⟩ := h.nm x (List.mem_of_getElem? hx)
  have b1 := counts_iff n2
  have b2 := counts_iff n3
  have hjl := (List.getElem?_eq_some_iff.1 hj).1
  have hmem : t.said i ∈ (c.say j t i).under := List.mem_of_getElem? (i := j) (by show (c.under.set j (t.said i))[j]? = _; rw [List.getElem?_set_self hjl])
  obtain ⟨km, lm, ym, _, k2, _, k4, _, _⟩ := h.a.kn t (List.mem_of_getElem? hj)
  have hS : t.sh.eq St4.none = false := set_some k4
  rw [e, redo_done _ _ _ _ (by omega) (by omega) hS]
  have hX : (⟨(c.say j t i).node, (x.boot.toNat : Int), (x.n.toNat : Int)⟩ : Txn) = x := by
    obtain ⟨xa, xb, xc⟩ := x
    dsimp only at n1 b1 b2 ⊢
    rw [n1]
    show Txn.mk c.node _ _ = _
    congr 1 <;> omega
  rw [hX]
  exact hA.fin hmem ha hall rfl n2 n3
/-- The votes that are not heard. -/
theorem AgP.mute {c : Cd} {xs : List Txn} {hs : List (List Int)} {ys : List St4} {fs : List Int} (h : AgP c xs hs ys fs) {x : Txn} {i : Int} (h0 : (c.vote x i true).2.1 ≠ 0) : AgP (c.vote x i true).2.2 xs hs ys fs := by
  rw [(vote_not h0).1]; exact h
theorem AgP.none {c : Cd} {hs : List (List Int)} {ys : List St4} {fs : List Int} (h : AgP c [] hs ys fs) : c.under = [] := by
  cases hu : c.under with
  | nil => rfl
  | cons t r =>
    obtain ⟨k, _, _, h1, _⟩ := h.a.kn t (by rw [hu]; exact List.mem_cons_self)
    cases h1
theorem AgP.alone {c : Cd} {hs : List (List Int)} {ys : List St4} {fs : List Int} (h : AgP c [] hs ys fs) (x : Txn) (i : Int) : (c.vote x i true).2.1 ≠ 0 := by
  unfold Cd.vote
  rw [h.none]
  show (9 : Int) ≠ 0
  omega
/-- A record of Boot, of Ack. -/
theorem AgP.redo3 {c : Cd} {xs : List Txn} {hs : List (List Int)} {ys : List St4} {fs : List Int} (h : AgP c xs hs ys fs) (l : List UInt8) (hl : numV 1 l ≠ 2) : AgP (c.redo l).2 xs hs ys fs := by
  rcases redo_cases c l with e | ⟨n, hk, hn, hc, e⟩ | ⟨X, S, hk, h1, h2, e⟩ | ⟨X, hk, e⟩
  · rw [e]; exact h
  · exact h.live l n e
  · exact absurd hk hl
  · rw [e]; exact h.over X
theorem ack_rec {c : Cd} {x : Txn} {i : Int} {l : List UInt8} (h : (c.ack x i).1 = some l) : numV 1 l = 3 := by
  unfold Cd.ack at h
  cases hf : c.under.find? (doneB x) with
  | none => rw [hf] at h; cases h
  | some t =>
    rw [hf] at h
    dsimp only at h
    split at h
    · split at h
      · injection h with h
        rw [← h]
        show numV 1 ([3] ++ num4 _ ++ num4 _) = 3
        rw [List.append_assoc, List.singleton_append, numV_one]; rfl
      · cases h
    · cases h
/-- What is told. -/
theorem AgP.fate {c : Cd} {xs : List Txn} {hs : List (List Int)} {ys : List St4} {fs : List Int} (h : AgP c xs hs ys fs) {k : Nat} {x : Txn} (hx : xs[k]? = some x) : AgP c xs hs ys (fs.set k (c.ask x)) := by
  refine ⟨h.a, by simpa using h.fl, fun j z hz hf t ht e => ?_, h.sv, h.nm⟩
  by_cases hj : j = k
  · subst hj
    rw [List.getElem?_set_self (by rw [h.fl]; exact (List.getElem?_eq_some_iff.1 hx).1)] at hf
    injection hf with hf
    rw [hx] at hz
    injection hz with hz
    have := ask_dropped hf t ht
    rw [e, ← hz, Txn.eq_self] at this
    cases this
  · rw [List.getElem?_set_ne (Ne.symm hj)] at hf
    exact h.ft j z hz hf t ht e
theorem setGo_in : ∀ (l : List Int) (s r : St4) (last : Int), -1 ≤ last → setGo s last l = some r → ∀ i ∈ l, (0 ≤ i ∧ i < 4) ∧ r.has i = true
  | [], _, _, _, _, _, i, hi => by cases hi
  | x :: t, s, r, last, hl, h, i, hi => by
    rw [setGo] at h
    split at h
    · cases h
    · split at h
      · cases h
      · rename_i q1 q2
        rcases List.mem_cons.1 hi with rfl | hi
        · refine ⟨by omega, ?_⟩
          have hle := setGo_le t _ r i h
          rcases (by omega : i = 0 ∨ i = 1 ∨ i = 2 ∨ i = 3) with rfl | rfl | rfl | rfl
          · exact hle.1 rfl
          · exact hle.2.1 rfl
          · exact hle.2.2.1 rfl
          · exact hle.2.2.2 rfl
        · exact setGo_in t _ r x (by omega) h i hi
theorem setE_in {l : List Int} (h : (setE l).2 = true) : ∀ i ∈ l, (0 ≤ i ∧ i < 4) ∧ (setE l).1.has i = true := by
  unfold setE at *
  cases hg : setGo St4.none (-1) l with
  | none => rw [hg] at h; cases h
  | some s => exact setGo_in l _ s (-1) (by omega) hg
theorem St4.le_has {a b : St4} (h : a.le b) {i : Int} (hi : a.has i = true) : b.has i = true := by
  unfold St4.has at *
  obtain ⟨h1, h2, h3, h4⟩ := h
  split
  · rw [if_pos (by assumption)] at hi; exact h1 hi
  · rename_i q1
    rw [if_neg q1] at hi
    split
    · rw [if_pos (by assumption)] at hi; exact h2 hi
    · rename_i q2
      rw [if_neg q2] at hi
      split
      · rw [if_pos (by assumption)] at hi; exact h3 hi
      · rename_i q3
        rw [if_neg q3] at hi
        split
        · rw [if_pos (by assumption)] at hi; exact h4 hi
        · rename_i q4
          rw [if_neg q4] at hi; cases hi
/-- The shards of a name are 0 to 3. -/
theorem AgP.rng {c : Cd} {xs : List Txn} {hs : List (List Int)} {ys : List St4} {fs : List Int} (h : AgP c xs hs ys fs) {k : Nat} {l : List Int} (hl : hs[k]? = some l) : ∀ i ∈ l, 0 ≤ i ∧ i < 4 := fun i hi => (setE_in (h.sv l (List.mem_of_getElem? hl)) i hi).1
/-- What is told Done: all voted, and it was never told Dropped. -/
theorem AgP.ok {c : Cd} {xs : List Txn} {hs : List (List Int)} {ys : List St4} {fs : List Int} (h : AgP c xs hs ys fs) {k : Nat} {x : Txn} {l : List Int} {y : St4} {f : Int} (hx : xs[k]? = some x) (hl : hs[k]? = some l) (hy : ys[k]? = some y) (hf : fs[k]? = some f) (ha : c.ask x = 1) : l.all y.has = true ∧ f ≠ 2 := by
  refine ⟨List.all_eq_true.2 (fun i hi => St4.le_has (h.a.done hx hl hy ha) (setE_in (h.sv l (List.mem_of_getElem? hl)) i hi).2), fun e => ?_⟩
  subst e
  obtain ⟨t, ht, e, _⟩ := ask_done ha
  exact h.ft k x hx hf t ht e
end Go.Proofs.Ytleghofpabdkhaa
