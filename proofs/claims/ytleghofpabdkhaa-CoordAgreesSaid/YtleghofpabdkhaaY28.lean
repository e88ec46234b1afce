/- Coord: what is done was voted by all, in plain words. No walk. -/
import Derived.Test.YtleghofpabdkhaaY27
namespace Go.Proofs.Ytleghofpabdkhaa
open Go Go.RowKit

/-- One set is in another. -/
def St4.le (a b : St4) : Prop := (a.a = true → b.a = true) ∧ (a.b = true → b.b = true) ∧ (a.c = true → b.c = true) ∧ (a.d = true → b.d = true)
theorem St4.le_refl (a : St4) : a.le a := ⟨id, id, id, id⟩
theorem St4.le_trans {a b c : St4} (h : a.le b) (k : b.le c) : a.le c := ⟨k.1 ∘ h.1, k.2.1 ∘ h.2.1, k.2.2.1 ∘ h.2.2.1, k.2.2.2 ∘ h.2.2.2⟩
theorem St4.none_le (a : St4) : St4.none.le a := ⟨(by intro h; cases h), (by intro h; cases h), (by intro h; cases h), (by intro h; cases h)⟩
theorem St4.le_put (a : St4) (i : Int) : a.le (a.put i) := by
  unfold St4.put St4.le
  split
  · simp
  · split
    · simp
    · split
      · simp
      · split <;> simp
theorem St4.put_mono {a b : St4} (h : a.le b) (i : Int) : (a.put i).le (b.put i) := by
  unfold St4.put St4.le at *
  split
  · exact ⟨fun _ => rfl, h.2.1, h.2.2.1, h.2.2.2⟩
  · split
    · exact ⟨h.1, fun _ => rfl, h.2.2.1, h.2.2.2⟩
    · split
      · exact ⟨h.1, h.2.1, fun _ => rfl, h.2.2.2⟩
      · split
        · exact ⟨h.1, h.2.1, h.2.2.1, fun _ => rfl⟩
        · exact h
theorem St4.eq_of {a b : St4} (h : a.eq b = true) : a = b := by
  obtain ⟨a1, a2, a3, a4⟩ := a
  obtain ⟨b1, b2, b3, b4⟩ := b
  cases a1 <;> cases a2 <;> cases a3 <;> cases a4 <;> cases b1 <;> cases b2 <;> cases b3 <;> cases b4 <;> first | rfl | (exact absurd h (by decide))
theorem Txn.eq_of {a b : Txn} (h : a.eq b = true) : a = b := by
  obtain ⟨a1, a2, a3⟩ := a
  obtain ⟨b1, b2, b3⟩ := b
  unfold Txn.eq at h
  simp only [Bool.and_eq_true, beq_iff_eq] at h
  obtain ⟨rfl, rfl, rfl⟩ := h
  rfl
theorem Txn.eq_self (a : Txn) : a.eq a = true := by unfold Txn.eq; simp
/-- A transaction under way is one that was begun; its votes are known. -/
def Kn (txs : List Txn) (shs : List (List Int)) (yes : List St4) (t : Trn) : Prop :=
  ∃ (k : Nat) (l : List Int) (y : St4), txs[k]? = some t.tx ∧ shs[k]? = some l ∧ yes[k]? = some y ∧ setE l = (t.sh, true) ∧ (t.dn = false → t.sd.le y) ∧ (t.dn = true → t.sh.le y)
/-- Where the script stands. -/
structure AgrW (c : Cd) (txs : List Txn) (shs : List (List Int)) (yes : List St4) : Prop where
  wf : Wf c
  kn : ∀ t ∈ c.under, Kn txs shs yes t
  ol : ∀ x ∈ txs, Old c x
  ln : shs.length = txs.length ∧ yes.length = txs.length
  di : ∀ (i j : Nat) (x : Txn), txs[i]? = some x → txs[j]? = some x → i = j
theorem AgrW.new (n : Int) : AgrW ⟨n, 0, 1, []⟩ [] [] [] := ⟨Wf.new n, fun t ht => (by cases ht), fun x hx => (by cases hx), ⟨rfl, rfl⟩, fun i j x h => by simp at h⟩
theorem AgrW.cut {c : Cd} {txs : List Txn} {shs : List (List Int)} {yes : List St4} (h : AgrW c txs shs yes) (j : Nat) : AgrW (c.cut j) txs shs yes :=
  ⟨h.wf.cut j, fun t ht => h.kn t (List.mem_of_mem_eraseIdx ht), h.ol, h.ln, h.di⟩
theorem AgrW.drop {c : Cd} {txs : List Txn} {shs : List (List Int)} {yes : List St4} (h : AgrW c txs shs yes) (x : Txn) : AgrW (c.drop x).2 txs shs yes := by
  rcases drop_cases c x with e | ⟨j, t, _, _, e⟩
  · rw [e]; exact h
  · rw [e]; exact h.cut j
theorem AgrW.ack {c : Cd} {txs : List Txn} {shs : List (List Int)} {yes : List St4} (h : AgrW c txs shs yes) (x : Txn) (i : Int) : AgrW (c.ack x i).2.2 txs shs yes := by
  rcases ack_cases c x i with e | ⟨j, t, hj, hd, e⟩
  · rw [e]; exact h
  · rw [e]
    refine ⟨h.wf.say i hj, fun u hu => ?_, h.ol, h.ln, h.di⟩
    rcases List.mem_or_eq_of_mem_set hu with hu | rfl
    · exact h.kn u hu
    · obtain ⟨k, l, y, k1, k2, k3, k4, k5, k6⟩ := h.kn t (List.mem_of_getElem? hj)
      exact ⟨k, l, y, k1, k2, k3, k4, fun hn => (by have h9 := done_dn hd; have h8 : t.dn = false := hn; rw [h9] at h8; cases h8), k6⟩
theorem Kn.more {txs txs' : List Txn} {shs shs' : List (List Int)} {yes yes' : List St4} {t : Trn} (h : Kn txs shs yes t) : Kn (txs ++ txs') (shs ++ shs') (yes ++ yes') t := by
  obtain ⟨k, l, y, k1, k2, k3, k4⟩ := h
  have g : ∀ {α : Type} (a b : List α) (z : α), a[k]? = some z → (a ++ b)[k]? = some z := fun a b z hz => by rw [List.getElem?_append_left (List.getElem?_eq_some_iff.1 hz).1]; exact hz
  exact ⟨k, l, y, g _ _ _ k1, g _ _ _ k2, g _ _ _ k3, k4⟩
theorem begin_ok {c : Cd} {l : List Int} (h : (c.begin l).1.2 = 0) : (setE l).2 = true ∧ c.begin l = ((⟨c.node, c.life, c.next⟩, 0), { c with next := c.next + 1, under := c.under ++ [⟨⟨c.node, c.life, c.next⟩, (setE l).1, St4.none, false⟩] }) := by
  unfold Cd.begin at *
  split
  · rename_i h1; rw [if_pos h1] at h; dsimp only at h; omega
  · rename_i h1
    rw [if_neg h1] at h
    split
    · rename_i h2; rw [if_pos h2] at h; dsimp only at h; omega
    · rename_i h2
      rw [if_neg h2] at h
      split
      · rename_i h3; rw [if_pos h3] at h; dsimp only at h; omega
      · exact ⟨by simpa using h2, rfl⟩
theorem begin_no {c : Cd} {l : List Int} (h : (c.begin l).1.2 ≠ 0) : (c.begin l).2 = c := by
  unfold Cd.begin at *
  split
  · rfl
  · rename_i h1
    rw [if_neg h1] at h
    split
    · rfl
    · rename_i h2
      rw [if_neg h2] at h
      split
      · rfl
      · rename_i h3
        rw [if_neg h3] at h
        exact absurd rfl h
theorem AgrW.given {c : Cd} {txs : List Txn} {shs : List (List Int)} {yes : List St4} (h : AgrW c txs shs yes) {l : List Int} (h0 : (c.begin l).1.2 = 0) : AgrW (c.begin l).2 (txs ++ [(c.begin l).1.1]) (shs ++ [l]) (yes ++ [St4.none]) := by
  obtain ⟨b1, b2, b3⟩ := begin_new h0
  obtain ⟨e1, e2⟩ := begin_ok h0
  refine ⟨h.wf.begin l, fun t ht => ?_, fun x hx => ?_, by simp [h.ln], fun i j x hi hj => ?_⟩
  · rw [e2] at ht ⊢
    rcases List.mem_append.1 ht with ht | ht
    · exact (h.kn t ht).more
    · rw [List.mem_singleton.1 ht]
      refine ⟨txs.length, l, St4.none, by simp, by rw [← h.ln.1]; simp, by rw [← h.ln.2]; simp, by rw [← e1], fun _ => St4.le_refl _, fun hn => (by cases hn)⟩
  · rcases List.mem_append.1 hx with hx | hx
    · exact (h.ol x hx).le b3
    · rw [List.mem_singleton.1 hx]; exact b2
  · have hin : ∀ (m : Nat), (txs ++ [(c.begin l).1.1])[m]? = some x → (m < txs.length ∧ txs[m]? = some x) ∨ (m = txs.length ∧ x = (c.begin l).1.1) := fun m hm => by
      by_cases hl : m < txs.length
      · rw [List.getElem?_append_left hl] at hm; exact Or.inl ⟨hl, hm⟩
      · rw [List.getElem?_append_right (by omega)] at hm
        have hm0 : m - txs.length = 0 := by
          rcases Nat.eq_zero_or_pos (m - txs.length) with h0 | h0
          · exact h0
          · rw [List.getElem?_eq_none (by simp; omega)] at hm; cases hm
        rw [hm0] at hm
        injection hm with hm
        exact Or.inr ⟨by omega, hm.symm⟩
    rcases hin i hi with ⟨_, i1⟩ | ⟨i1, i2⟩ <;> rcases hin j hj with ⟨_, j1⟩ | ⟨j1, j2⟩
    · exact h.di i j x i1 j1
    · exact absurd (h.ol x (List.mem_of_getElem? i1)) (by rw [j2]; exact b1)
    · exact absurd (h.ol x (List.mem_of_getElem? j1)) (by rw [i2]; exact b1)
    · omega
/-- A yes of one that is asked. -/
theorem AgrW.said {c : Cd} {txs : List Txn} {shs : List (List Int)} {yes : List St4} (h : AgrW c txs shs yes) {x : Txn} {at_ j : Nat} {y : St4} {t : Trn} (i : Int) (hx : txs[at_]? = some x) (hy : yes[at_]? = some y) (hj : c.under[j]? = some t) (ha : askedB x t = true) : AgrW (c.say j t i) txs shs (yes.set at_ (y.put i)) := by
  have htx : t.tx = x := Txn.eq_of (by unfold askedB at ha; rw [Bool.and_eq_true] at ha; exact ha.1)
  have hal := (List.getElem?_eq_some_iff.1 hy).1
  have hset : ∀ (k : Nat) (z : St4), yes[k]? = some z → ∃ z', (yes.set at_ (y.put i))[k]? = some z' ∧ z.le z' ∧ (k = at_ → z' = y.put i ∧ z = y) := fun k z hz => by
    by_cases hk : k = at_
    · subst hk
      rw [hy] at hz
      injection hz with hz
      subst hz
      exact ⟨y.put i, by rw [List.getElem?_set_self hal], St4.le_put y i, fun _ => ⟨rfl, rfl⟩⟩
    · exact ⟨z, by rw [List.getElem?_set_ne (Ne.symm hk)]; exact hz, St4.le_refl z, fun e => absurd e hk⟩
  refine ⟨h.wf.say i hj, fun u hu => ?_, h.ol, by simpa using h.ln, h.di⟩
  rcases List.mem_or_eq_of_mem_set hu with hu | rfl
  · obtain ⟨k, l, z, k1, k2, k3, k4, k5, k6⟩ := h.kn u hu
    obtain ⟨z', s1, s2, _⟩ := hset k z k3
    exact ⟨k, l, z', k1, k2, s1, k4, fun hn => St4.le_trans (k5 hn) s2, fun hn => St4.le_trans (k6 hn) s2⟩
  · obtain ⟨k, l, z, k1, k2, k3, k4, k5, k6⟩ := h.kn t (List.mem_of_getElem? hj)
    rw [htx] at k1
    have hk := h.di k at_ x k1 hx
    obtain ⟨z', s1, s2, s3⟩ := hset k z k3
    obtain ⟨e1, e2⟩ := s3 hk
    refine ⟨k, l, z', by show _ = some t.tx; rw [htx]; exact k1, k2, s1, k4, fun hn => ?_, fun hn => St4.le_trans (k6 hn) s2⟩
    rw [e1, ← e2]
    exact St4.put_mono (k5 hn) i
theorem AgrW.live {c : Cd} {txs : List Txn} {shs : List (List Int)} {yes : List St4} (h : AgrW c txs shs yes) (l : List UInt8) (n : Int) (e : c.redo l = c.live n) : AgrW (c.redo l).2 txs shs yes := by
  obtain ⟨w1, w2, _⟩ := redo_keep h.wf l
  refine ⟨w1, fun t ht => ?_, fun x hx => (h.ol x hx).le w2, h.ln, h.di⟩
  rw [e] at ht
  unfold Cd.live at ht
  split at ht
  · exact h.kn t ht
  · exact h.kn t (List.mem_filter.1 ht).1
theorem AgrW.over {c : Cd} {txs : List Txn} {shs : List (List Int)} {yes : List St4} (h : AgrW c txs shs yes) (x : Txn) : AgrW (c.over x).2 txs shs yes := by
  rcases over_cases c x with e | ⟨j, t, _, _, e⟩
  · rw [e]; exact h
  · rw [e]; exact h.cut j
/-- What is asked, and all said yes, is done. -/
theorem AgrW.finish {c : Cd} {txs : List Txn} {shs : List (List Int)} {yes : List St4} (h : AgrW c txs shs yes) {x : Txn} {S : St4} {t0 : Trn} (hm : t0 ∈ c.under) (hq : askedB x t0 = true) (hall : t0.all = true) (hS : t0.sh = S) (b1 : countsB x.boot = true) (b2 : countsB x.n = true) : AgrW (c.finish x S).2 txs shs yes := by
  have htx : t0.tx = x := Txn.eq_of (by unfold askedB at hq; rw [Bool.and_eq_true] at hq; exact hq.1)
  have hput : ∀ C : Cd, AgrW C txs shs yes → AgrW (C.put x S).2 txs shs yes := fun C hC => by
    obtain ⟨p1, p2, _⟩ := put_keep (S := S) hC.wf b1 b2
    refine ⟨p1, fun u hu => ?_, fun y hy => (hC.ol y hy).le p2, hC.ln, hC.di⟩
    rcases put_cases C x S with e | ⟨_, e⟩
    · rw [e] at hu; exact hC.kn u hu
    · rw [e] at hu
      rcases List.mem_append.1 hu with hu | hu
      · exact hC.kn u hu
      · rw [List.mem_singleton.1 hu]
        obtain ⟨k, l, y, k1, k2, k3, k4, k5, _⟩ := h.kn t0 hm
        refine ⟨k, l, y, by rw [k1, htx], k2, k3, by rw [k4, hS], fun hn => (by cases hn), fun _ => ?_⟩
        have h5 := k5 (asked_dn hq)
        unfold Trn.all at hall
        rw [St4.eq_of hall, hS] at h5
        exact h5
  rcases finish_cases c x S with e | ⟨_, ⟨_, e⟩ | ⟨j, t, hj, _, _, _, e⟩⟩
  · rw [e]; exact h
  · rw [e]; exact hput c h
  · rw [e]; exact hput _ (h.cut j)
end Go.Proofs.Ytleghofpabdkhaa
