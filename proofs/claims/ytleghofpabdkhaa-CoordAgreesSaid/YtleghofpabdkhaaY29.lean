/- Coord: the record of one that is done, read again; fates, in plain words. No walk. -/
import Derived.Test.YtleghofpabdkhaaY28
import Derived.Test.YtleghofpabdkhaaY10
namespace Go.Proofs.Ytleghofpabdkhaa
open Go Go.RowKit

theorem setGo_le : ∀ (l : List Int) (s r : St4) (last : Int), setGo s last l = some r → s.le r
  | [], s, r, last, h => by
    injection h with h
    subst h
    exact St4.le_refl _
  | x :: t, s, r, last, h => by
    rw [setGo] at h
    split at h
    · cases h
    · split at h
      · cases h
      · exact St4.le_trans (St4.le_put s x) (setGo_le t _ r x h)
theorem set_some {l : List Int} {S : St4} (h : setE l = (S, true)) : S.eq St4.none = false := by
  unfold setE at h
  cases hg : setGo St4.none (-1) l with
  | none => rw [hg] at h; injection h with _ h; cases h
  | some s =>
    rw [hg] at h
    injection h with h1 h2
    subst h1
    cases l with
    | nil => simp at h2
    | cons x t =>
      rw [setGo] at hg
      split at hg
      · cases hg
      · split at hg
        · cases hg
        · have hle := setGo_le t _ _ x hg
          rename_i q1 q2
          cases he : s.eq St4.none with
          | false => rfl
          | true =>
            rw [St4.eq_of he] at hle
            rcases (by omega : x = 0 ∨ x = 1 ∨ x = 2 ∨ x = 3) with rfl | rfl | rfl | rfl
            · exact absurd (hle.1 rfl) (by decide)
            · exact absurd (hle.2.1 rfl) (by decide)
            · exact absurd (hle.2.2.1 rfl) (by decide)
            · exact absurd (hle.2.2.2 rfl) (by decide)
theorem set_list (S : St4) (h : S.eq St4.none = false) : setE (shards (listTo S 4)) = (S, true) := by
  obtain ⟨a, b, c, d⟩ := S
  cases a <;> cases b <;> cases c <;> cases d <;> first | rfl | (exact absurd h (by decide))
theorem redo_done (c : Cd) (nb nn : Nat) (S : St4) (h1 : 1 ≤ nb ∧ nb ≤ 2147483647) (h2 : 1 ≤ nn ∧ nn ≤ 2147483647) (hS : S.eq St4.none = false) : c.redo (doneL nb nn S) = c.finish ⟨c.node, (nb : Int), (nn : Int)⟩ S := by
  have hd : doneL nb nn S = 2 :: (num4 nb ++ (num4 nn ++ (UInt8.ofNat (listTo S 4).length :: listTo S 4))) := by
    unfold doneL
    simp
  have hlen := listTo_len S 4
  have e1 := numV_num4 nb (num4 nn ++ (UInt8.ofNat (listTo S 4).length :: listTo S 4)) (by omega)
  have e2 := restV_num4 nb (num4 nn ++ (UInt8.ofNat (listTo S 4).length :: listTo S 4))
  have e3 := numV_num4 nn (UInt8.ofNat (listTo S 4).length :: listTo S 4) (by omega)
  have e4 := restV_num4 nn (UInt8.ofNat (listTo S 4).length :: listTo S 4)
  have hX : nmX c (num4 nb ++ (num4 nn ++ (UInt8.ofNat (listTo S 4).length :: listTo S 4))) = ⟨c.node, (nb : Int), (nn : Int)⟩ := by unfold nmX; rw [e1, e2, e3]
  have hL : nmL (num4 nb ++ (num4 nn ++ (UInt8.ofNat (listTo S 4).length :: listTo S 4))) = UInt8.ofNat (listTo S 4).length :: listTo S 4 := by unfold nmL; rw [e2, e4]
  have hR : nmR c (num4 nb ++ (num4 nn ++ (UInt8.ofNat (listTo S 4).length :: listTo S 4))) = true := by unfold nmR; rw [hX]; unfold countsB; simp; omega
  have hrs : rsS (UInt8.ofNat (listTo S 4).length :: listTo S 4) = S := by unfold rsS; rw [restV_one, set_list S hS]
  have hrr : rsR (UInt8.ofNat (listTo S 4).length :: listTo S 4) = true := by
    unfold rsR
    rw [restV_one, set_list S hS, numV_one, UInt8.toNat_ofNat']
    simp only [Bool.true_and, decide_eq_true_eq]
    omega
  rw [hd]
  unfold Cd.redo
  rw [numV_one, restV_one, hX, hL, hR, hrs, hrr, if_neg (show ¬ (2 : UInt8).toNat = 1 by decide), if_pos (show (2 : UInt8).toNat = 2 from rfl), if_pos ⟨rfl, rfl⟩]
/-- What Done and Dropped tell. -/
theorem ask_done {c : Cd} {x : Txn} (h : c.ask x = 1) : ∃ t ∈ c.under, t.tx = x ∧ t.dn = true := by
  unfold Cd.ask at h
  split at h
  · omega
  · split at h
    · omega
    · split at h
      · omega
      · split at h
        · rename_i hd
          obtain ⟨t, ht, hq⟩ := List.any_eq_true.1 hd
          exact ⟨t, ht, Txn.eq_of (by unfold doneB at hq; rw [Bool.and_eq_true] at hq; exact hq.1), done_dn hq⟩
        · omega
theorem ask_dropped {c : Cd} {x : Txn} (h : c.ask x = 2) : ∀ t ∈ c.under, t.tx.eq x = false := by
  unfold Cd.ask at h
  split at h
  · omega
  · split at h
    · omega
    · split at h
      · omega
      · split at h
        · omega
        · rename_i ha hd
          intro t ht
          cases he : t.tx.eq x with
          | false => rfl
          | true =>
            exfalso
            cases hdn : t.dn with
            | true => exact hd (List.any_eq_true.2 ⟨t, ht, by unfold doneB; rw [he, hdn]; rfl⟩)
            | false => exact ha (List.any_eq_true.2 ⟨t, ht, by unfold askedB; rw [he, hdn]; rfl⟩)
/-- What is told Done was voted by all its shards. -/
theorem AgrW.done {c : Cd} {txs : List Txn} {shs : List (List Int)} {yes : List St4} (h : AgrW c txs shs yes) {k : Nat} {x : Txn} {l : List Int} {y : St4} (hx : txs[k]? = some x) (hl : shs[k]? = some l) (hy : yes[k]? = some y) (ha : c.ask x = 1) : (setE l).1.le y := by
  obtain ⟨t, ht, he, hd⟩ := ask_done ha
  obtain ⟨k', l', y', k1, k2, k3, k4, _, k6⟩ := h.kn t ht
  rw [he] at k1
  have hk := h.di k' k x k1 hx
  subst hk
  rw [hl] at k2
  rw [hy] at k3
  injection k2 with k2
  injection k3 with k3
  subst k2 k3
  rw [k4]
  exact k6 hd
end Go.Proofs.Ytleghofpabdkhaa
