/- Coord: no name is given twice, in plain words. No walk. -/
import Derived.Test.YtleghofpabdkhaaY22
namespace Go.Proofs.Ytleghofpabdkhaa
open Go Go.RowKit

theorem byte_at (n d : Nat) : (UInt8.ofNat (n / d)).toNat = n / d % 256 := UInt8.toNat_ofNat'
theorem numV_num4 (n : Nat) (l : List UInt8) (h : n ≤ 4294967295) : numV 4 (num4 n ++ l) = n := by
  unfold numV
  rw [if_neg (by rw [List.length_append, num4_len]; omega), List.take_left' (num4_len n)]
  unfold num4
  simp only [valN, List.foldl_cons, List.foldl_nil, UInt8.toNat_ofNat']
  omega
theorem restV_num4 (n : Nat) (l : List UInt8) : restV 4 (num4 n ++ l) = l := by
  unfold restV
  rw [if_neg (by rw [List.length_append, num4_len]; omega), List.drop_left' (num4_len n)]
theorem numV_one (b : UInt8) (l : List UInt8) : numV 1 (b :: l) = b.toNat := by
  unfold numV
  rw [if_neg (by rw [List.length_cons]; omega)]
  simp [valN]
theorem restV_one (b : UInt8) (l : List UInt8) : restV 1 (b :: l) = l := by
  unfold restV
  rw [if_neg (by rw [List.length_cons]; omega)]
  rfl
theorem redo_boot (c : Cd) (n : Nat) (h1 : 1 ≤ n) (h2 : n ≤ 2147483647) : c.redo (1 :: num4 n) = c.live (n : Int) := by
  unfold Cd.redo
  have e : restV 4 (num4 n) = [] := by have := restV_num4 n []; rwa [List.append_nil] at this
  have e2 : numV 4 (num4 n) = n := by have := numV_num4 n [] (by omega); rwa [List.append_nil] at this
  rw [numV_one, restV_one, e, e2, if_pos (show (1 : UInt8).toNat = 1 from rfl), if_pos ⟨by unfold countsB; simp; omega, rfl⟩]
/-- What a record that is not taken leaves. -/
theorem redo_fail {z c : Cd} {l : List UInt8} (h : Sim z c) (hf : (c.redo l).1 ≠ 0) : Sim z (c.redo l).2 := by
  rcases redo_cases c l with e | ⟨n, _, _, _, e⟩ | ⟨X, S, _, _, _, e⟩ | ⟨X, _, e⟩
  · rw [e]; exact h
  · rw [e] at hf ⊢
    unfold Cd.live at *
    split
    · exact h
    · rename_i hn
      rw [if_neg hn] at hf
      exact absurd rfl hf
  · rw [e] at hf ⊢
    have hput : ∀ C : Cd, Sim z C → (C.put X S).1 ≠ 0 → Sim z (C.put X S).2 := fun C hC hp => by
      unfold Cd.put at *
      split
      · exact hC
      · rename_i hn
        rw [if_neg hn] at hp
        exact absurd rfl hp
    rcases finish_cases c X S with e2 | ⟨_, ⟨_, e2⟩ | ⟨j, t, hj, ha, _, _, e2⟩⟩
    · rw [e2]; exact h
    · rw [e2] at hf ⊢; exact hput c h hf
    · rw [e2] at hf ⊢; exact hput _ (h.cut hj (asked_dn ha)) hf
  · rw [e] at hf ⊢
    unfold Cd.over at *
    cases hq : c.under.find? (doneB X) with
    | none => exact h
    | some t => rw [hq] at hf; exact absurd rfl hf
/-- Records redone by a node, one after another. -/
def replay : List (List UInt8) → Cd → Option Cd
  | [], c => some c
  | l :: ls, c => if (c.redo l).1 = 0 then replay ls (c.redo l).2 else none
theorem replay_snoc : ∀ (ls : List (List UInt8)) (l : List UInt8) (c z : Cd), replay ls c = some z → (z.redo l).1 = 0 → replay (ls ++ [l]) c = some (z.redo l).2
  | [], l, c, z, h, hz => by
    injection h with h
    subst h
    simp only [List.nil_append, replay]
    rw [if_pos hz]
  | m :: ls, l, c, z, h, hz => by
    simp only [List.cons_append, replay] at h ⊢
    split
    · rename_i h1
      rw [if_pos h1] at h
      exact replay_snoc ls l _ z h hz
    · rename_i h1
      rw [if_neg h1] at h
      cases h
theorem replay_keep : ∀ (ls : List (List UInt8)) (c z : Cd), Wf c → replay ls c = some z → Wf z
  | [], c, z, hw, h => by injection h with h; subst h; exact hw
  | m :: ls, c, z, hw, h => by
    simp only [replay] at h
    split at h
    · exact replay_keep ls _ z (redo_keep hw m).1 h
    · cases h
/-- Where the script stands: its node, its records, the names that were given. -/
structure TxsW (c : Cd) (log : List (List UInt8)) (txs : List Txn) (k : Nat) : Prop where
  re : ∃ z, replay log ⟨2, 0, 1, []⟩ = some z ∧ Sim z c
  wf : Wf c
  lf : c.life ≤ (k : Int)
  ol : ∀ x ∈ txs, Old c x
theorem TxsW.new : TxsW ⟨2, 0, 1, []⟩ [] [] 0 := ⟨⟨_, rfl, ⟨rfl, rfl, fun t ht => (by cases ht), rfl⟩⟩, Wf.new 2, by dsimp only; omega, fun x hx => by cases hx⟩
theorem TxsW.more {c : Cd} {log : List (List UInt8)} {txs : List Txn} {k m : Nat} (h : TxsW c log txs k) (hm : k ≤ m) : TxsW c log txs m := ⟨h.re, h.wf, by have := h.lf; omega, h.ol⟩
theorem TxsW.begin {c : Cd} {log : List (List UInt8)} {txs : List Txn} {k : Nat} (h : TxsW c log txs k) (l : List Int) : TxsW (c.begin l).2 log txs k := by
  obtain ⟨z, h1, h2⟩ := h.re
  refine ⟨⟨z, h1, h2.begin l⟩, h.wf.begin l, ?_, fun x hx => (h.ol x hx).le (begin_le c l)⟩
  have := h.lf
  have e : (c.begin l).2.life = c.life := by unfold Cd.begin; split <;> (try split) <;> (try split) <;> rfl
  omega
theorem TxsW.given {c : Cd} {log : List (List UInt8)} {txs : List Txn} {k : Nat} (h : TxsW c log txs k) {l : List Int} (h0 : (c.begin l).1.2 = 0) : (∀ x ∈ txs, x.eq (c.begin l).1.1 = false) ∧ TxsW (c.begin l).2 log (txs ++ [(c.begin l).1.1]) k := by
  obtain ⟨b1, b2, b3⟩ := begin_new h0
  refine ⟨fun x hx => ?_, ?_⟩
  · cases he : x.eq (c.begin l).1.1 with
    | false => rfl
    | true =>
      exfalso
      apply b1
      have ho := h.ol x hx
      unfold Txn.eq at he
      simp only [Bool.and_eq_true, beq_iff_eq] at he
      obtain ⟨_, e2, e3⟩ := he
      unfold Old at ho ⊢
      rw [e2, e3] at ho
      exact ho
  · have hb := h.begin l
    refine ⟨hb.re, hb.wf, hb.lf, fun x hx => ?_⟩
    rcases List.mem_append.1 hx with hx | hx
    · exact hb.ol x hx
    · rw [List.mem_singleton.1 hx]; exact b2
theorem TxsW.vote {c : Cd} {log : List (List UInt8)} {txs : List Txn} {k : Nat} (h : TxsW c log txs k) (x : Txn) (i : Int) (yes : Bool) : TxsW (c.vote x i yes).2.2 log txs k := by
  obtain ⟨z, h1, h2⟩ := h.re
  have e : (c.vote x i yes).2.2.life = c.life := by rcases vote_cases c x i yes with e | ⟨j, t, _, _, e | ⟨_, _, e⟩⟩ <;> rw [e] <;> rfl
  exact ⟨⟨z, h1, h2.vote x i yes⟩, h.wf.vote x i yes, by rw [e]; exact h.lf, fun y hy => (h.ol y hy).le (vote_le c x i yes)⟩
theorem TxsW.ack {c : Cd} {log : List (List UInt8)} {txs : List Txn} {k : Nat} (h : TxsW c log txs k) (x : Txn) (i : Int) : TxsW (c.ack x i).2.2 log txs k := by
  obtain ⟨z, h1, h2⟩ := h.re
  have e : (c.ack x i).2.2.life = c.life := by rcases ack_cases c x i with e | ⟨j, t, _, _, e⟩ <;> rw [e] <;> rfl
  exact ⟨⟨z, h1, h2.ack x i⟩, h.wf.ack x i, by rw [e]; exact h.lf, fun y hy => (h.ol y hy).le (ack_le c x i)⟩
/-- A record is redone: it is logged just if it is taken. -/
theorem TxsW.redo {c : Cd} {log : List (List UInt8)} {txs : List Txn} {k : Nat} (h : TxsW c log txs k) (l : List UInt8) (hl : (c.redo l).2.life ≤ ((k + 1 : Nat) : Int)) : TxsW (c.redo l).2 (if (c.redo l).1 = 0 then log ++ [l] else log) txs (k + 1) := by
  obtain ⟨z, h1, h2⟩ := h.re
  obtain ⟨w1, w2, _⟩ := redo_keep h.wf l
  refine ⟨?_, w1, hl, fun x hx => (h.ol x hx).le w2⟩
  by_cases h0 : (c.redo l).1 = 0
  · rw [if_pos h0]
    obtain ⟨z', q1, q2⟩ := sim_redo h2 (c' := (c.redo l).2) (by rw [← h0])
    exact ⟨(z.redo l).2, replay_snoc log l _ z h1 (by rw [q1]), by rw [q1]; exact q2⟩
  · rw [if_neg h0]
    exact ⟨z, h1, redo_fail h2 h0⟩
/-- A node that begins anew of the records, and lives once more. -/
theorem TxsW.anew {c z : Cd} {log : List (List UInt8)} {txs : List Txn} {k n : Nat} (h : TxsW c log txs k) (hz : replay log ⟨2, 0, 1, []⟩ = some z) (hn : z.life = (n : Int)) (hk : k ≤ 2147483646) :
    (z.redo (1 :: num4 (n + 1))).1 = 0 ∧ TxsW (z.redo (1 :: num4 (n + 1))).2 (log ++ [1 :: num4 (n + 1)]) txs (k + 1) := by
  obtain ⟨z0, h1, h2⟩ := h.re
  rw [hz] at h1
  injection h1 with h1
  subst h1
  have hlf := h.lf
  have hcl := h2.lf
  have hr := redo_boot z (n + 1) (by omega) (by omega)
  have hlv : z.live ((n + 1 : Nat) : Int) = (0, { z with life := ((n + 1 : Nat) : Int), next := 1, under := z.under.filter (·.dn) }) := by
    unfold Cd.live
    rw [if_neg (by omega)]
  have h0 : (z.redo (1 :: num4 (n + 1))).1 = 0 := by rw [hr, hlv]
  have hwz := replay_keep log _ z (Wf.new 2) hz
  refine ⟨h0, ⟨(z.redo (1 :: num4 (n + 1))).2, replay_snoc log _ _ z hz h0, rfl, rfl, fun t ht => ?_, rfl⟩, (redo_keep hwz _).1, ?_, fun x hx => ?_⟩
  · rw [hr, hlv] at ht
    exact (List.mem_filter.1 ht).2
  · rw [hr, hlv]
    dsimp only
    omega
  · rw [hr, hlv]
    have ho := h.ol x hx
    unfold Old at ho ⊢
    dsimp only
    omega
end Go.Proofs.Ytleghofpabdkhaa
