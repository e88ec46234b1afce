/- Coord: where CoordTxs stands: its node, its records, the names that were given. -/
import Derived.Test.YtleghofpabdkhaaY27
import Derived.Test.YtleghofpabdkhaaY26
import Derived.Test.YtleghofpabdkhaaY24
import Derived.Test.YtleghofpabdkhaaY20
namespace Go.Proofs.Ytleghofpabdkhaa
open Go Go.RowKit

/-- The records that a node's calls make. -/
structure RecL (c : Cd) (l : List UInt8) (k : Nat) : Prop where
  ne : l ≠ []
  len : l.length ≤ 100
  life : (c.redo l).2.life ≤ ((k + 1 : Nat) : Int)
theorem doneL_len (a b : Nat) (s : St4) : (doneL a b s).length ≤ 100 := by
  have := listTo_len s 4
  unfold doneL
  simp only [List.length_append, num4_len, List.length_singleton]
  omega
theorem rec_other {c : Cd} {l : List UInt8} {k : Nat} (hw : Wf c) (hk : c.life ≤ (k : Int)) (b : UInt8) (r : List UInt8) (hl : l = b :: r) (hb : b.toNat ≠ 1) (hn : l.length ≤ 100) : RecL c l k := by
  refine ⟨by rw [hl]; exact List.cons_ne_nil _ _, hn, ?_⟩
  rw [(redo_keep hw l).2.2 (by rw [hl, numV_one]; exact hb)]
  omega
theorem rec_vote {c : Cd} {k : Nat} {l : List UInt8} (hw : Wf c) (hk : c.life ≤ (k : Int)) (x : Txn) (i : Int) (yes : Bool) (h : (c.vote x i yes).1 = some l) : RecL (c.vote x i yes).2.2 l k := by
  have e : (c.vote x i yes).2.2.life = c.life := by rcases vote_cases c x i yes with e | ⟨j, t, _, _, e | ⟨_, _, e⟩⟩ <;> rw [e] <;> rfl
  have hl : l = doneL x.boot.toNat x.n.toNat (match c.under.find? (askedB x) with | some t => t.sh | none => St4.none) := by
    unfold Cd.vote at h
    cases hf : c.under.find? (askedB x) with
    | none => rw [hf] at h; cases h
    | some t =>
      rw [hf] at h
      dsimp only at h
      split at h
      · split at h
        · split at h
          · injection h with h; exact h.symm
          · cases h
        · cases h
      · cases h
  exact rec_other (hw.vote x i yes) (by rw [e]; exact hk) 2 _ (by rw [hl]; rfl) (by decide) (by rw [hl]; exact doneL_len _ _ _)
theorem rec_ack {c : Cd} {k : Nat} {l : List UInt8} (hw : Wf c) (hk : c.life ≤ (k : Int)) (x : Txn) (i : Int) (h : (c.ack x i).1 = some l) : RecL (c.ack x i).2.2 l k := by
  have e : (c.ack x i).2.2.life = c.life := by rcases ack_cases c x i with e | ⟨j, t, _, _, e⟩ <;> rw [e] <;> rfl
  have hl : l = [3] ++ num4 x.boot.toNat ++ num4 x.n.toNat := by
    unfold Cd.ack at h
    cases hf : c.under.find? (doneB x) with
    | none => rw [hf] at h; cases h
    | some t =>
      rw [hf] at h
      dsimp only at h
      split at h
      · split at h
        · injection h with h; exact h.symm
        · cases h
      · cases h
  exact rec_other (hw.ack x i) (by rw [e]; exact hk) 3 _ (by rw [hl]; rfl) (by decide) (by rw [hl]; simp [num4_len])
theorem rec_boot {c : Cd} {k : Nat} (hw : Wf c) (hk : c.life ≤ (k : Int)) (hb : c.life < 2147483647) : RecL c (1 :: num4 (c.life.toNat + 1)) k := by
  have h0 := hw.lf
  refine ⟨List.cons_ne_nil _ _, by simp [num4_len], ?_⟩
  rw [redo_boot c _ (by omega) (by omega)]
  unfold Cd.live
  split
  · omega
  · dsimp only; omega

/-- Where the script stands in memory. -/
structure TS (w W : World) (p : Nat) (c : Cd) (sv lv tv : Value) (ls : List (List UInt8)) (xs : List Txn) : Prop where
  ex : Below w.heap.size w W
  nd : CdAt w.heap.size W p c sv
  lg : RecsAt (fun g => g < W.heap.size ∧ g ≠ p ∧ sv.ownBlock ≠ some g ∧ tv.ownBlock ≠ some g) w.heap.size W lv ls
  ld : ∀ g, lv.ownBlock = some g → g ≠ p ∧ sv.ownBlock ≠ some g ∧ tv.ownBlock ≠ some g
  tx : TxsAt w.heap.size W tv xs
  td : ∀ g, tv.ownBlock = some g → g ≠ p ∧ sv.ownBlock ≠ some g
  rl : ∀ l ∈ ls, l.length ≤ 100
theorem TxsAt.lt {B : Nat} {W : World} {v : Value} {xs : List Txn} (h : TxsAt B W v xs) (g : Nat) (hg : v.ownBlock = some g) : B ≤ g ∧ g < W.heap.size := World.ownsRow.lt h g hg
theorem TxsAt.below {B : Nat} {W W' : World} {v : Value} {xs : List Txn} (h : TxsAt B W v xs) (hb : Below W.heap.size W W') : TxsAt B W' v xs := owns_frame h (fun k hk => hb.block k (h.lt k hk).2)
theorem CdAt.mono {B B' : Nat} {W : World} {p : Nat} {c : Cd} {sv : Value} (h : CdAt B W p c sv) (hB : B' ≤ B) : CdAt B' W p c sv := ⟨h.row, World.ownsRow.mono h.us hB, h.ne, Nat.le_trans hB h.base⟩
theorem TS.below {w W W' : World} {p : Nat} {c : Cd} {sv lv tv : Value} {ls : List (List UInt8)} {xs : List Txn} (h : TS w W p c sv lv tv ls xs) (hb : Below W.heap.size W W') : TS w W' p c sv lv tv ls xs :=
  ⟨h.ex.trans (hb.mono h.ex.size), h.nd.below hb, (h.lg.below hb).mono (fun _ e => ⟨Nat.lt_of_lt_of_le e.1 hb.size, e.2⟩), h.ld, h.tx.below hb, h.td, h.rl⟩
theorem TS.op' {w W W' : World} {p : Nat} {c c' : Cd} {sv sv' lv tv : Value} {ls : List (List UInt8)} {xs : List Txn} (h : TS w W p c sv lv tv ls xs) (h1 : CdAt w.heap.size W' p c' sv') (hf : Fr (fun k => k = p ∨ sv.ownBlock = some k) W W') (hn : ∀ g, sv'.ownBlock = some g → sv.ownBlock = some g ∨ W.heap.size ≤ g) : TS w W' p c' sv' lv tv ls xs := by
  have hbel := OpC.below h.nd ⟨sv', h1, hf, hn⟩ h.ex.size
  refine ⟨h.ex.trans hbel, h1, (h.lg.fr hf (fun g hg hs => ?_) (fun g hE hs => ?_)).mono (fun g e => ⟨Nat.lt_of_lt_of_le e.1 hf.size, e.2.1, fun e2 => ?_, e.2.2.2⟩), fun g hg => ⟨(h.ld g hg).1, fun e2 => ?_, (h.ld g hg).2.2⟩,
    owns_frame h.tx (fun g hg => hf.block g (h.tx.lt g hg).2 (fun hs => ?_)), fun g hg => ⟨(h.td g hg).1, fun e2 => ?_⟩, h.rl⟩
  · rcases hs with e | e
    · exact (h.ld g hg).1 e
    · exact (h.ld g hg).2.1 e
  · rcases hs with e | e
    · exact hE.2.1 e
    · exact hE.2.2.1 e
  · rcases hn g e2 with e3 | e3
    · exact e.2.2.1 e3
    · have := e.1; omega
  · rcases hn g e2 with e3 | e3
    · exact (h.ld g hg).2.1 e3
    · have := (h.lg.lt g hg).2; omega
  · rcases hs with e | e
    · exact (h.td g hg).1 e
    · exact (h.td g hg).2 e
  · rcases hn g e2 with e3 | e3
    · exact (h.td g hg).2 e3
    · have := (h.tx.lt g hg).2; omega

theorem TS.op {w W W' : World} {p : Nat} {c c' : Cd} {sv lv tv : Value} {ls : List (List UInt8)} {xs : List Txn} (h : TS w W p c sv lv tv ls xs) (ho : OpC w.heap.size W p sv c' W') : ∃ sv', TS w W' p c' sv' lv tv ls xs := by
  obtain ⟨sv', h1, hf, hn⟩ := ho
  exact ⟨sv', h.op' h1 hf hn⟩
/-- A record that was just made. -/
structure RecOk (W : World) (p : Nat) (sv lv tv : Value) (rv : Value) (l : List UInt8) : Prop where
  b : Byz W rv l
  d : ∀ g, rv.ownBlock = some g → l ≠ [] → lv.ownBlock ≠ some g ∧ (g < W.heap.size ∧ g ≠ p ∧ sv.ownBlock ≠ some g ∧ tv.ownBlock ≠ some g)
theorem RecOk.nil (W : World) (p : Nat) (sv lv tv : Value) : RecOk W p sv lv tv (.slice none 0 0) [] := ⟨⟨⟨none, 0, rfl⟩, fun h => absurd rfl h⟩, fun g hg => by simp [Value.ownBlock] at hg⟩
theorem RecOk.new {w W W' : World} {p : Nat} {c : Cd} {sv lv tv rv : Value} {ls : List (List UInt8)} {xs : List Txn} {l : List UInt8} (h : TS w W p c sv lv tv ls xs) (hr : Row W.heap.size W' rv l) (_hb : W.heap.size ≤ W'.heap.size) : RecOk W' p sv lv tv rv l := by
  refine ⟨hr.1.z, fun g hg _ => ?_⟩
  have h1 := row_own hr g hg
  refine ⟨fun e => ?_, hr.1.lt g hg, fun e => ?_, fun e => ?_, fun e => ?_⟩
  · have := (h.lg.lt g e).2; omega
  · have := h.nd.lt; omega
  · have := (World.ownsRow.lt h.nd.us g e).2; omega
  · have := (h.tx.lt g e).2; omega
theorem TS.op2 {w W W' : World} {p : Nat} {c c' : Cd} {sv lv tv rv : Value} {ls : List (List UInt8)} {xs : List Txn} {l : List UInt8} (h : TS w W p c sv lv tv ls xs) (r : RecOk W p sv lv tv rv l) (ho : OpC w.heap.size W p sv c' W') : ∃ sv', TS w W' p c' sv' lv tv ls xs ∧ RecOk W' p sv' lv tv rv l := by
  obtain ⟨sv', h1, hf, hn⟩ := ho
  refine ⟨sv', h.op' h1 hf hn, r.b.kept hf.size (fun g hg hne => hf.block g (r.b.lt g hg hne) (fun e => ?_)), fun g hg hne => ?_⟩
  · rcases e with e | e
    · exact (r.d g hg hne).2.2.1 e
    · exact (r.d g hg hne).2.2.2.1 e
  · obtain ⟨a1, a2, a3, a4, a5⟩ := r.d g hg hne
    refine ⟨a1, Nat.lt_of_lt_of_le a2 hf.size, a3, fun e => ?_, a5⟩
    rcases hn g e with e2 | e2
    · exact a4 e2
    · omega
/-- What a node says, and its record. -/
theorem TS.say {w W W' : World} {p : Nat} {c c' : Cd} {sv lv tv : Value} {ls : List (List UInt8)} {xs : List Txn} {r : Option (List UInt8)} {er : Int} {e : Ending} (h : TS w W p c sv lv tv ls xs) (hs : SayR w.heap.size W p sv r er c' e W') :
    ∃ sv' ra rc l, e = .returned (.tuple #[.slice ra l.length rc, .int .i64 er]) ∧ TS w W' p c' sv' lv tv ls xs ∧ RecOk W' p sv' lv tv (.slice ra l.length rc) l ∧ l = r.getD [] := by
  obtain ⟨h1, ho⟩ := hs
  cases r with
  | none =>
    obtain ⟨sv', h2⟩ := h.op ho
    exact ⟨sv', none, 0, [], h1, h2, RecOk.nil _ _ _ _ _, rfl⟩
  | some m =>
    obtain ⟨a, k, he, hrow, hcd⟩ := h1
    have hsz := (OpC.below h.nd ho h.ex.size).size
    obtain ⟨sv', _, hf, _⟩ := ho
    exact ⟨sv, a, k, m, he, h.op' hcd hf (fun g hg => Or.inl hg), RecOk.new h hrow (by omega), rfl⟩
theorem TS.log {w W : World} {p : Nat} {c : Cd} {sv lv tv rv : Value} {ls : List (List UInt8)} {xs : List Txn} {l : List UInt8} (h : TS w W p c sv lv tv ls xs) (hr : RecOk W p sv lv tv rv l) (hl : l.length ≤ 100) (hn : ls.length ≤ 100000) :
    ∃ a cp w', (∀ ty, (Builtin.append_ #[50, 50] ty #[lv, .slice (some ⟨W.heap.size, 0, none⟩) 1 1]).run Try.prog (W.alloc (.cells #[rv] 34)) = .ok (.slice a (ls ++ [l]).length cp) w') ∧ TS w w' p c sv (.slice a (ls ++ [l]).length cp) tv (ls ++ [l]) xs := by
  obtain ⟨a, cp, w', h1, h2, hf, hw⟩ := appR h.lg rv l hr.b hr.d h.ex.size hn
  have hlv : ∀ g, lv.ownBlock = some g → w.heap.size ≤ g := fun g hg => (h.lg.lt g hg).1
  refine ⟨a, cp, w', h1, ⟨h.ex.trans (hf.below h.ex.size hlv), h.nd.kept (fun g hg => hf.block g ?_ (fun e => ?_)), h2.mono (fun g e => ⟨Nat.lt_of_lt_of_le e.1 hf.size, e.2⟩), fun g hg => ?_, owns_frame h.tx (fun g hg => hf.block g (h.tx.lt g hg).2 (fun e => ?_)), h.td, ?_⟩⟩
  · rcases hg with rfl | hg
    · exact h.nd.lt
    · exact (World.ownsRow.lt h.nd.us g hg).2
  · rcases hg with rfl | hg
    · exact (h.ld _ e).1 rfl
    · exact (h.ld g e).2.1 hg
  · rcases hw g hg with e | e
    · exact h.ld g e
    · refine ⟨fun e2 => ?_, fun e2 => ?_, fun e2 => ?_⟩
      · have := h.nd.lt; omega
      · have := (World.ownsRow.lt h.nd.us g e2).2; omega
      · have := (h.tx.lt g e2).2; omega
  · exact (h.ld g e).2.2 hg
  · intro m hm
    rcases List.mem_append.1 hm with hm | hm
    · exact h.rl m hm
    · rw [List.mem_singleton.1 hm]; exact hl
theorem TS.give {w W : World} {p : Nat} {c : Cd} {sv lv tv : Value} {ls : List (List UInt8)} {xs : List Txn} (x : Txn) (h : TS w W p c sv lv tv ls xs) (hn : xs.length ≤ 100000) :
    ∃ a cp w', (∀ ty, (Builtin.append_ #[27, 27] ty #[tv, .slice (some ⟨W.heap.size, 0, none⟩) 1 1]).run Try.prog (W.alloc (.cells (cellsX x).toArray 33)) = .ok (.slice a (xs ++ [x]).length cp) w') ∧ TS w w' p c sv lv (.slice a (xs ++ [x]).length cp) ls (xs ++ [x]) := by
  obtain ⟨a, cp, w', h1, h2, hf, hw⟩ := appX w.heap.size W tv xs x h.tx h.ex.size hn
  have htv : ∀ g, tv.ownBlock = some g → w.heap.size ≤ g := fun g hg => (h.tx.lt g hg).1
  refine ⟨a, cp, w', h1, ⟨h.ex.trans (hf.below h.ex.size htv), h.nd.kept (fun g hg => hf.block g ?_ (fun e => ?_)), (h.lg.fr hf (fun g hg e => (h.ld g hg).2.2 e) (fun g hE e => hE.2.2.2 e)).mono (fun g e => ⟨Nat.lt_of_lt_of_le e.1 hf.size, e.2.1, e.2.2.1, fun e2 => ?_⟩), fun g hg => ⟨(h.ld g hg).1, (h.ld g hg).2.1, fun e2 => ?_⟩, h2, fun g hg => ?_, h.rl⟩⟩
  · rcases hg with rfl | hg
    · exact h.nd.lt
    · exact (World.ownsRow.lt h.nd.us g hg).2
  · rcases hg with rfl | hg
    · exact (h.td _ e).1 rfl
    · exact (h.td g e).2 hg
  · rcases hw g e2 with e3 | e3
    · exact e.2.2.2 e3
    · have := e.1; omega
  · rcases hw g e2 with e3 | e3
    · exact (h.ld g hg).2.2 e3
    · have := (h.lg.lt g hg).2; omega
  · rcases hw g hg with e | e
    · exact h.td g e
    · refine ⟨fun e2 => ?_, fun e2 => ?_⟩
      · have := h.nd.lt; omega
      · have := (World.ownsRow.lt h.nd.us g e2).2; omega
/-- Another node takes the place of this one. -/
theorem TS.swap {w V W : World} {p q : Nat} {c z : Cd} {sv zv lv tv : Value} {ls : List (List UInt8)} {xs : List Txn} (h : TS w V p c sv lv tv ls xs) (hz : CdAt V.heap.size W q z zv) (hb : Below V.heap.size V W) : TS w W q z zv lv tv ls xs := by
  have hb' := h.below hb
  have hq : ∀ g, g < V.heap.size → g ≠ q ∧ zv.ownBlock ≠ some g := fun g hg => ⟨fun e => by have := hz.base; omega, fun e => by have := (World.ownsRow.lt hz.us g e).1; omega⟩
  exact ⟨hb'.ex, hz.mono h.ex.size, ((h.lg.below hb).mono (fun g e => ⟨Nat.lt_of_lt_of_le e.1 hb.size, (hq g e.1).1, (hq g e.1).2, e.2.2.2⟩)), fun g hg => ⟨(hq g (h.lg.lt g hg).2).1, (hq g (h.lg.lt g hg).2).2, (h.ld g hg).2.2⟩, hb'.tx, fun g hg => hq g (h.tx.lt g hg).2, h.rl⟩
theorem replay_append : ∀ (a b : List (List UInt8)) (c : Cd), replay (a ++ b) c = (replay a c).bind (replay b)
  | [], b, c => rfl
  | l :: a, b, c => by
    simp only [List.cons_append, replay]
    split
    · exact replay_append a b _
    · rfl
theorem replay_step {ls : List (List UInt8)} {c z zj : Cd} {j : Nat} {l : List UInt8} (h : replay ls c = some z) (hj : replay (ls.take j) c = some zj) (hl : ls[j]? = some l) : (zj.redo l).1 = 0 ∧ replay (ls.take (j + 1)) c = some (zj.redo l).2 := by
  have hd : ls = ls.take j ++ l :: ls.drop (j + 1) := by
    obtain ⟨hlt, e⟩ := List.getElem?_eq_some_iff.1 hl
    rw [← e, ← List.drop_eq_getElem_cons hlt, List.take_append_drop]
  have h0 : (zj.redo l).1 = 0 := by
    rw [hd, replay_append, hj] at h
    simp only [Option.bind_some, replay] at h
    split at h
    · assumption
    · cases h
  refine ⟨h0, ?_⟩
  obtain ⟨hlt, e⟩ := List.getElem?_eq_some_iff.1 hl
  rw [List.take_succ_eq_append_getElem hlt, e]
  exact replay_snoc _ l c zj hj h0
end Go.Proofs.Ytleghofpabdkhaa
