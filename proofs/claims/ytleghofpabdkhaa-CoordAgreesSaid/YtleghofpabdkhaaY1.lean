/- Coord: transactions as cells; which one is asked, or done; sets; the place of one. -/
import Derived.Test.YtleghofpabdkhaaBS
import Derived.Test.YtleghofpabdkhaaD1c
import Derived.Test.YtleghofpabdkhaaHH
import Derived.ChangeKeysEq
import Derived.Deep.MidRow
import Derived.Test.YtleghofpabdkhaaProg
namespace Go.Proofs.Ytleghofpabdkhaa
open Go Go.RowKit

/-- A transaction's name. -/
structure Txn where
  node : Int
  boot : Int
  n : Int
def Txn.eq (a b : Txn) : Bool := a.node == b.node && (a.boot == b.boot && a.n == b.n)
theorem Txn.eq_iff (a b : Txn) : a.eq b = true ↔ a = b := by
  obtain ⟨a1, a2, a3⟩ := a
  obtain ⟨b1, b2, b3⟩ := b
  unfold Txn.eq
  simp only [Bool.and_eq_true, beq_iff_eq, Txn.mk.injEq]
/-- A set of shards. -/
structure St4 where
  a : Bool
  b : Bool
  c : Bool
  d : Bool
def St4.eq (x y : St4) : Bool := x.a == y.a && (x.b == y.b && (x.c == y.c && x.d == y.d))
theorem St4.eq_iff (x y : St4) : x.eq y = true ↔ x = y := by
  obtain ⟨a1, a2, a3, a4⟩ := x
  obtain ⟨b1, b2, b3, b4⟩ := y
  unfold St4.eq
  simp only [Bool.and_eq_true, beq_iff_eq, St4.mk.injEq]
def St4.has (s : St4) (i : Int) : Bool := if i = 0 then s.a else if i = 1 then s.b else if i = 2 then s.c else if i = 3 then s.d else false
def St4.put (s : St4) (i : Int) : St4 := if i = 0 then { s with a := true } else if i = 1 then { s with b := true } else if i = 2 then { s with c := true } else if i = 3 then { s with d := true } else s
def St4.none : St4 := ⟨false, false, false, false⟩
/-- A transaction that is under way. -/
structure Trn where
  tx : Txn
  sh : St4
  sd : St4
  dn : Bool
def Trn.all (t : Trn) : Bool := t.sd.eq t.sh
def txV (x : Txn) : Value := .agg #[.int .i64 x.node, .int .i64 x.boot, .int .i64 x.n]
def setV (s : St4) : Value := .agg #[.bool s.a, .bool s.b, .bool s.c, .bool s.d]
def cellsT (t : Trn) : List Value := [.int .i64 t.tx.node, .int .i64 t.tx.boot, .int .i64 t.tx.n, .bool t.sh.a, .bool t.sh.b, .bool t.sh.c, .bool t.sh.d, .bool t.sd.a, .bool t.sd.b, .bool t.sd.c, .bool t.sd.d, .bool t.dn]
def trnV (t : Trn) : Value := .agg (cellsT t).toArray
theorem cellsT_len (t : Trn) : (cellsT t).length = 12 := rfl
theorem cellsT_cell (t : Trn) : ∀ u ∈ cellsT t, u.oneCell' = true := by
  intro u hu
  simp only [cellsT, List.mem_cons, List.not_mem_nil, or_false] at hu
  rcases hu with rfl | rfl | rfl | rfl | rfl | rfl | rfl | rfl | rfl | rfl | rfl | rfl <;> rfl
/-- Transactions of the call's own. -/
abbrev TsAt (B : Nat) (w : World) (v : Value) (ts : List Trn) : Prop := w.ownsRow B 78 12 v ts.length (ts.flatMap cellsT)
theorem flatT_len (l : List Trn) : (l.flatMap cellsT).length = l.length * 12 := flat_len cellsT 12 l (fun _ _ => rfl)
theorem TsAt.at {B : Nat} {w : World} {v : Value} {ts : List Trn} (h : TsAt B w v ts) (i : Nat) (t : Trn) (hi : ts[i]? = some t) :
    ∃ g c, v = .slice (some ⟨g, 0, none⟩) ts.length c ∧ g < w.heap.size ∧ B ≤ g ∧ w.rangeAt g (i * 12) (cellsT t) := by
  rcases h.2 with ⟨_, h0⟩ | ⟨g, cap, cur, e, hb, hg, _⟩
  · rw [List.eq_nil_of_length_eq_zero h0] at hi; cases hi
  · refine ⟨g, cap, e, (Array.getElem?_eq_some_iff.1 hg).1, hb, fun j u hj => ?_⟩
    have := World.ownsRow.cells h (g := g) (by rw [e]; rfl) _ u (flat_at cellsT 12 ts i (fun _ _ => rfl) t hi j u hj)
    rwa [addr_plus, Nat.zero_add] at this
theorem infoT12 (cs : List Value) (h : cs.length = 12) : (Try.prog.info? 78).map (·.size) = some cs.length := by rw [h]; kernel_rfl
theorem ret_bool {a b : Bool} (h : a = b) : Ending.returned (.bool a) = .returned (.bool b) := by rw [h]
theorem ret_int {a b : Int} (h : a = b) : Ending.returned (.int .i64 a) = .returned (.int .i64 b) := by rw [h]
theorem infoBl : (Try.prog.info? 4).map (fun i => (i.zero, i.size, i.bytes)) = some (some (.bool false), 1, 1) := by kernel_rfl
theorem eq_b (d : Nat) (x y : Bool) (W : World) : (Op.equalIn (d + 1) 4 (.bool x) (.bool y)).run Try.prog W = .ok (x == y) W := run_equalIn_bool' W d _ x y Try.underlying4
theorem eq_set (x y : St4) (W : World) : (Op.equalIn 10000 74 (.agg #[.bool x.a, .bool x.b, .bool x.c, .bool x.d]) (.agg #[.bool y.a, .bool y.b, .bool y.c, .bool y.d])).run Try.prog W = .ok (x.eq y) W := by
  obtain ⟨i, hi, _, _, _⟩ := info_parts infoBl
  rw [run_equalIn_array (P := Try.prog) W 9999 _ _ Try.underlying74 hi]
  have p0 : ∀ z : St4, (part 4 #[.bool z.a, .bool z.b, .bool z.c, .bool z.d] (0 * Try.prog.cellsOf 4)).run Try.prog W = .ok (.bool z.a) W := fun z => by kernel_rfl
  have p1 : ∀ z : St4, (part 4 #[.bool z.a, .bool z.b, .bool z.c, .bool z.d] (1 * Try.prog.cellsOf 4)).run Try.prog W = .ok (.bool z.b) W := fun z => by kernel_rfl
  have p2 : ∀ z : St4, (part 4 #[.bool z.a, .bool z.b, .bool z.c, .bool z.d] (2 * Try.prog.cellsOf 4)).run Try.prog W = .ok (.bool z.c) W := fun z => by kernel_rfl
  have p3 : ∀ z : St4, (part 4 #[.bool z.a, .bool z.b, .bool z.c, .bool z.d] (3 * Try.prog.cellsOf 4)).run Try.prog W = .ok (.bool z.d) W := fun z => by kernel_rfl
  rw [show List.range 4 = [0, 1, 2, 3] from rfl]
  have e : ∀ a b : Bool, (Op.equalIn 9999 4 (.bool a) (.bool b)).run Try.prog W = .ok (a == b) W := fun a b => eq_b 9998 a b W
  simp only [Op.eqItems, Sem.run_bind, Sem.run_ite, Sem.run_pure, p0, p1, p2, p3, Result.andThen_ok, e]
  unfold St4.eq
  cases (x.a == y.a) <;> cases (x.b == y.b) <;> cases (x.c == y.c) <;> cases (x.d == y.d) <;> simp
theorem eq_i (d : Nat) (x y : Int) (W : World) : (Op.equalIn (d + 1) 3 (.int .i64 x) (.int .i64 y)).run Try.prog W = .ok (x == y) W := run_equalIn_int W d _ _ _ x y Try.underlying3
set_option maxRecDepth 100000 in
theorem eq_tx (x y : Txn) (W : World) : (Op.equalIn 10000 33 (.agg #[.int .i64 x.node, .int .i64 x.boot, .int .i64 x.n]) (.agg #[.int .i64 y.node, .int .i64 y.boot, .int .i64 y.n])).run Try.prog W = .ok (x.eq y) W := by
  rw [run_equalIn_struct (P := Try.prog) W 9999 _ _ _ (by kernel_rfl) (by kernel_rfl)]
  have hf : (Try.prog.fieldsOf 33).toList.map (fun f => (f.type, f.offset)) = [(3, 0), (3, 1), (3, 2)] := by kernel_rfl
  have p0 : ∀ z : Txn, (part 3 #[.int .i64 z.node, .int .i64 z.boot, .int .i64 z.n] 0).run Try.prog W = .ok (.int .i64 z.node) W := fun z => by kernel_rfl
  have p1 : ∀ z : Txn, (part 3 #[.int .i64 z.node, .int .i64 z.boot, .int .i64 z.n] 1).run Try.prog W = .ok (.int .i64 z.boot) W := fun z => by kernel_rfl
  have p2 : ∀ z : Txn, (part 3 #[.int .i64 z.node, .int .i64 z.boot, .int .i64 z.n] 2).run Try.prog W = .ok (.int .i64 z.n) W := fun z => by kernel_rfl
  have e : ∀ a b : Int, (Op.equalIn 9999 3 (.int .i64 a) (.int .i64 b)).run Try.prog W = .ok (a == b) W := fun a b => eq_i 9998 a b W
  generalize hF : (Try.prog.fieldsOf 33).toList = fs at hf
  have hc : fs.all (fun f => decide (f.name ≠ "_")) = true := by rw [← hF]; kernel_rfl
  match fs, hf, hc with
  | [f0, f1, f2], hf, hc =>
    simp only [List.map_cons, List.map_nil, List.cons.injEq, Prod.mk.injEq, and_true] at hf
    obtain ⟨⟨t0, o0⟩, ⟨t1, o1⟩, ⟨t2, o2⟩⟩ := hf
    simp only [List.all_cons, List.all_nil, Bool.and_true, Bool.and_eq_true, decide_eq_true_eq] at hc
    obtain ⟨c0, c1, c2⟩ := hc
    simp only [Op.eqFields, c0, c1, c2, t0, t1, t2, o0, o1, o2, ne_eq, not_false_eq_true, if_true, Sem.run_bind, Sem.run_ite, Sem.run_pure, p0, p1, p2, Result.andThen_ok, e]
    unfold Txn.eq
    cases (x.node == y.node) <;> cases (x.boot == y.boot) <;> cases (x.n == y.n) <;> simp

end Go.Proofs.Ytleghofpabdkhaa
