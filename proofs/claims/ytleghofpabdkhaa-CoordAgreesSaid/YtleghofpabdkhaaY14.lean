/- Coord: finish, what its append does. -/
import Derived.Test.YtleghofpabdkhaaY11
import Derived.Test.YtleghofpabdkhaaY9
namespace Go.Proofs.Ytleghofpabdkhaa
open Go Go.RowKit

/-- Where finish stands: its name and its set are boxed; the node is C by now. -/
structure FinS (B : Nat) (w : World) (p : Nat) (sv : Value) (bx bs : Nat) (x : Txn) (S : St4) (C : Cd) (W : World) (sW : Value) : Prop where
  at_ : CdAt B W p C sW
  rx : W.heap[bx]? = some (.cells (txA x) 33 (0, 0))
  rs : W.heap[bs]? = some (.cells (setA S) 74 (0, 0))
  ne : bx ≠ p ∧ bs ≠ p ∧ w.heap.size ≤ bx ∧ w.heap.size ≤ bs
  nx : ∀ g, sW.ownBlock = some g → g ≠ bx ∧ g ≠ bs
  fr : Fr (fun k => k = p ∨ sv.ownBlock = some k) w W
  nw : ∀ g, sW.ownBlock = some g → sv.ownBlock = some g ∨ w.heap.size ≤ g
theorem FinS.below {B p bx bs : Nat} {w W W' : World} {sv sW : Value} {x : Txn} {S : St4} {C : Cd} (h : FinS B w p sv bx bs x S C W sW) (hb : Below W.heap.size W W') : FinS B w p sv bx bs x S C W' sW :=
  ⟨h.at_.below hb, (hb.block _ (lt_of_row' h.rx)).trans h.rx, (hb.block _ (lt_of_row' h.rs)).trans h.rs, h.ne, h.nx, h.fr.trans (Fr.of_below (fun _ => False) hb) (fun _ _ h => h) (fun _ _ h => h.elim), h.nw⟩
theorem FinS.op {B p bx bs : Nat} {w W : World} {sv sW : Value} {x : Txn} {S : St4} {C : Cd} (h : FinS B w p sv bx bs x S C W sW) : OpC B w p sv C W := ⟨sW, h.at_, h.fr, h.nw⟩
theorem FinS.new {B p : Nat} {w : World} {c : Cd} {sv : Value} (x : Txn) (S : St4) (h : CdAt B w p c sv) : FinS B w p sv w.heap.size (w.heap.size + 1) x S c ((w.alloc (.cells (txA x) 33)).alloc (.cells (setA S) 74)) sv := by
  have hb : Below w.heap.size w ((w.alloc (.cells (txA x) 33)).alloc (.cells (setA S) 74)) := ((Below.refl _ w).alloc (Nat.le_refl _) _).alloc (by simp) _
  have hl := h.lt
  refine ⟨h.below hb, ?_, ?_, ⟨by omega, by omega, Nat.le_refl _, by omega⟩, fun g hg => ?_, Fr.of_below _ hb, fun g hg => Or.inl hg⟩
  · have h1 : Below (w.alloc (.cells (txA x) 33)).heap.size (w.alloc (.cells (txA x) 33)) ((w.alloc (.cells (txA x) 33)).alloc (.cells (setA S) 74)) := (Below.refl _ _).alloc (Nat.le_refl _) _
    exact (h1.block _ (by simp)).trans (heap_alloc_new w _)
  · have := heap_alloc_new (w.alloc (.cells (txA x) 33)) (.cells (setA S) 74)
    simpa using this
  · have := (World.ownsRow.lt h.us g hg).2
    omega
/-- One is taken out. -/
theorem FinS.cut {B p bx bs : Nat} {w W W' : World} {sv sW : Value} {x : Txn} {S : St4} {C C' : Cd} (h : FinS B w p sv bx bs x S C W sW) (ho : OpC B W p sW C' W') : ∃ sv', FinS B w p sv bx bs x S C' W' sv' := by
  obtain ⟨sv', h1, h2, h3⟩ := ho
  have hx := lt_of_row' h.rx
  have hs := lt_of_row' h.rs
  refine ⟨sv', h1, ?_, ?_, h.ne, fun g hg => ?_, ?_, fun g hg => ?_⟩
  · exact (h2.block _ hx (fun e => by rcases e with e | e; exact h.ne.1 e; exact (h.nx _ e).1 rfl)).trans h.rx
  · exact (h2.block _ hs (fun e => by rcases e with e | e; exact h.ne.2.1 e; exact (h.nx _ e).2 rfl)).trans h.rs
  · rcases h3 g hg with e | e
    · exact h.nx g e
    · omega
  · refine h.fr.trans h2 (fun _ _ h => h) (fun k hk e => ?_)
    rcases e with e | e
    · exact Or.inl e
    · rcases h.nw k e with e | e
      · exact Or.inr e
      · omega
  · rcases h3 g hg with e | e
    · exact h.nw g e
    · exact Or.inr (by have := h.fr.size; omega)
/-- What is behind all, appended. -/
theorem FinS.app {B p bx bs : Nat} {w W : World} {sv : Value} {x : Txn} {S : St4} {C : Cd} {sa : Option Addr} {sc : Nat} (h : FinS B w p sv bx bs x S C W (.slice sa C.under.length sc)) (hB : B ≤ w.heap.size) (hn : C.under.length ≤ 900) (tt : Trn) :
    ∃ na nc w6, (∀ ty, (Builtin.append_ #[70, 70] ty #[.slice sa C.under.length sc, .slice (some ⟨W.drew.heap.size, 0, none⟩) 1 1]).run Try.prog (W.drew.alloc (.cells (cellsT tt).toArray 78)) = .ok (.slice na (C.under ++ [tt]).length nc) w6) ∧
      (w6.heap[bx]? = some (.cells (txA x) 33 (0, 0)) ∧ w6.heap[bs]? = some (.cells (setA S) 74 (0, 0)) ∧ w6.heap[p]? = some (.cells #[.int .i64 C.node, .int .i64 C.life, .int .i64 C.next, .slice sa C.under.length sc] 72 (0, 0))) ∧
      FinS B w p sv bx bs x S { C with under := C.under ++ [tt] } (w6.setCell ⟨p, 3, none⟩ (.slice na (C.under ++ [tt]).length nc)) (.slice na (C.under ++ [tt]).length nc) := by
  have hsz := h.fr.size
  obtain ⟨na, nc, w6, hap, hus, hf, hnw⟩ := appT B W.drew _ C.under tt (owns_frame h.at_.us (fun _ _ => rfl)) (by show B ≤ W.heap.size; omega) (by omega)
  have hk : ∀ k, k < W.heap.size → (Value.slice sa C.under.length sc).ownBlock ≠ some k → w6.heap[k]? = W.heap[k]? := fun k hk hne => hf.block k hk hne
  have r1 := (hk bx (lt_of_row' h.rx) (fun e => (h.nx _ e).1 rfl)).trans h.rx
  have r2 := (hk bs (lt_of_row' h.rs) (fun e => (h.nx _ e).2 rfl)).trans h.rs
  have r3 := (hk p h.at_.lt (fun e => h.at_.ne p e rfl)).trans h.at_.row
  have hwn : ∀ g, (Value.slice na (C.under ++ [tt]).length nc).ownBlock = some g → (Value.slice sa C.under.length sc).ownBlock = some g ∨ W.heap.size ≤ g := hnw
  have hnp : ∀ g, (Value.slice na (C.under ++ [tt]).length nc).ownBlock = some g → g ≠ p := fun g hg => by
    rcases hwn g hg with e | e
    · exact h.at_.ne g e
    · have := h.at_.lt; omega
  have hfp : Fr (· = p) w6 (w6.setCell ⟨p, 3, none⟩ (.slice na (C.under ++ [tt]).length nc)) := (Fr.refl (· = p) w6).setCell ⟨p, 3, none⟩ (Or.inl rfl) _
  refine ⟨na, nc, w6, hap, ⟨r1, r2, r3⟩, ⟨heap_setCell_same w6 p 3 _ _ _ r3, owns_frame hus (fun g hg => hfp.block g (World.ownsRow.lt hus g hg).2 (hnp g hg)), hnp, h.at_.base⟩, ?_, ?_, h.ne, fun g hg => ?_, ?_, fun g hg => ?_⟩
  · exact (hfp.block _ (lt_of_row' r1) h.ne.1).trans r1
  · exact (hfp.block _ (lt_of_row' r2) h.ne.2.1).trans r2
  · rcases hwn g hg with e | e
    · exact h.nx g e
    · have := lt_of_row' h.rx; have := lt_of_row' h.rs; omega
  · have hf' : Fr (fun k => (Value.slice sa C.under.length sc).ownBlock = some k) W w6 := ⟨hf.os, hf.tape, hf.output, hf.size, hf.block⟩
    refine ((h.fr.trans hf' (fun _ _ h => h) (fun k hk e => ?_))).trans hfp (fun _ _ h => h) (fun _ _ e => Or.inl e)
    rcases h.nw k e with e | e
    · exact Or.inr e
    · omega
  · rcases hwn g hg with e | e
    · exact h.nw g e
    · exact Or.inr (by omega)
/-- Its next number is set. -/
theorem FinS.next {B p bx bs : Nat} {w W : World} {sv sW : Value} {x : Txn} {S : St4} {C : Cd} (h : FinS B w p sv bx bs x S C W sW) (z : Int) : OpC B w p sv { C with next := z } (W.setCell ⟨p, 2, none⟩ (.int .i64 z)) := by
  have hfp : Fr (· = p) W (W.setCell ⟨p, 2, none⟩ (.int .i64 z)) := (Fr.refl (· = p) W).setCell ⟨p, 2, none⟩ (Or.inl rfl) _
  exact ⟨sW, ⟨heap_setCell_same W p 2 _ _ _ h.at_.row, owns_frame h.at_.us (fun g hg => hfp.block g (World.ownsRow.lt h.at_.us g hg).2 (h.at_.ne g hg)), h.at_.ne, h.at_.base⟩, h.fr.trans hfp (fun _ _ h => h) (fun _ _ e => Or.inl e), h.nw⟩
/-- finish, in plain words. -/
def Cd.put (C : Cd) (x : Txn) (S : St4) : Int × Cd :=
  if 8 ≤ C.under.length then (8, C)
  else (0, { C with under := C.under ++ [⟨x, S, St4.none, true⟩], next := if x.boot = C.life then max C.next (x.n + 1) else C.next })
def Cd.finish (c : Cd) (x : Txn) (S : St4) : Int × Cd :=
  if c.life < x.boot then (13, c)
  else match c.under.find? (doneB x) with
    | some _ => (13, c)
    | none => match c.under.find? (askedB x) with
      | none => c.put x S
      | some t => if t.all = true ∧ t.sh.eq S = true then (c.cut (idxF (askedB x) 0 c.under).toNat).put x S else (13, c)
theorem bin_gtr (a b : Int) (W : World) : (binOp .gtr 3 (.int .i64 a) (.int .i64 b)).run Try.prog W = .ok (.bool (decide (a > b))) W := by
  go_simp
theorem bin_geq (a b : Int) (W : World) : (binOp .geq 3 (.int .i64 a) (.int .i64 b)).run Try.prog W = .ok (.bool (decide (a ≥ b))) W := by
  go_simp
section
variable {o : Oper} {a : Act} {w : World}
theorem ex_gtrI (t : TypeId) (x y : Operand) (b : Int) (c : Int) (ho : o.op = .binOp .gtr 3 x y t) (hx : a.eval x = .int .i64 b) (hy : a.eval y = .int .i64 c) : (execOp a.eval o).run Try.prog w = .ok (.value (.bool (decide (b > c)))) w := by
  unfold execOp
  simp [ho, hx, hy, eqGuard, Sem.run_bind, bin_gtr]
theorem ex_geqI (t : TypeId) (x y : Operand) (b : Int) (c : Int) (ho : o.op = .binOp .geq 3 x y t) (hx : a.eval x = .int .i64 b) (hy : a.eval y = .int .i64 c) : (execOp a.eval o).run Try.prog w = .ok (.value (.bool (decide (b ≥ c)))) w := by
  unfold execOp
  simp [ho, hx, hy, eqGuard, Sem.run_bind, bin_geq]
theorem ex_maxI (x y : Operand) (b c : Int) (ho : o.op = .call { callee := .builtin .max, args := #[x, y], argTypes := #[3, 3] }) (hx : a.eval x = .int .i64 b) (hy : a.eval y = .int .i64 c) : (execOp a.eval o).run Try.prog w = .ok (.value (.int .i64 (max b c))) w := by
  unfold execOp
  simp only [ho, resolve, invoke, builtin, Sem.run_bind, Sem.run_pure, Result.andThen_ok, List.map_toArray, List.map_cons, List.map_nil, hx, hy]
  go_simp
  rw [Int.max_def]
  split <;> split <;> omega
end
end Go.Proofs.Ytleghofpabdkhaa
