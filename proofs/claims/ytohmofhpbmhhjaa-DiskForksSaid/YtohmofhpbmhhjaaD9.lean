/- Disk: Crash. -/
import Derived.Test.YtohmofhpbmhhjaaD8
import Derived.OrdersHeld
import Derived.Deep.RegionHeld3
namespace Go.Proofs.Ytohmofhpbmhhjaa
open Go Go.RowKit

section
variable {P : Program} {ops : Array Oper} {Q : Exit → Act → World → Prop} {md : Region.Mode} {S : World → Prop}
theorem anyH_take (i : Nat) (d : Option Tmp) (v : Value) {oi : Oper} {fuel : Nat} {listed : Array Bool} {a : Act} {w : World} (hi : ops[i]? = some oi) (hd : oi.dst = d)
    (hs : Region.noSelect ops = true) (hf : Region.free md ops listed i = true) (hr : (Region.ready md ops listed).contains i = true)
    (hQ : ∀ c a w, Q (.panic c) (a.put d v) w → Q (.panic c) a w) (hg : Region.wanted oi (yielded ops a.tmps) = true) (hy : ∀ w, S w → (execOp a.eval oi).run P w = .ok (.value v) w) (hS : S w)
    (h : wpAnyH P md ops Q S fuel (listed.setIfInBounds i true) (a.put d v) w) : wpAnyH P md ops Q S (fuel + 1) listed a w := by
  subst hd
  exact wpAnyH_take hi hs hf hr hQ (Or.inl ⟨hg, hy⟩) hS h
theorem anyH_one (i : Nat) {o : Oper} {fuel : Nat} {listed : Array Bool} {a : Act} {w : World} (hr : Region.ready md ops listed = [i]) (ho : ops[i]? = some o) (hg : o.guard = none)
    (h : ∀ K : Act → World → Prop, (∀ a' w', S w' → wpAnyH P md ops Q S fuel (listed.setIfInBounds i true) a' w' → K a' w') → o.wp P a w K Q) : wpAnyH P md ops Q S (fuel + 1) listed a w :=
  wpAnyH_ready hr (by simp) (AllReadyH.cons ho (fun K hK => by rw [if_pos (by simp [Region.wanted, hg])]; exact h K (fun a' w' hS' hn => hK.out a' w' hS' (fun _ => hn))) AllReadyH.nil)
theorem wp_calls {o : Oper} {a : Act} {w : World} {K : Act → World → Prop} (d : Option Tmp) (hd : o.dst = d) (f : FuncId) (args : Array Value) (hr : (execOp a.eval o).run P w = .ok (.enter f args) w) (v : Value) (R : World → Prop)
    (hc : Calls P f args w fun e w' => e = .returned v ∧ R w') (h : ∀ w', R w' → K (a.put d v) w') : o.wp P a w K Q := by
  subst hd
  unfold Oper.wp
  rw [hr]
  refine hc.mono ?_
  rintro e w' ⟨rfl, hR⟩
  exact h w' hR
theorem ex_call2 {o : Oper} {a : Act} {w : World} (f : FuncId) (x y : Operand) (ts : Array TypeId) (ho : o.op = .call { callee := .value (.func f), args := #[x, y], argTypes := ts }) (xv yv : Value) (hx : a.eval x = xv) (hy : a.eval y = yv)
    (hen : ∀ args w, (callFunc f args).run P w = .ok (.enter f args) w) : (execOp a.eval o).run P w = .ok (.enter f #[xv, yv]) w := by
  have hf : a.eval (.func f) = .func (.func f) #[] #[] := rfl
  unfold execOp
  simp [ho, resolve, Deferred.ofValue, invoke, hx, hy, hf, hen, Sem.run_bind, Sem.run_pure, Result.andThen]
theorem ex_copy {o : Oper} {a : Act} {w w' : World} (s x : Operand) (T U : TypeId) (ho : o.op = .call { callee := .builtin .copy, args := #[s, x], argTypes := #[T, U] }) (v xv v' : Value) (hs : a.eval s = v) (hx : a.eval x = xv)
    (hr : ∀ ty, (Builtin.copy_ #[T, U] ty #[v, xv]).run P w = .ok v' w') : (execOp a.eval o).run P w = .ok (.value v') w' := by
  unfold execOp
  simp only [ho, resolve, invoke, builtin, Sem.run_bind, Sem.run_pure, Result.andThen_ok, List.map_toArray, List.map_cons, List.map_nil, hs, hx, hr]
theorem ex_sliceAll {o : Oper} {a : Act} {w : World} (t : TypeId) (x : Operand) (ho : o.op = .slice t x none none none) (p v : Value) (hx : a.eval x = p) (hr : (Instr.sliceAt t p none none none).run P w = .ok v w) : (execOp a.eval o).run P w = .ok (.value v) w := by
  unfold execOp
  simp only [ho, hx, Option.map_none, Sem.run_bind, hr, Result.andThen_ok]
  rfl
theorem ex_sliceTo {o : Oper} {a : Act} {w : World} (t : TypeId) (x y : Operand) (ho : o.op = .slice t x none (some y) none) (p k v : Value) (hx : a.eval x = p) (hy : a.eval y = k) (hr : (Instr.sliceAt t p none (some k) none).run P w = .ok v w) : (execOp a.eval o).run P w = .ok (.value v) w := by
  unfold execOp
  simp only [ho, hx, hy, Option.map_none, Option.map_some, Sem.run_bind, hr, Result.andThen_ok]
  rfl
end

theorem over_part {α : Type} (L : List α) (o : Nat) (p q : List α) (hq : q.length ≤ p.length) (hp : ∀ j u, p[j]? = some u → L[o + j]? = some u) : over L o q = over L o (q ++ p.drop q.length) := by
  have hlen : (q ++ p.drop q.length).length = p.length := by rw [List.length_append, List.length_drop]; omega
  have hd : L.drop (o + q.length) = p.drop q.length ++ L.drop (o + p.length) := by
    apply List.ext_getElem?
    intro k
    rw [List.getElem?_append, List.getElem?_drop, List.getElem?_drop, List.getElem?_drop, List.length_drop]
    by_cases hk : k < p.length - q.length
    · rw [if_pos hk, List.getElem?_eq_getElem (show q.length + k < p.length by omega), show o + q.length + k = o + (q.length + k) by omega]
      exact hp _ _ (List.getElem?_eq_getElem (show q.length + k < p.length by omega))
    · rw [if_neg hk]
      congr 1
      omega
  unfold over
  rw [hlen, hd]
  simp only [List.append_assoc]
/-- A page's beginning is made sure. -/
theorem Dsk.part {O : Nat → Prop} {w : World} {D S c : Nat} {wv : Value} {s : St} (h : Dsk O w D S c wv s) (i : Nat) (p : List UInt8) (hi : s.sure[i]? = some p) (q : List UInt8) (hq : q.length ≤ 64) :
    Dsk O (w.setCells S (i * 64) (pgC q)) D S c wv { s with sure := s.sure.set i (q ++ p.drop q.length) } ∧ Fr O w (w.setCells S (i * 64) (pgC q)) := by
  have hlt := (List.getElem?_eq_some_iff.1 hi).1
  have hpl : p.length = 64 := h.ok.pages p (List.mem_of_getElem? hi)
  have hql : (q ++ p.drop q.length).length = 64 := by rw [List.length_append, List.length_drop]; omega
  have hfr : Fr (· = S) w (w.setCells S (i * 64) (pgC q)) := (Fr.refl (· = S) w).setCells S (i * 64) (Or.inl rfl) (pgC q)
  have hb : ∀ k, O k → k ≠ S → (w.setCells S (i * 64) (pgC q)).heap[k]? = w.heap[k]? := fun k hk hn => hfr.block k (h.lt k hk) hn
  refine ⟨⟨⟨fun r hr => ?_, fun x hx => ?_, ?_, ?_, h.ok.cut, h.ok.wn, h.ok.an⟩, ?_, ?_, ?_, h.memD, h.memS, h.memW, fun k hk => Nat.lt_of_lt_of_le (h.lt k hk) hfr.size⟩, hfr.mono (fun k _ e => by subst e; exact h.memS.1)⟩
  · rcases List.mem_or_eq_of_mem_set hr with h0 | h0
    · exact h.ok.pages r h0
    · rw [h0]; exact hql
  · have := h.ok.writes x hx
    simpa using this
  · simpa using h.ok.some
  · simpa using h.ok.few
  · simp only [List.length_set]
    exact (hb D h.memD (Ne.symm h.memS.2)).trans h.blk
  · simp only [List.length_set]
    have hle := Nat.mul_le_mul_right 64 (show i + 1 ≤ s.sure.length by omega)
    have := owns_set h.sure (i * 64) (pgC q) (by rw [pgC_len]; omega)
    rw [over_part (s.sure.flatMap pgC) (i * 64) (pgC p) (pgC q) (by rw [pgC_len, pgC_len]; omega) (fun j u hj => flat_at pgC 64 s.sure i (pages64 h.ok) p hi j u hj)] at this
    rw [show pgC q ++ (pgC p).drop (pgC q).length = pgC (q ++ p.drop q.length) by simp [pgC]] at this
    rwa [flat_set pgC 64 s.sure i (pages64 h.ok) _ (by rw [pgC_len]; exact hql) hlt] at this
  · exact owns_frame h.waits (fun k hk => hb k (h.memW k hk).1 (h.memW k hk).2.2)
/-- What is sure behind a crash. -/
def crashL (f : Nat → Nat) (l : List (List UInt8)) (ws : List (Nat × List UInt8)) : Nat → List (List UInt8)
  | 0 => l
  | k + 1 => match ws[k]? with
    | some x => (crashL f l ws k).set x.1 (x.2.take (f k) ++ ((crashL f l ws k).getD x.1 []).drop (f k))
    | none => crashL f l ws k
theorem crashL_len (f : Nat → Nat) (l : List (List UInt8)) (ws : List (Nat × List UInt8)) : ∀ k, (crashL f l ws k).length = l.length
  | 0 => rfl
  | k + 1 => by
    unfold crashL
    split
    · rw [List.length_set, crashL_len f l ws k]
    · exact crashL_len f l ws k
theorem crashL_step (f : Nat → Nat) (l : List (List UInt8)) (ws : List (Nat × List UInt8)) (k : Nat) (x : Nat × List UInt8) (h : ws[k]? = some x) : crashL f l ws (k + 1) = (crashL f l ws k).set x.1 (x.2.take (f k) ++ ((crashL f l ws k).getD x.1 []).drop (f k)) := by
  rw [crashL, h]
def St.crashed (s : St) (keep : List Bool) (torn at' : Int) : St := { sure := crashL (outl keep torn at') s.sure s.waits s.waits.length, waits := [], cut := 0, down := false, age := s.age + 1 }
theorem Dsk.crashed {O : Nat → Prop} {w : World} {D S c : Nat} {wv : Value} {s : St} (h : Dsk O w D S c wv s) (ha : s.age + 1 ≤ 1000) :
    Dsk O ((((w.setCell ⟨D, 1, none⟩ (.slice none 0 0)).setCell ⟨D, 2, none⟩ (.int .i64 0)).setCell ⟨D, 3, none⟩ (.bool false)).setCell ⟨D, 4, none⟩ (.int .i64 ((s.age : Int) + 1))) D S c (.slice none 0 0) { sure := s.sure, waits := [], cut := 0, down := false, age := s.age + 1 } ∧
    Fr O w ((((w.setCell ⟨D, 1, none⟩ (.slice none 0 0)).setCell ⟨D, 2, none⟩ (.int .i64 0)).setCell ⟨D, 3, none⟩ (.bool false)).setCell ⟨D, 4, none⟩ (.int .i64 ((s.age : Int) + 1))) := by
  have hfr : Fr (· = D) w ((((w.setCell ⟨D, 1, none⟩ (.slice none 0 0)).setCell ⟨D, 2, none⟩ (.int .i64 0)).setCell ⟨D, 3, none⟩ (.bool false)).setCell ⟨D, 4, none⟩ (.int .i64 ((s.age : Int) + 1))) :=
    ((((Fr.refl (· = D) w).setCell ⟨D, 1, none⟩ (Or.inl rfl) _).setCell ⟨D, 2, none⟩ (Or.inl rfl) _).setCell ⟨D, 3, none⟩ (Or.inl rfl) _).setCell ⟨D, 4, none⟩ (Or.inl rfl) _
  refine ⟨⟨⟨h.ok.pages, (fun x hx => by simp at hx), h.ok.some, h.ok.few, by simp, by simp, ha⟩, ?_, owns_frame h.sure (fun k hk => by cases hk; exact hfr.block S (h.lt S h.memS.1) h.memS.2), World.ownsRow_nil .., h.memD, h.memS, (fun g hg => by simp [Value.ownBlock] at hg), fun k hk => Nat.lt_of_lt_of_le (h.lt k hk) hfr.size⟩, hfr.mono (fun k _ e => by subst e; exact h.memD)⟩
  rw [heap_setCell_same _ D 4 _ _ _ (heap_setCell_same _ D 3 _ _ _ (heap_setCell_same _ D 2 _ _ _ (heap_setCell_same _ D 1 _ _ _ h.blk)))]
  rfl
theorem crash_nil (v : Value) (w : World) (hv : ∃ a b c, v = .agg #[a, b, c]) :
    Calls Try.prog 14 #[.pointer none, v] w fun e w' => e = .returned (.int .i64 1) ∧ Below w.heap.size w w' := by
  obtain ⟨a, b, c, rfl⟩ := hv
  have HB := Lib.hid (show Below w.heap.size w (w.alloc (.cells #[a, b, c] 32)) from (Below.refl _ w).alloc (Nat.le_refl _) _)
  go_enter Try.func14, Try.ntmps14
  go_wp2
  go_ret
  exact ⟨rfl, HB.out⟩
end Go.Proofs.Ytohmofhpbmhhjaa
