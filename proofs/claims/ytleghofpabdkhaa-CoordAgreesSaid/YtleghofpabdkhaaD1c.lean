/- Regions that draw their order, step by step; a slice literal of one value of many cells. No program. -/
import Derived.Test.YtleghofpabdkhaaD1b
import Derived.RegionTactic
import Derived.Great.BuildSlice
namespace Go.Proofs.Ytleghofpabdkhaa
open Go Go.RowKit
section
variable {P : Program} {ops : Array Oper} {Q : Exit → Act → World → Prop} {md : Region.Mode}
theorem any_one (i : Nat) {o : Oper} {fuel : Nat} {listed : Array Bool} {a : Act} {w : World} (hr : Region.ready md ops listed = [i]) (ho : ops[i]? = some o) (hg : o.guard = none)
    (h : ∀ K : Act → World → Prop, (∀ a' w', wpAny P md ops Q fuel (listed.setIfInBounds i true) a' w' → K a' w') → o.wp P a w K Q) : wpAny P md ops Q (fuel + 1) listed a w :=
  wpAny_ready hr (by simp) (AllReady.cons ho (fun K hK => by rw [if_pos (by simp [Region.wanted, hg])]; exact h K hK) AllReady.nil)
theorem any_two (i j : Nat) {o o' : Oper} {fuel : Nat} {listed : Array Bool} {a : Act} {w : World} (hr : Region.ready md ops listed = [i, j]) (ho : ops[i]? = some o) (hg : o.guard = none) (ho' : ops[j]? = some o') (hg' : o'.guard = none)
    (h : ∀ K : Act → World → Prop, (∀ a' w', wpAny P md ops Q fuel (listed.setIfInBounds i true) a' w' → K a' w') → o.wp P a w K Q)
    (h' : ∀ K : Act → World → Prop, (∀ a' w', wpAny P md ops Q fuel (listed.setIfInBounds j true) a' w' → K a' w') → o'.wp P a w K Q) : wpAny P md ops Q (fuel + 1) listed a w :=
  wpAny_ready hr (by simp) (AllReady.cons ho (fun K hK => by rw [if_pos (by simp [Region.wanted, hg])]; exact h K hK) (AllReady.cons ho' (fun K hK => by rw [if_pos (by simp [Region.wanted, hg'])]; exact h' K hK) AllReady.nil))
theorem wp_runs {o : Oper} {a : Act} {w w' : World} {K : Act → World → Prop} (d : Option Tmp) (hd : o.dst = d) {v : Value} (hr : (execOp a.eval o).run P w = .ok (.value v) w') (h : K (a.put d v) w') : o.wp P a w K Q := by
  subst hd; unfold Oper.wp; rw [hr, Oper.upon_value]; exact h
theorem wp_skips {o : Oper} {a : Act} {w w' : World} {K : Act → World → Prop} (d : Option Tmp) (hd : o.dst = d) (hr : (execOp a.eval o).run P w = .ok .skip w') (h : K (a.put d undef) w') : o.wp P a w K Q := by
  subst hd; unfold Oper.wp; rw [hr, Oper.upon_skip]; exact h
theorem any_take (i : Nat) (d : Option Tmp) (v : Value) {oi : Oper} {fuel : Nat} {listed : Array Bool} {a : Act} {w : World} (hi : ops[i]? = some oi) (hd : oi.dst = d)
    (hs : Region.noSelect ops = true) (hf : Region.free md ops listed i = true) (hr : (Region.ready md ops listed).contains i = true)
    (hQ : ∀ c a w, Q (.panic c) (a.put d v) w → Q (.panic c) a w) (hg : Region.wanted oi (yielded ops a.tmps) = true) (hy : ∀ w, (execOp a.eval oi).run P w = .ok (.value v) w)
    (h : wpAny P md ops Q fuel (listed.setIfInBounds i true) (a.put d v) w) : wpAny P md ops Q (fuel + 1) listed a w := by
  subst hd
  exact wpAny_take hi hs hf hr hQ (Or.inl ⟨hg, hy⟩) h
theorem ex_load {o : Oper} {a : Act} {w : World} (t : TypeId) (x : Operand) (ho : o.op = .load t x) (p v : Value) (hx : a.eval x = p) (hr : (Instr.loadAt t p).run P w = .ok v w) : (execOp a.eval o).run P w = .ok (.value v) w := by
  unfold execOp
  simp only [ho, hx, Sem.run_bind, hr, Result.andThen_ok]
  rfl
theorem ex_store {o : Oper} {a : Act} {w w' : World} (t : TypeId) (x y : Operand) (ho : o.op = .store t x y) (p v : Value) (hx : a.eval x = p) (hy : a.eval y = v) (hr : (Instr.storeAt t p v).run P w = .ok () w') : (execOp a.eval o).run P w = .ok .skip w' := by
  unfold execOp
  simp only [ho, hx, hy, Sem.run_bind, hr, Result.andThen_ok]
  rfl
theorem ex_index {o : Oper} {a : Act} {w : World} (t : TypeId) (x y : Operand) (ho : o.op = .indexAddr t x y) (p k v : Value) (hx : a.eval x = p) (hy : a.eval y = k) (hr : (Instr.indexAt t p k).run P w = .ok v w) : (execOp a.eval o).run P w = .ok (.value v) w := by
  unfold execOp
  simp only [ho, hx, hy, Sem.run_bind, hr, Result.andThen_ok]
  rfl
theorem ex_append {o : Oper} {a : Act} {w w' : World} (s x : Operand) (T U : TypeId) (ho : o.op = .call { callee := .builtin .append, args := #[s, x], argTypes := #[T, U] }) (v xv v' : Value) (hs : a.eval s = v) (hx : a.eval x = xv)
    (hr : ∀ ty, (Builtin.append_ #[T, U] ty #[v, xv]).run P w = .ok v' w') : (execOp a.eval o).run P w = .ok (.value v') w' := by
  unfold execOp
  simp only [ho, resolve, invoke, builtin, Sem.run_bind, Sem.run_pure, Result.andThen_ok, List.map_toArray, List.map_cons, List.map_nil, hs, hx, hr]
theorem ex_buildSlice {o : Oper} {a : Act} {w w' : World} (t : TypeId) (n : Nat) (parts : Array (Nat × Operand)) (ho : o.op = .buildSlice t n parts) (ps : List (Nat × Value)) (hp : (parts.toList.map fun (i, x) => (i, a.eval x)) = ps) (v : Value)
    (hr : (Instr.buildSlice t n ps.toArray).run P w = .ok v w') : (execOp a.eval o).run P w = .ok (.value v) w' := by
  have he : (parts.map fun (i, x) => (i, a.eval x)) = ps.toArray := by apply Array.toList_inj.1; rw [Array.toList_map, hp]
  unfold execOp
  simp only [ho, he, Sem.run_bind, hr, Result.andThen_ok]
  rfl
end
theorem fold_set : ∀ (L : List Value) (k : Nat) (A : List Value), k + L.length = A.length → (L.zipIdx k).foldl (fun (cs : Array Value) (x : Value × Nat) => cs.setIfInBounds (0 + x.2) x.1) A.toArray = (A.take k ++ L).toArray
  | [], k, A, h => by
    rw [List.zipIdx_nil, List.foldl_nil, List.append_nil, List.take_of_length_le (by simp at h; omega)]
  | x :: L, k, A, h => by
    rw [List.length_cons] at h
    rw [List.zipIdx_cons, List.foldl_cons, Nat.zero_add, List.setIfInBounds_toArray, fold_set L (k + 1) (A.set k x) (by rw [List.length_set]; omega)]
    congr 1
    rw [List.set_eq_take_append_cons_drop, if_pos (by omega), List.take_append, List.length_take, show k + 1 - min k A.length = 1 by omega]
    simp only [List.take_succ_cons, List.take_zero, List.take_take, show min (k + 1) k = k by omega, List.append_assoc, List.cons_append, List.nil_append]
theorem fill_one (s : Nat) (Z C : List Value) (hZ : Z.length = s) (hC : C.length = s) : Instr.fill (fun i => some (i * s, s)) Z.toArray [(0, .agg C.toArray)] = some C.toArray := by
  unfold Instr.fill
  simp only [Nat.zero_mul, Value.cells, List.size_toArray, hC, hZ]
  rw [if_neg (by simp)]
  unfold Instr.fill
  congr 1
  have h := fold_set C 0 Z (by omega)
  rw [List.take_zero, List.nil_append] at h
  refine Eq.trans ?_ h
  rw [← Array.foldl_toList]
  simp
theorem run_lit_one {P : Program} (w : World) (t e : TypeId) (s : Nat) (ht : P.underlying t = some (.slice e)) (Z : List Value) (hi : (P.info? e).map (fun i => (i.zero, i.size)) = some (some (.agg Z.toArray), s)) (hZ : Z.length = s) (h0 : s ≠ 0) (hs : s ≤ 16777216) (C : List Value) (hC : C.length = s) :
    (Instr.buildSlice t 1 #[(0, .agg C.toArray)]).run P w = .ok (.slice (some ⟨w.heap.size, 0, none⟩) 1 1) (w.alloc (.cells C.toArray e)) := by
  have hz := (zero_of_info hi).1
  have hsz := (zero_of_info hi).2
  cases hq : P.info? e with
  | none => rw [hq] at hsz; cases hsz
  | some i =>
    have hs' : i.size = s := by rw [hq] at hsz; simpa using hsz
    have hr : Array.map (fun x => Z[x % Z.length]?.getD default) (Array.range s) = Z.toArray := by
      apply Array.ext
      · simp [hZ]
      · intro k h1 h2
        have hk : k < s := by simpa [hZ] using h2
        simp [hZ, Nat.mod_eq_of_lt hk, hk]
    have hf := fill_one s Z C hZ hC
    simp [Instr.buildSlice, Sem.run_bind, run_underlying ht, sizeOf, typeInfo, hq, hs', hz, hf, hr, h0, show ¬ 16777216 < s by omega, Value.cells]
    rfl
theorem app_ty (ts : Array TypeId) (ty ty' : TypeId) (vs : Array Value) : Builtin.append_ ts ty vs = Builtin.append_ ts ty' vs := rfl
/-- append onto what is owned: where the new slice lies. -/
theorem app_own {P : Program} (w : World) (t e : TypeId) (i : TypeInfo) (z : Value) (size bytes : Nat) (ht : P.underlying t = some (.slice e)) (hi : P.info? e = some i) (hz : i.zero = some z)
    (hsize : i.size = size) (hby : i.bytes = bytes) (hzs : z.cells.size = size) (hsz : 0 < size)
    (v : Value) (n : Nat) (xs : List Value) (hown : w.ownsRow 0 e size v n xs)
    (a : Addr) (m c : Nat) (news : List Value) (hl : news.length = m * size) (hm0 : m ≠ 0) (hnews : ∀ j u, news[j]? = some u → w.cell? (a.add j) = some u) (h1 : ∀ u ∈ news, u.oneCell' = true)
    (h63 : n + m ≤ maxLen) (hbytes : (n + m) * bytes ≤ 140737488355328) :
    ∃ v' w', (∀ ty, (Builtin.append_ #[t, t] ty #[v, .slice (some a) m c]).run P w = .ok v' w') ∧ w'.ownsRow 0 e size v' (n + m) (xs ++ news) ∧ w.grownBy w' v.ownBlock ∧ (∀ g, v'.ownBlock = some g → v.ownBlock = some g ∨ w.heap.size ≤ g) := by
  obtain ⟨v', w', hr, h2, h3, _⟩ := run_append_own (P := P) w 0 t 0 e i z size bytes ht hi hz hsize hby hzs hsz v n xs hown a m c news hl hnews h1 h63 hbytes (Nat.zero_le _)
  refine ⟨v', w', fun ty => hr, h2, h3, fun g hg => ?_⟩
  subst hsize hby
  have hmx : n + m ≤ 9223372036854775807 := by simp only [maxLen] at h63; omega
  rcases hown.2 with ⟨rfl, rfl⟩ | ⟨g', cap, cur, rfl, _, hgc, hnc, hcm, hcs, _⟩
  · have hx : xs = [] := List.eq_nil_of_length_eq_zero (by simpa using hown.1)
    subst hx
    have hr' := run_append_nil (P := P) w t 0 e i z ht hi hz a m c news hl hnews (by omega) (by omega) (by have hb := hbytes; simp only [Nat.zero_add] at hb; omega)
    rw [hr] at hr'
    injection hr' with e1 e2
    subst e1
    simp [Value.ownBlock] at hg
    exact Or.inr (by omega)
  · by_cases hroom : n + m ≤ cap
    · have hfit : n * i.size + news.length ≤ cur.size := by rw [hl, hcs, ← Nat.add_mul]; exact Nat.mul_le_mul_right _ hroom
      have hr' := run_append_room (P := P) w t 0 e i ht hi g' n cap cur hgc a m c news hl hnews h1 hroom hfit
      rw [hr] at hr'
      injection hr' with e1 e2
      subst e1
      exact Or.inl hg
    · have holds : ∀ j u, xs[j]? = some u → w.cell? ((⟨g', 0, none⟩ : Addr).add j) = some u := hown.cells (g := g') rfl
      have hr' := run_append_grow (P := P) w t 0 e i z ht hi hz ⟨g', 0, none⟩ n cap xs hown.1 holds a m c news hl hnews (by omega) (by omega) (growslice_fits (by omega) hbytes)
      rw [hr] at hr'
      injection hr' with e1 e2
      subst e1
      simp [Value.ownBlock] at hg
      exact Or.inr (by omega)
end Go.Proofs.Ytleghofpabdkhaa
