/- Disk: slices.Backward over writes. -/
import Derived.Test.YtohmofhpbmhhjaaD10
import Derived.RangeFuncNested
import Derived.RangeFuncBound
import Derived.RangeFuncCalls
import Derived.RangeFuncLeaves
import Derived.Shelf.Abstract
import Derived.Shelf.RegionOpen
import Derived.OwnWalkIn
import Derived.TacticsInMore
import Derived.LoopNIn
import Derived.LoopIn
namespace Go.Proofs.Ytohmofhpbmhhjaa
open Go Go.RowKit Go.Shelf
attribute [local go_sem] Oper.semAt_some

section
variable {F : Fence} {n : Nat} {P : Program} {ops : Array Oper} {Q : Exit → Act → World → Prop} {a : Act} {w w' : World} {rest : List Oper} {o : Oper}
theorem wpListIn_runs (hF : ∀ f, F.fn f) (d : Option Tmp) (hd : o.dst = d) (hg : o.guard = none) (hnd : ∀ c, o.op ≠ .defer c) {v : Value} (hr : (execOp a.eval o).run P w = .ok (.value v) w')
    (h : wpListIn F n P ops Q rest (a.put d v) w') : wpListIn F n P ops Q (o :: rest) a w := by
  subst hd
  refine wpListIn_plain hg fun K hK => ⟨fun f _ => hF f, ?_⟩
  rw [Oper.semAt_eq _ _ _ hnd, hr, Oper.uponIn_value]
  exact hK _ _ h
theorem wpListIn_skips (hF : ∀ f, F.fn f) (d : Option Tmp) (hd : o.dst = d) (hg : o.guard = none) (hnd : ∀ c, o.op ≠ .defer c) (hr : (execOp a.eval o).run P w = .ok .skip w')
    (h : wpListIn F n P ops Q rest (a.put d undef) w') : wpListIn F n P ops Q (o :: rest) a w := by
  subst hd
  refine wpListIn_plain hg fun K hK => ⟨fun f _ => hF f, ?_⟩
  rw [Oper.semAt_eq _ _ _ hnd, hr, Oper.uponIn_skip]
  exact hK _ _ h
end
theorem wide_fn : ∀ f, Fence.wide.fn f := fun _ => trivial
theorem ex_alloc {P : Program} {o : Oper} {a : Act} {w : World} (t : TypeId) (ho : o.op = .alloc t) (Z : Array Value) (hz : (zeroValue t).run P w = .ok (.agg Z) w) : (execOp a.eval o).run P w = .ok (.value (.pointer (some ⟨w.heap.size, 0, none⟩))) (w.alloc (.cells Z t)) := by
  unfold execOp
  simp only [ho, Sem.run_bind, run_alloc_row w t Z hz, Result.andThen_ok]
  rfl
theorem run_storeAt_fresh {P : Program} (w : World) (t : TypeId) (Z C : Array Value) (hi : (P.info? t).map (·.size) = some C.size) (hs : Z.size = C.size) (h1 : C.all (·.oneCell') = true) :
    (Instr.storeAt t (.pointer (some ⟨w.heap.size, 0, none⟩)) (.agg C)).run P (w.alloc (.cells Z t)) = .ok () (w.alloc (.cells C t)) := by
  have h := run_storeVar_row (P := P) (w.alloc (.cells Z t)) w.heap.size t t Z C (heap_alloc_last w _) hi hs h1
  rw [World.setRow_alloc_new] at h
  simp only [Instr.storeAt, Instr.sureAddr, Sem.run_bind, Sem.run_pure, Result.andThen_ok, h]

/-- What a round is handed: a number, and a write of a whole page. -/
abbrev WrB := { x : Nat × (Nat × List UInt8) // x.2.2.length = 64 }
def mkB (k : Nat) (y : Nat × List UInt8) : WrB := if h : y.2.length = 64 then ⟨(k, y), h⟩ else ⟨(0, (0, zeroP)), by simp [zeroP]⟩
theorem mkB_ok (k : Nat) (y : Nat × List UInt8) (h : y.2.length = 64) : mkB k y = ⟨(k, y), h⟩ := dif_pos h
/-- What has come when k rounds of slices.Backward are over. -/
def backU (ws : List (Nat × List UInt8)) (k : Nat) : List WrB := (List.range k).map fun j => mkB (ws.length - 1 - j) (ws.getD (ws.length - 1 - j) (0, []))
theorem backU_succ (ws : List (Nat × List UInt8)) (k : Nat) : backU ws (k + 1) = backU ws k ++ [mkB (ws.length - 1 - k) (ws.getD (ws.length - 1 - k) (0, []))] := by simp [backU, List.range_succ]
theorem backU_len (ws : List (Nat × List UInt8)) (k : Nat) : (backU ws k).length = k := by simp [backU]
def encB (x : WrB) : Array Value := #[.int .i64 (x.1.1 : Int), .agg (wrC x.1.2).toArray]

set_option maxRecDepth 100000 in
set_option maxHeartbeats 2000000 in
theorem back1_in (n : Nat) (hn : 1 ≤ n) (l Bs n₀ g cap : Nat) (ws : List (Nat × List UInt8)) (hws : ws.length ≤ 1000) (hlen : ∀ x ∈ ws, (wrC x).length = 65) (hb : g < n₀) (J Jx : List WrB → World → Prop)
    (hY : ∀ pre x W, J pre W → pre.length < ws.length → YieldAt Fence.wide (n - 1) Try.prog l (encB x) W fun e W' =>
      (e = .returned (.bool true) ∧ J (pre ++ [x]) W' ∧ Below n₀ W W') ∨ (e = .returned (.bool false) ∧ Jx (pre ++ [x]) W'))
    (W : World) (hBs : W.cell? ⟨Bs, 0, none⟩ = some (.slice (some ⟨g, 0, none⟩) ws.length cap)) (hBn : Bs < n₀) (hc : ∀ j x, ws[j]? = some x → W.rangeAt g (j * 65) (wrC x)) (h0 : J [] W) :
    CallsIn Fence.wide n Try.prog 38 #[.func (.yield l) #[] #[], .pointer (some ⟨Bs, 0, none⟩)] W fun e W' => (∃ v, e = .returned v) ∧
      ((∃ ys, ys = backU ws ws.length ∧ J ys W') ∨ (∃ pre, (∃ k, k < ws.length ∧ pre = backU ws (k + 1)) ∧ Jx pre W')) := by
  have hsz := (zero_of_info (P := Try.prog) (t := 63) (v := .agg (zeroW 0).toArray) (n := 65) (by kernel_rfl)).2
  have HSZ := Lib.hid hsz
  have HC := Lib.hid hc
  have HL := Lib.hid hlen
  clear hsz hc hlen
  refine callsIn_of_wp Try.func38 rfl (by trivial) ?_ rfl
  simp only [Try.ntmps38, List.size_toArray, List.length_cons, List.length_nil, Nat.reduceAdd, Nat.reduceSub, Array.replicate_succ, Array.replicate_zero, List.push_toArray, List.append_toArray, List.nil_append, List.cons_append]
  gi_wp2
  gi_loopw [3] (fun i wr => ∃ k : Nat, k ≤ ws.length ∧ i = .int .i64 ((ws.length : Int) - 1 - (k : Int)) ∧ J (backU ws k) wr ∧ Below n₀ W wr)
    (fun i _ => (intOf i + 1).toNat)
  case atStart => exact ⟨0, Nat.zero_le _, by simp, h0, Below.refl _ _⟩
  case round =>
    obtain ⟨k, hk, rfl, hJs, hnx⟩ := hrel
    have hbs := (hnx.cell (p := ⟨Bs, 0, none⟩) hBn).trans hBs
    by_cases hlt : k < ws.length
    · obtain ⟨fn, tmps, assign, body, hy, hR⟩ := hY _ (mkB (ws.length - 1 - k) (ws.getD (ws.length - 1 - k) (0, []))) wr hJs (by rw [backU_len]; exact hlt)
      have hget : ws[ws.length - 1 - k]? = some (ws.getD (ws.length - 1 - k) (0, [])) := by
        rw [List.getElem?_eq_getElem (show ws.length - 1 - k < ws.length by omega)]
        simp [List.getD, show ws.length - 1 - k < ws.length by omega]
      have hmem := List.mem_of_getElem? hget
      have hsucc := backU_succ ws k
      have hr0 : wr.rangeAt g ((ws.length - 1 - k) * 65) (wrC (ws.getD (ws.length - 1 - k) (0, []))) := fun j v hj => (hnx.cell (p := ⟨g, (ws.length - 1 - k) * 65 + j, none⟩) hb).trans (HC.out _ _ hget j v hj)
      have hll := HL.out _ hmem
      generalize ws.getD (ws.length - 1 - k) (0, []) = x at *
      obtain ⟨m, hm⟩ : ∃ m, m = ws.length - 1 - k := ⟨_, rfl⟩
      rw [← hm] at hy hR hsucc hr0
      have hmi : (ws.length : Int) - 1 - (k : Int) = (m : Int) := by omega
      rw [hmi]
      have hl63 : (Instr.loadAt 63 (.pointer (some ⟨g, m * 65, none⟩))).run Try.prog wr = .ok (.agg (wrC x).toArray) wr := run_loadAt_mid wr g (m * 65) 63 _ _ hr0 Try.underlying63 rfl (by rw [HSZ.out, hll])
      have hx64 : x.2.length = 64 := by rw [wrC_len] at hll; omega
      rw [mkB_ok m x hx64] at hy hR hsucc
      unfold encB at hy
      dsimp only at hy
      have L63 := Lib.hid hl63
      have SUCC := Lib.hid hsucc
      have HM := Lib.hid hm
      have hm0 : (0 : Int) ≤ (m : Int) := by omega
      have hm1 : (m : Int) < (ws.length : Int) := by omega
      generalize (wrC x).toArray = C at *
      clear hl63 hsucc hm hmi hr0 hll hget hmem
      gi_wp2_with (refine wpListIn_runs wide_fn (some 16) rfl rfl (fun _ h => by cases h) (ex_load 63 (.tmp 15) rfl _ _ rfl L63.out) ?_)
      refine hR.mono ?_
      rintro e W3 (⟨rfl, hJ3, hk3⟩ | ⟨rfl, hJx3⟩)
      · gi_wp2
        go_roundw
        case rel => exact ⟨k + 1, by omega, by have := HM.out; congr 1; omega, by rw [SUCC.out]; exact hJ3, hnx.trans hk3⟩
        case measure => simp [intOf]
      · gi_wp2
        refine bodyPost_ret (results_none rfl _ _ _) rfl ?_
        exact ⟨⟨_, rfl⟩, .inr ⟨_, ⟨k, hlt, SUCC.out.symm⟩, hJx3⟩⟩
    · obtain rfl : k = ws.length := by omega
      gi_wp2
      go_end0
      exact ⟨⟨_, rfl⟩, .inl ⟨_, rfl, hJs⟩⟩

set_option maxRecDepth 100000 in
set_option maxHeartbeats 1000000 in
theorem back1_nil_in (n : Nat) (l Bs : Nat) (J : List WrB → World → Prop) (W : World) (a : Option Addr) (cap : Nat) (hBs : W.cell? ⟨Bs, 0, none⟩ = some (.slice a 0 cap)) (h0 : J [] W) :
    CallsIn Fence.wide n Try.prog 38 #[.func (.yield l) #[] #[], .pointer (some ⟨Bs, 0, none⟩)] W fun e W' => (∃ v, e = .returned v) ∧ J [] W' := by
  refine callsIn_of_wp Try.func38 rfl (by trivial) ?_ rfl
  simp only [Try.ntmps38, List.size_toArray, List.length_cons, List.length_nil, Nat.reduceAdd, Nat.reduceSub, Array.replicate_succ, Array.replicate_zero, List.push_toArray, List.append_toArray, List.nil_append, List.cons_append]
  gi_wp2
  gi_loopw [3] (fun i wr => i = .int .i64 (-1) ∧ J [] wr) (fun _ _ => 0)
  case atStart => exact ⟨rfl, h0⟩
  case round =>
    obtain ⟨rfl, hJs⟩ := hrel
    gi_wp2
    go_end0
    exact ⟨⟨_, rfl⟩, hJs⟩
theorem backward_any (a : Option Addr) (n c : Nat) (w : World) :
    Calls Try.prog 28 #[.slice a n c] w fun e w' => e = .returned (.func (.func 38) #[] #[.pointer (some ⟨w.heap.size, 0, none⟩)]) ∧ w' = w.alloc (.cells #[.slice a n c] 56) := by
  go_enter Try.func28, Try.ntmps28
  go_wp2
  go_ret
  exact ⟨rfl, rfl⟩
/-- slices.Backward(d.waits): all writes, from the last on; or the first k of them. -/
theorem back_stops {O : Nat → Prop} {w : World} {D S c : Nat} {wv : Value} {s : St} (n : Nat) (hn : 1 ≤ n) (h : Dsk O w D S c wv s) (Bs n₀ : Nat) (w0 : World) (hb : Below w.heap.size w w0) (hBs : w0.cell? ⟨Bs, 0, none⟩ = some wv) (hBn : Bs < n₀) (h0 : w.heap.size ≤ n₀) (hn0 : n₀ ≤ w0.heap.size) :
    SeqStopsK Fence.wide n Try.prog 38 #[.pointer (some ⟨Bs, 0, none⟩)] encB (Below n₀) (fun ys => ys = backU s.waits s.waits.length) (fun pre => ∃ k, k < s.waits.length ∧ pre = backU s.waits (k + 1)) s.waits.length w0 := fun l J Jx W hW _ _ hY hJ0 => by
  have hBs' := (hW.cell (p := ⟨Bs, 0, none⟩) (show Bs < w0.heap.size by omega)).trans hBs
  have hbW := hb.trans (hW.mono hb.size)
  rcases h.waits.2 with ⟨hv, hnil⟩ | ⟨g, cap, cur, hv, _⟩
  · rw [hv] at hBs'
    have hw : s.waits = [] := List.eq_nil_of_length_eq_zero hnil
    rw [hw]
    exact (back1_nil_in n l Bs J W none 0 hBs' hJ0).mono fun e W' ⟨he, hj⟩ => ⟨he, .inl ⟨_, rfl, hj⟩⟩
  · subst hv
    have hg := (World.ownsRow.lt h.waits g rfl).2
    exact back1_in n hn l Bs n₀ g cap s.waits h.ok.wn (writes65 h.ok) (by omega) J Jx hY W hBs' hBn (fun j x hx => by
      obtain ⟨g', k', hv', hr, _⟩ := h.writeAt j x hx
      cases hv'
      exact fun i u hu => (hbW.cell (p := ⟨g, j * 65 + i, none⟩) hg).trans (hr i u hu)) hJ0
end Go.Proofs.Ytohmofhpbmhhjaa
