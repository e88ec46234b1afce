/- Coord: finish. -/
import Derived.Test.YtleghofpabdkhaaY14
import Derived.Test.YtleghofpabdkhaaY10
import Derived.Test.YtleghofpabdkhaaY12
namespace Go.Proofs.Ytleghofpabdkhaa
open Go Go.RowKit

theorem bin_addI (a b : Int) (W : World) (h1 : -9223372036854775808 ≤ a + b) (h2 : a + b ≤ 9223372036854775807) : (binOp .add 3 (.int .i64 a) (.int .i64 b)).run Try.prog W = .ok (.int .i64 (a + b)) W := by
  go_simp
  exact IntWalk.i64_in _ ⟨h1, h2⟩
section
variable {o : Oper} {a : Act} {w : World}
theorem ex_addI (t : TypeId) (x y : Operand) (b : Int) (c : Int) (ho : o.op = .binOp .add 3 x y t) (hx : a.eval x = .int .i64 b) (hy : a.eval y = .int .i64 c) (h1 : -9223372036854775808 ≤ b + c) (h2 : b + c ≤ 9223372036854775807) : (execOp a.eval o).run Try.prog w = .ok (.value (.int .i64 (b + c))) w := by
  unfold execOp
  simp [ho, hx, hy, eqGuard, Sem.run_bind, bin_addI _ _ _ h1 h2]
end
theorem FinS.facts {B p bx bs : Nat} {w W : World} {sv sW : Value} {x : Txn} {S : St4} {C : Cd} (h : FinS B w p sv bx bs x S C W sW) :
    W.cell? ⟨bx, 0, none⟩ = some (.int .i64 x.node) ∧ W.cell? ⟨bx, 1, none⟩ = some (.int .i64 x.boot) ∧ W.cell? ⟨bx, 2, none⟩ = some (.int .i64 x.n) ∧ W.cell? ⟨p, 1, none⟩ = some (.int .i64 C.life) ∧ W.cell? ⟨p, 2, none⟩ = some (.int .i64 C.next) ∧ W.cell? ⟨p, 3, none⟩ = some sW ∧ W.frozen? ⟨p, 2, none⟩ = false :=
  ⟨cell_of_row _ _ _ _ _ _ h.rx, cell_of_row _ _ _ _ _ _ h.rx, cell_of_row _ _ _ _ _ _ h.rx, h.at_.cells.2.1, h.at_.cells.2.2.1, h.at_.cells.2.2.2.1, h.at_.cells.2.2.2.2.2.1⟩
theorem FinS.sets {B p bx bs : Nat} {w W : World} {sv sW : Value} {x : Txn} {S : St4} {C : Cd} (h : FinS B w p sv bx bs x S C W sW) :
    W.cell? ⟨bs, 0, none⟩ = some (.bool S.a) ∧ W.cell? ⟨bs, 1, none⟩ = some (.bool S.b) ∧ W.cell? ⟨bs, 2, none⟩ = some (.bool S.c) ∧ W.cell? ⟨bs, 3, none⟩ = some (.bool S.d) :=
  ⟨cell_of_row _ _ _ _ _ _ h.rs, cell_of_row _ _ _ _ _ _ h.rs, cell_of_row _ _ _ _ _ _ h.rs, cell_of_row _ _ _ _ _ _ h.rs⟩
theorem FinS.tx {B p bx bs : Nat} {w W : World} {sv sW : Value} {x : Txn} {S : St4} {C : Cd} (h : FinS B w p sv bx bs x S C W sW) : TxAt W bx x :=
  ⟨h.facts.1, h.facts.2.1, h.facts.2.2.1, lt_of_row' h.rx⟩
set_option maxHeartbeats 32000000 in
set_option maxRecDepth 100000 in
theorem finish_any (B p : Nat) (w : World) (c : Cd) (sv : Value) (x : Txn) (S : St4) (h : CdAt B w p c sv) (hB : B ≤ w.heap.size) (hn : c.under.length ≤ 900) (hx1 : 0 ≤ x.n) (hx2 : x.n ≤ 2147483647) :
    Calls Try.prog 43 #[.pointer (some ⟨p, 0, none⟩), txV x, setV S] w fun e w' => e = .returned (.int .i64 (c.finish x S).1) ∧ OpC B w p sv (c.finish x S).2 w' := by
  obtain ⟨W0, hW0⟩ : ∃ W0, (w.alloc (.cells (txA x) 33)).alloc (.cells (setA S) 74) = W0 := ⟨_, rfl⟩
  have h0 : FinS B w p sv w.heap.size (w.heap.size + 1) x S c W0 sv := hW0 ▸ FinS.new x S h
  have HF : Hid (∀ W, Below W0.heap.size W0 W → FinS B w p sv w.heap.size (w.heap.size + 1) x S c W sv) := Lib.hid (fun W hW => h0.below hW)
  have HSB : Hid (B ≤ w.heap.size) := Lib.hid hB
  have HW0 := Lib.hid hW0
  obtain ⟨sa, sc, rfl, _⟩ := h.lens
  obtain ⟨x0, x1, x2, c1, c2, c3, _⟩ := h0.facts
  unfold txA setA at HW0
  clear h h0 hW0 hB
  unfold txV setV
  by_cases hgt : c.life < x.boot
  · have HD : Hid (c.finish x S = (13, c)) := Lib.hid (by unfold Cd.finish; rw [if_pos hgt])
    go_enter Try.func43, Try.ntmps43
    go_wp2_with (first | rw [HW0.out])
    go_quiet (fail)
    have HE := Lib.hid (HF.out _ (drewN_below W0 nq)).op
    go_wp2
    go_ret
    rw [HD.out]
    exact ⟨rfl, HE.out⟩
  have HGT : Hid (decide (x.boot > c.life) = false) := Lib.hid (decide_eq_false hgt)
  have HFC : Hid (∀ P : Int × Cd → Prop, P (match c.under.find? (doneB x) with
    | some _ => (13, c)
    | none => match c.under.find? (askedB x) with
      | none => c.put x S
      | some t => if t.all = true ∧ t.sh.eq S = true then (c.cut (idxF (askedB x) 0 c.under).toNat).put x S else (13, c)) → P (c.finish x S)) := Lib.hid (fun P hP => by unfold Cd.finish; rw [if_neg hgt]; exact hP)
  have HAS := Lib.hid (done_any x W0.drew)
  have HX1 : Hid (∀ W, Below W0.heap.size W0 W → W.cell? ⟨w.heap.size, 1, none⟩ = some (.int .i64 x.boot) ∧ W.cell? ⟨p, 1, none⟩ = some (.int .i64 c.life) ∧ W.rangeAt w.heap.size 0 [.int .i64 x.node, .int .i64 x.boot, .int .i64 x.n]) := Lib.hid (fun W hW => by
    have hf := (HF.out W hW).facts
    refine ⟨hf.2.1, hf.2.2.2.1, fun j v hj => ?_⟩
    rw [Nat.zero_add]
    match j, hj with
    | 0, hj => cases hj; exact hf.1
    | 1, hj => cases hj; exact hf.2.1
    | 2, hj => cases hj; exact hf.2.2.1)
  have HB0 : Hid (Below W0.heap.size W0 W0.drew) := Lib.hid (Below.refl _ W0).drew
  go_enter Try.func43, Try.ntmps43
  go_wp2_with (first | rw [HW0.out])
  clear x0 x1 x2 c1 c2 c3 hgt HW0
  refine wp_region_held_drew (S := fun W : World => Below W0.heap.size W0 W) (by kernel_rfl) HB0.out (fun _ => ?_)
  refine hh_take 0 (some 9) (.pointer (some ⟨w.heap.size, 1, none⟩)) rfl rfl (by kernel_rfl) (by kernel_rfl) (by kernel_rfl) (fun _ _ _ h => h) rfl (fun _ _ => by kernel_rfl) HB0.out ?_
  simp only [Act.put, List.setIfInBounds_toArray, List.set_cons_zero, List.set_cons_succ]
  refine hh_take 1 (some 10) (.int .i64 x.boot) rfl rfl (by kernel_rfl) (by kernel_rfl) (by kernel_rfl) (fun _ _ _ h => h) rfl (fun W hW => ex_load 3 (.tmp 9) rfl _ _ rfl (run_load_int W _ _ _ (HX1.out W hW).1)) HB0.out ?_
  simp only [Act.put, List.setIfInBounds_toArray, List.set_cons_zero, List.set_cons_succ]
  refine hh_take 2 (some 11) (.pointer (some ⟨p, 0, none⟩)) rfl rfl (by kernel_rfl) (by kernel_rfl) (by kernel_rfl) (fun _ _ _ h => h) rfl (fun _ _ => rfl) HB0.out ?_
  simp only [Act.put, List.setIfInBounds_toArray, List.set_cons_zero, List.set_cons_succ]
  refine hh_take 3 (some 12) (.pointer (some ⟨p, 0, none⟩)) rfl rfl (by kernel_rfl) (by kernel_rfl) (by kernel_rfl) (fun _ _ _ h => h) rfl (fun _ _ => by first | rfl | kernel_rfl | go_simp) HB0.out ?_
  simp only [Act.put, List.setIfInBounds_toArray, List.set_cons_zero, List.set_cons_succ]
  refine hh_take 4 (some 13) (.pointer (some ⟨p, 1, none⟩)) rfl rfl (by kernel_rfl) (by kernel_rfl) (by kernel_rfl) (fun _ _ _ h => h) rfl (fun _ _ => by kernel_rfl) HB0.out ?_
  simp only [Act.put, List.setIfInBounds_toArray, List.set_cons_zero, List.set_cons_succ]
  refine hh_take 5 (some 14) (.int .i64 c.life) rfl rfl (by kernel_rfl) (by kernel_rfl) (by kernel_rfl) (fun _ _ _ h => h) rfl (fun W hW => ex_load 3 (.tmp 13) rfl _ _ rfl (run_load_int W _ _ _ (HX1.out W hW).2.1)) HB0.out ?_
  simp only [Act.put, List.setIfInBounds_toArray, List.set_cons_zero, List.set_cons_succ]
  refine hh_take 6 (some 15) (.bool false) rfl rfl (by kernel_rfl) (by kernel_rfl) (by kernel_rfl) (fun _ _ _ h => h) rfl (fun W _ => by rw [ex_gtrI _ (.tmp 10) (.tmp 14) x.boot c.life rfl rfl rfl, HGT.out]) HB0.out ?_
  simp only [Act.put, List.setIfInBounds_toArray, List.set_cons_zero, List.set_cons_succ]
  refine hh_take 7 (some 16) (.bool false) rfl rfl (by kernel_rfl) (by kernel_rfl) (by kernel_rfl) (fun _ _ _ h => h) rfl (fun _ _ => rfl) HB0.out ?_
  simp only [Act.put, List.setIfInBounds_toArray, List.set_cons_zero, List.set_cons_succ]
  refine hh_take 8 (some 17) (.pointer (some ⟨p, 0, none⟩)) rfl rfl (by kernel_rfl) (by kernel_rfl) (by kernel_rfl) (fun _ _ _ h => h) rfl (fun _ _ => rfl) HB0.out ?_
  simp only [Act.put, List.setIfInBounds_toArray, List.set_cons_zero, List.set_cons_succ]
  refine hh_take 9 (some 18) (txV x) rfl rfl (by kernel_rfl) (by kernel_rfl) (by kernel_rfl) (fun _ _ _ h => h) rfl (fun W hW => ex_load 33 (.tmp 4) rfl _ _ rfl (run_loadAt_mid W w.heap.size 0 33 [.int .i64 x.node, .int .i64 x.boot, .int .i64 x.n] _ (HX1.out W hW).2.2 Try.underlying33 rfl (infoTx x))) HB0.out ?_
  simp only [Act.put, List.setIfInBounds_toArray, List.set_cons_zero, List.set_cons_succ]
  refine hh_oneG 10 (by kernel_rfl) rfl rfl (fun K hK => wp_callsE (some 19) rfl 36 _ (ex_call1 36 (.tmp 18) _ rfl _ rfl (fun _ _ => rfl)) (fun v w1 => CloR 61 x W0.drew (.returned v) w1) (HAS.out.mono fun e w1 h => by obtain ⟨b, rfl, h2⟩ := h; exact ⟨_, rfl, b, rfl, h2⟩) (fun v1 w1 hR => hK _ _ (HB0.out.trans (by obtain ⟨_, _, _, hb⟩ := hR; exact hb)) ?_))
  clear hK K
  simp only [Act.put, List.setIfInBounds_toArray, List.set_cons_zero, List.set_cons_succ]
  obtain ⟨b, he, hbx, hb1⟩ := hR
  injection he with he
  subst he
  have hB1 := HB0.out.trans hb1
  have HFD := Lib.hid (find_done B p w1 c _ x b (HF.out w1 hB1).at_ hbx (by omega))
  have HB1 := Lib.hid hB1
  clear hB1 hbx hb1 HAS
  refine hh_oneG 11 (by kernel_rfl) rfl rfl (fun K hK => wp_callsh (some 20) rfl 30 _ (ex_call2 30 (.tmp 17) (.tmp 19) _ rfl _ _ rfl rfl (fun _ _ => rfl)) (.int .i64 (idxF (doneB x) 0 c.under)) (fun w2 => Below w1.heap.size w1 w2) HFD.out (fun w2 hR => hK _ _ (HB1.out.trans (hR.mono HB1.out.size)) ?_))
  clear hK K
  simp only [Act.put, List.setIfInBounds_toArray, List.set_cons_zero, List.set_cons_succ]
  have HB2 := Lib.hid (HB1.out.trans (hR.mono HB1.out.size))
  clear hR HFD HB1 HX1 HB0
  rcases idx_spec (doneB x) c.under 0 with ⟨e1, e2⟩ | ⟨j, t, e1, e2, e3, e4⟩
  case' inr =>
    rw [Nat.zero_add] at e1
    have HD : Hid (c.finish x S = (13, c)) := Lib.hid (HFC.out (fun r => r = (13, c)) (by rw [find_idx _ _ 0 j t (by rw [e1, Nat.zero_add]) e2]))
    have HE := Lib.hid (HF.out _ HB2.out).op
    have hj0 : decide ((j : Int) ≥ 0) = true := decide_eq_true (by omega)
    rw [e1]
    clear e1 e2 e3 e4 HFC HF
    refine hh_take 12 (some 21) (.bool true) rfl rfl (by kernel_rfl) (by kernel_rfl) (by kernel_rfl) (fun _ _ _ h => h) rfl (fun W _ => by rw [ex_geqI _ (.tmp 20) (.const (.int .i64 0)) (j : Int) 0 rfl rfl rfl, hj0]) HB2.out ?_
    simp only [Act.put, List.setIfInBounds_toArray, List.set_cons_zero, List.set_cons_succ]
    refine hh_take 13 (some 22) (.bool true) rfl rfl (by kernel_rfl) (by kernel_rfl) (by kernel_rfl) (fun _ _ _ h => h) rfl (fun _ _ => rfl) HB2.out ?_
    simp only [Act.put, List.setIfInBounds_toArray, List.set_cons_zero, List.set_cons_succ]
    refine wpAnyH_done (by kernel_rfl) ?_ _
    go_wp2
    go_ret
    rw [HD.out]
    exact ⟨rfl, HE.out⟩
  have HFC2 : Hid (∀ P : Int × Cd → Prop, P (match c.under.find? (askedB x) with
      | none => c.put x S
      | some t => if t.all = true ∧ t.sh.eq S = true then (c.cut (idxF (askedB x) 0 c.under).toNat).put x S else (13, c)) → P (c.finish x S)) := Lib.hid (fun P hP => HFC.out P (by rw [find_none _ _ e2]; exact hP))
  rw [e1]
  clear e1 e2 HFC
  refine hh_take 12 (some 21) (.bool false) rfl rfl (by kernel_rfl) (by kernel_rfl) (by kernel_rfl) (fun _ _ _ h => h) rfl (fun W _ => by rw [ex_geqI _ (.tmp 20) (.const (.int .i64 0)) (-1 : Int) 0 rfl rfl rfl]; rfl) HB2.out ?_
  simp only [Act.put, List.setIfInBounds_toArray, List.set_cons_zero, List.set_cons_succ]
  refine hh_take 13 (some 22) (.bool false) rfl rfl (by kernel_rfl) (by kernel_rfl) (by kernel_rfl) (fun _ _ _ h => h) rfl (fun _ _ => rfl) HB2.out ?_
  simp only [Act.put, List.setIfInBounds_toArray, List.set_cons_zero, List.set_cons_succ]
  refine wpAnyH_done (by kernel_rfl) ?_ _
  obtain ⟨x0, x1, x2, _⟩ := (HF.out w2 HB2.out).tx
  have ha := asked_any x w2
  unfold txV at ha
  have HAS := Lib.hid ha
  clear ha
  go_wp2_with fail
  refine HAS.out.mono ?_
  rintro e w3 ⟨b, rfl, hbx, hb3⟩
  have hB3 := HB2.out.trans (hb3.mono HB2.out.size)
  have HFA := Lib.hid (find_asked B p w3 c _ x b (HF.out w3 hB3).at_ hbx (by omega))
  have HB3 := Lib.hid hB3
  clear HAS x0 x1 x2 hB3 hb3 hbx HB2
  go_wp2_with fail
  refine HFA.out.mono ?_
  rintro e w4 ⟨rfl, hb4⟩
  have HB4 := Lib.hid (HB3.out.trans (hb4.mono HB3.out.size))
  clear HFA HB3 hb4
  have HF4 := Lib.hid (HF.out w4 HB4.out)
  rcases idx_spec (askedB x) c.under 0 with ⟨e1, e2⟩ | ⟨j, t, e1, e2, e3, e4⟩
  · have HD : Hid (c.finish x S = c.put x S) := Lib.hid (HFC2.out (fun r => r = c.put x S) (by rw [find_none _ _ e2]))
    rw [e1]
    clear e1 e2 HFC2 HF HB4
    obtain ⟨x0, x1, x2, c1, c2, c3, _⟩ := HF4.out.facts
    by_cases hfull : 8 ≤ c.under.length
    · have HD2 : Hid (c.put x S = (8, c)) := Lib.hid (by unfold Cd.put; rw [if_pos hfull])
      have HE := Lib.hid HF4.out.op
      have hfull' : (8 : Int) ≤ (c.under.length : Int) := by omega
      clear hfull
      go_wp2
      go_ret
      rw [HD.out, HD2.out]
      exact ⟨rfl, HE.out⟩
    have hfull' : ¬ (8 : Int) ≤ (c.under.length : Int) := by omega
    obtain ⟨tt, htt⟩ : ∃ tt : Trn, tt = ⟨x, S, St4.none, true⟩ := ⟨_, rfl⟩
    obtain ⟨nx, hnx⟩ : ∃ z, (if x.boot = c.life then max c.next (x.n + 1) else c.next) = z := ⟨_, rfl⟩
    have HD2 : Hid (c.put x S = (0, { c with under := c.under ++ [tt], next := nx })) := Lib.hid (by unfold Cd.put; rw [if_neg hfull, htt, hnx])
    have HTT : Hid (tt = ⟨x, S, St4.none, true⟩) := Lib.hid htt
    obtain ⟨na, nc, w6, hap, hr6, h7⟩ := FinS.app HF4.out HSB.out (by omega) tt
    obtain ⟨w7, hw7⟩ : ∃ w7, w6.setCell ⟨p, 3, none⟩ (.slice na (c.under ++ [tt]).length nc) = w7 := ⟨_, rfl⟩
    rw [hw7] at h7
    have HAP := Lib.hid hap
    have HR6 := Lib.hid hr6
    have HW7 := Lib.hid hw7
    have HF7 := Lib.hid h7
    have HNX := Lib.hid hnx
    have HRX := Lib.hid HF4.out.rx
    have HRS := Lib.hid HF4.out.rs
    have HRP := Lib.hid HF4.out.at_.row
    clear hfull htt hap hr6 h7 hw7 hnx
    go_wp2_with fail
    clear x0 x1 x2 c1 c2 c3 hfull'
    refine wp_region_held_drew (S := fun W : World => W.heap[w.heap.size]? = some (.cells (txA x) 33 (0, 0)) ∧ W.heap[(w.heap.size + 1)]? = some (.cells (setA S) 74 (0, 0))) (by kernel_rfl) ⟨HRX.out, HRS.out⟩ (fun _ => ?_)
    refine hh_take 0 (some 54) (.pointer (some ⟨p, 0, none⟩)) rfl rfl (by kernel_rfl) (by kernel_rfl) (by kernel_rfl) (fun _ _ _ h => h) rfl (fun _ _ => rfl) ⟨HRX.out, HRS.out⟩ ?_
    simp only [Act.put, List.setIfInBounds_toArray, List.set_cons_zero, List.set_cons_succ]
    refine hh_take 1 (some 55) (.pointer (some ⟨p, 0, none⟩)) rfl rfl (by kernel_rfl) (by kernel_rfl) (by kernel_rfl) (fun _ _ _ h => h) rfl (fun _ _ => rfl) ⟨HRX.out, HRS.out⟩ ?_
    simp only [Act.put, List.setIfInBounds_toArray, List.set_cons_zero, List.set_cons_succ]
    refine hh_take 2 (some 56) (.pointer (some ⟨p, 0, none⟩)) rfl rfl (by kernel_rfl) (by kernel_rfl) (by kernel_rfl) (fun _ _ _ h => h) rfl (fun _ _ => by first | rfl | kernel_rfl | go_simp) ⟨HRX.out, HRS.out⟩ ?_
    simp only [Act.put, List.setIfInBounds_toArray, List.set_cons_zero, List.set_cons_succ]
    refine hh_take 3 (some 57) (.pointer (some ⟨p, 3, none⟩)) rfl rfl (by kernel_rfl) (by kernel_rfl) (by kernel_rfl) (fun _ _ _ h => h) rfl (fun _ _ => by kernel_rfl) ⟨HRX.out, HRS.out⟩ ?_
    simp only [Act.put, List.setIfInBounds_toArray, List.set_cons_zero, List.set_cons_succ]
    refine hh_take 5 (some 59) (txV x) rfl rfl (by kernel_rfl) (by kernel_rfl) (by kernel_rfl) (fun _ _ _ h => h) rfl (fun W hW => ex_load 33 (.tmp 4) rfl _ _ rfl (run_loadAt_mid W w.heap.size 0 33 [.int .i64 x.node, .int .i64 x.boot, .int .i64 x.n] _ (fun j v hj => by
          match j, hj with
          | 0, hj => cases hj; exact cell_of_row _ _ _ _ _ _ hW.1
          | 1, hj => cases hj; exact cell_of_row _ _ _ _ _ _ hW.1
          | 2, hj => cases hj; exact cell_of_row _ _ _ _ _ _ hW.1) Try.underlying33 rfl (infoTx x))) ⟨HRX.out, HRS.out⟩ ?_
    simp only [Act.put, List.setIfInBounds_toArray, List.set_cons_zero, List.set_cons_succ]
    refine hh_take 6 (some 60) (setV S) rfl rfl (by kernel_rfl) (by kernel_rfl) (by kernel_rfl) (fun _ _ _ h => h) rfl (fun W hW => ex_load 74 (.tmp 5) rfl _ _ rfl (run_loadAt_mid W (w.heap.size + 1) 0 74 [.bool S.a, .bool S.b, .bool S.c, .bool S.d] _ (fun j v hj => by
          match j, hj with
          | 0, hj => cases hj; exact cell_of_row _ _ _ _ _ _ hW.2
          | 1, hj => cases hj; exact cell_of_row _ _ _ _ _ _ hW.2
          | 2, hj => cases hj; exact cell_of_row _ _ _ _ _ _ hW.2
          | 3, hj => cases hj; exact cell_of_row _ _ _ _ _ _ hW.2) Try.underlying74 rfl (infoS4 S))) ⟨HRX.out, HRS.out⟩ ?_
    simp only [Act.put, List.setIfInBounds_toArray, List.set_cons_zero, List.set_cons_succ]
    refine hh_take 7 (some 61) (trnV tt) rfl rfl (by kernel_rfl) (by kernel_rfl) (by kernel_rfl) (fun _ _ _ h => h) rfl (fun _ _ => by rw [HTT.out]; unfold trnV cellsT; first | rfl | kernel_rfl | go_simp) ⟨HRX.out, HRS.out⟩ ?_
    simp only [Act.put, List.setIfInBounds_toArray, List.set_cons_zero, List.set_cons_succ]
    have HALLOC : Hid ((w4.drew.alloc (.cells (cellsT tt).toArray 78)).heap[w.heap.size]? = some (.cells (txA x) 33 (0, 0)) ∧ (w4.drew.alloc (.cells (cellsT tt).toArray 78)).heap[(w.heap.size + 1)]? = some (.cells (setA S) 74 (0, 0)) ∧ (w4.drew.alloc (.cells (cellsT tt).toArray 78)).cell? ⟨p, 3, none⟩ = some (.slice sa c.under.length sc)) := Lib.hid (by
      have hb : Below w4.heap.size w4 (w4.drew.alloc (.cells (cellsT tt).toArray 78)) := ((Below.refl _ w4).drew).alloc (Nat.le_refl _) _
      exact ⟨(hb.block _ (lt_of_row' HRX.out)).trans HRX.out, (hb.block _ (lt_of_row' HRS.out)).trans HRS.out, cell_of_row _ _ _ _ _ _ ((hb.block _ (lt_of_row' HRP.out)).trans HRP.out)⟩)
    refine hh_two 4 8 (by kernel_rfl) rfl rfl rfl rfl (fun K hK => wp_runsh (some 58) rfl (ex_load 70 (.tmp 57) rfl _ _ rfl (run_load_tr _ _ _ _ _ _ (cell_of_row _ _ _ _ _ _ HRP.out))) (hK _ _ ⟨HRX.out, HRS.out⟩ ?_)) (fun K hK => wp_runsh (some 62) rfl (ex_buildSlice 70 1 _ rfl [(0, trnV tt)] rfl _ (run_lit_tr _ _)) (hK _ _ ⟨HALLOC.out.1, HALLOC.out.2.1⟩ ?_))
    · clear hK K
      simp only [Act.put, List.setIfInBounds_toArray, List.set_cons_zero, List.set_cons_succ]
      refine hh_one 8 (by kernel_rfl) rfl rfl (fun K hK => wp_runsh (some 62) rfl (ex_buildSlice 70 1 _ rfl [(0, trnV tt)] rfl _ (run_lit_tr _ _)) (hK _ _ ⟨HALLOC.out.1, HALLOC.out.2.1⟩ ?_))
      clear hK K
      simp only [Act.put, List.setIfInBounds_toArray, List.set_cons_zero, List.set_cons_succ]
      refine hh_one 9 (by kernel_rfl) rfl rfl (fun K hK => wp_runsh (some 63) rfl (ex_append (.tmp 58) (.tmp 62) 70 70 rfl _ _ _ rfl rfl HAP.out) (hK _ _ ⟨HR6.out.1, HR6.out.2.1⟩ ?_))
      clear hK K
      simp only [Act.put, List.setIfInBounds_toArray, List.set_cons_zero, List.set_cons_succ]
      refine hh_take 10 (some 64) (.pointer (some ⟨p, 0, none⟩)) rfl rfl (by kernel_rfl) (by kernel_rfl) (by kernel_rfl) (fun _ _ _ h => h) rfl (fun _ _ => by first | rfl | kernel_rfl | go_simp) ⟨HR6.out.1, HR6.out.2.1⟩ ?_
      simp only [Act.put, List.setIfInBounds_toArray, List.set_cons_zero, List.set_cons_succ]
      refine hh_take 11 (some 65) (.pointer (some ⟨p, 3, none⟩)) rfl rfl (by kernel_rfl) (by kernel_rfl) (by kernel_rfl) (fun _ _ _ h => h) rfl (fun _ _ => by kernel_rfl) ⟨HR6.out.1, HR6.out.2.1⟩ ?_
      simp only [Act.put, List.setIfInBounds_toArray, List.set_cons_zero, List.set_cons_succ]
      refine hh_one 12 (by kernel_rfl) rfl rfl (fun K hK => wp_skipsh none rfl (ex_store 70 (.tmp 65) (.tmp 63) rfl _ _ rfl rfl (run_store_tr _ _ _ _ _ _ _ (cell_of_row _ _ _ _ _ _ HR6.out.2.2) ⟨_, _, _, rfl⟩ (frozen_of_row _ _ _ _ _ HR6.out.2.2))) (hK _ _ (by rw [HW7.out]; exact ⟨HF7.out.rx, HF7.out.rs⟩) ?_))
      clear hK K
      simp only [Act.put]
      refine wpAnyH_done (by kernel_rfl) ?_ _
      rw [HW7.out]
      clear HAP HR6 HW7 HRX HRS HRP HTT HALLOC
      obtain ⟨x0, x1, x2, c1, c2, c3, f2⟩ := HF7.out.facts
      by_cases hbt : x.boot = c.life
      case neg =>
        have HNX2 : Hid (nx = c.next) := Lib.hid (by rw [← HNX.out, if_neg hbt])
        have e1 : (x.boot == c.life) = false := beq_eq_false_iff_ne.2 hbt
        go_wp2_with fail
        go_quiet (fail)
        have HE := Lib.hid (HF7.out.below (drewN_below w7 nq)).op
        go_wp2
        go_ret
        rw [HD.out, HD2.out, HNX2.out]
        exact ⟨rfl, HE.out⟩
      have e1 : (x.boot == c.life) = true := by rw [hbt]; exact beq_self_eq_true _
      have HNX2 : Hid (max c.next (x.n + 1) = nx) := Lib.hid (by rw [← HNX.out, if_pos hbt])
      go_wp2_with fail
      go_quiet (fail)
      have hbd := drewN_below w7 nq
      obtain ⟨W9, hW9⟩ : ∃ W9, w7.drewN nq = W9 := ⟨_, rfl⟩
      rw [hW9] at hbd ⊢
      have HF9 := Lib.hid (HF7.out.below hbd)
      clear x0 x1 x2 c1 c2 c3 f2 hbd hW9 hbt HNX HF7
      go_wp2_with fail
      clear e1
      have HS9 : Hid (W9.drew.heap[w.heap.size]? = some (.cells (txA x) 33 (0, 0)) ∧ W9.drew.heap[p]? = some (.cells #[.int .i64 c.node, .int .i64 c.life, .int .i64 c.next, .slice na (c.under ++ [tt]).length nc] 72 (0, 0))) := Lib.hid ⟨HF9.out.rx, HF9.out.at_.row⟩
      refine wp_region_held_drew (S := fun W : World => W.heap[w.heap.size]? = some (.cells (txA x) 33 (0, 0))) (by kernel_rfl) HS9.out.1 (fun _ => ?_)
      refine hh_take 0 (some 73) (.pointer (some ⟨p, 0, none⟩)) rfl rfl (by kernel_rfl) (by kernel_rfl) (by kernel_rfl) (fun _ _ _ h => h) rfl (fun _ _ => rfl) HS9.out.1 ?_
      simp only [Act.put, List.setIfInBounds_toArray, List.set_cons_zero, List.set_cons_succ]
      refine hh_take 1 (some 74) (.pointer (some ⟨p, 0, none⟩)) rfl rfl (by kernel_rfl) (by kernel_rfl) (by kernel_rfl) (fun _ _ _ h => h) rfl (fun _ _ => rfl) HS9.out.1 ?_
      simp only [Act.put, List.setIfInBounds_toArray, List.set_cons_zero, List.set_cons_succ]
      refine hh_take 2 (some 75) (.pointer (some ⟨p, 0, none⟩)) rfl rfl (by kernel_rfl) (by kernel_rfl) (by kernel_rfl) (fun _ _ _ h => h) rfl (fun _ _ => by first | rfl | kernel_rfl | go_simp) HS9.out.1 ?_
      simp only [Act.put, List.setIfInBounds_toArray, List.set_cons_zero, List.set_cons_succ]
      refine hh_take 3 (some 76) (.pointer (some ⟨p, 2, none⟩)) rfl rfl (by kernel_rfl) (by kernel_rfl) (by kernel_rfl) (fun _ _ _ h => h) rfl (fun _ _ => by kernel_rfl) HS9.out.1 ?_
      simp only [Act.put, List.setIfInBounds_toArray, List.set_cons_zero, List.set_cons_succ]
      refine hh_take 5 (some 78) (.pointer (some ⟨w.heap.size, 2, none⟩)) rfl rfl (by kernel_rfl) (by kernel_rfl) (by kernel_rfl) (fun _ _ _ h => h) rfl (fun _ _ => by kernel_rfl) HS9.out.1 ?_
      simp only [Act.put, List.setIfInBounds_toArray, List.set_cons_zero, List.set_cons_succ]
      refine hh_take 6 (some 79) (.int .i64 x.n) rfl rfl (by kernel_rfl) (by kernel_rfl) (by kernel_rfl) (fun _ _ _ h => h) rfl (fun W hW => ex_load 3 (.tmp 78) rfl _ _ rfl (run_load_int W _ _ _ (cell_of_row _ _ _ _ _ _ hW))) HS9.out.1 ?_
      simp only [Act.put, List.setIfInBounds_toArray, List.set_cons_zero, List.set_cons_succ]
      refine hh_take 7 (some 80) (.int .i64 (x.n + 1)) rfl rfl (by kernel_rfl) (by kernel_rfl) (by kernel_rfl) (fun _ _ _ h => h) rfl (fun W _ => ex_addI _ (.tmp 79) (.const (.int .i64 1)) x.n 1 rfl rfl rfl (by omega) (by omega)) HS9.out.1 ?_
      simp only [Act.put, List.setIfInBounds_toArray, List.set_cons_zero, List.set_cons_succ]
      refine hh_one 4 (by kernel_rfl) rfl rfl (fun K hK => wp_runsh (some 77) rfl (ex_load 3 (.tmp 76) rfl _ _ rfl (run_load_int _ _ _ _ (cell_of_row _ _ _ _ _ _ HS9.out.2))) (hK _ _ HS9.out.1 ?_))
      clear hK K
      simp only [Act.put, List.setIfInBounds_toArray, List.set_cons_zero, List.set_cons_succ]
      refine hh_one 8 (by kernel_rfl) rfl rfl (fun K hK => wp_runsh (some 81) rfl (ex_maxI (.tmp 77) (.tmp 80) c.next (x.n + 1) rfl rfl rfl) (hK _ _ HS9.out.1 ?_))
      clear hK K
      simp only [Act.put, List.setIfInBounds_toArray, List.set_cons_zero, List.set_cons_succ]
      rw [HNX2.out]
      refine hh_take 9 (some 82) (.pointer (some ⟨p, 0, none⟩)) rfl rfl (by kernel_rfl) (by kernel_rfl) (by kernel_rfl) (fun _ _ _ h => h) rfl (fun _ _ => by first | rfl | kernel_rfl | go_simp) HS9.out.1 ?_
      simp only [Act.put, List.setIfInBounds_toArray, List.set_cons_zero, List.set_cons_succ]
      refine hh_take 10 (some 83) (.pointer (some ⟨p, 2, none⟩)) rfl rfl (by kernel_rfl) (by kernel_rfl) (by kernel_rfl) (fun _ _ _ h => h) rfl (fun _ _ => by kernel_rfl) HS9.out.1 ?_
      simp only [Act.put, List.setIfInBounds_toArray, List.set_cons_zero, List.set_cons_succ]
      have HOP := Lib.hid (FinS.next (HF9.out.below ((Below.refl _ W9).drew)) nx)
      have hst : (Instr.storeAt 3 (.pointer (some ⟨p, 2, none⟩)) (.int .i64 nx)).run Try.prog W9.drew = .ok () (W9.drew.setCell ⟨p, 2, none⟩ (.int .i64 nx)) := by
        have g2 : W9.drew.cell? ⟨p, 2, none⟩ = some (.int .i64 c.next) := cell_of_row _ _ _ _ _ _ HS9.out.2
        have q2 : W9.drew.frozen? ⟨p, 2, none⟩ = false := frozen_of_row _ _ _ _ _ HS9.out.2
        go_simp
      refine hh_one 11 (by kernel_rfl) rfl rfl (fun K hK => wp_skipsh none rfl (ex_store 3 (.tmp 83) (.tmp 81) rfl _ _ rfl rfl hst) (hK _ _ (((Fr.refl (· = p) W9.drew).setCell ⟨p, 2, none⟩ (Or.inl rfl) _ |>.block _ (lt_of_row' HS9.out.1) HF9.out.ne.1).trans HS9.out.1) ?_))
      clear hK K
      simp only [Act.put]
      refine wpAnyH_done (by kernel_rfl) ?_ _
      obtain ⟨wz, hwz⟩ : ∃ wz, W9.drew.setCell ⟨p, 2, none⟩ (.int .i64 nx) = wz := ⟨_, rfl⟩
      rw [hwz] at HOP ⊢
      clear hst HS9 HF9 hwz
      go_wp2
      go_ret
      rw [HD.out, HD2.out]
      exact ⟨rfl, HOP.out⟩
    · clear hK K
      simp only [Act.put, List.setIfInBounds_toArray, List.set_cons_zero, List.set_cons_succ]
      refine hh_one 4 (by kernel_rfl) rfl rfl (fun K hK => wp_runsh (some 58) rfl (ex_load 70 (.tmp 57) rfl _ _ rfl (run_load_tr _ _ _ _ _ _ (HALLOC.out.2.2))) (hK _ _ ⟨HALLOC.out.1, HALLOC.out.2.1⟩ ?_))
      clear hK K
      simp only [Act.put, List.setIfInBounds_toArray, List.set_cons_zero, List.set_cons_succ]
      refine hh_one 9 (by kernel_rfl) rfl rfl (fun K hK => wp_runsh (some 63) rfl (ex_append (.tmp 58) (.tmp 62) 70 70 rfl _ _ _ rfl rfl HAP.out) (hK _ _ ⟨HR6.out.1, HR6.out.2.1⟩ ?_))
      clear hK K
      simp only [Act.put, List.setIfInBounds_toArray, List.set_cons_zero, List.set_cons_succ]
      refine hh_take 10 (some 64) (.pointer (some ⟨p, 0, none⟩)) rfl rfl (by kernel_rfl) (by kernel_rfl) (by kernel_rfl) (fun _ _ _ h => h) rfl (fun _ _ => by first | rfl | kernel_rfl | go_simp) ⟨HR6.out.1, HR6.out.2.1⟩ ?_
      simp only [Act.put, List.setIfInBounds_toArray, List.set_cons_zero, List.set_cons_succ]
      refine hh_take 11 (some 65) (.pointer (some ⟨p, 3, none⟩)) rfl rfl (by kernel_rfl) (by kernel_rfl) (by kernel_rfl) (fun _ _ _ h => h) rfl (fun _ _ => by kernel_rfl) ⟨HR6.out.1, HR6.out.2.1⟩ ?_
      simp only [Act.put, List.setIfInBounds_toArray, List.set_cons_zero, List.set_cons_succ]
      refine hh_one 12 (by kernel_rfl) rfl rfl (fun K hK => wp_skipsh none rfl (ex_store 70 (.tmp 65) (.tmp 63) rfl _ _ rfl rfl (run_store_tr _ _ _ _ _ _ _ (cell_of_row _ _ _ _ _ _ HR6.out.2.2) ⟨_, _, _, rfl⟩ (frozen_of_row _ _ _ _ _ HR6.out.2.2))) (hK _ _ (by rw [HW7.out]; exact ⟨HF7.out.rx, HF7.out.rs⟩) ?_))
      clear hK K
      simp only [Act.put]
      refine wpAnyH_done (by kernel_rfl) ?_ _
      rw [HW7.out]
      clear HAP HR6 HW7 HRX HRS HRP HTT HALLOC
      obtain ⟨x0, x1, x2, c1, c2, c3, f2⟩ := HF7.out.facts
      by_cases hbt : x.boot = c.life
      case neg =>
        have HNX2 : Hid (nx = c.next) := Lib.hid (by rw [← HNX.out, if_neg hbt])
        have e1 : (x.boot == c.life) = false := beq_eq_false_iff_ne.2 hbt
        go_wp2_with fail
        go_quiet (fail)
        have HE := Lib.hid (HF7.out.below (drewN_below w7 nq)).op
        go_wp2
        go_ret
        rw [HD.out, HD2.out, HNX2.out]
        exact ⟨rfl, HE.out⟩
      have e1 : (x.boot == c.life) = true := by rw [hbt]; exact beq_self_eq_true _
      have HNX2 : Hid (max c.next (x.n + 1) = nx) := Lib.hid (by rw [← HNX.out, if_pos hbt])
      go_wp2_with fail
      go_quiet (fail)
      have hbd := drewN_below w7 nq
      obtain ⟨W9, hW9⟩ : ∃ W9, w7.drewN nq = W9 := ⟨_, rfl⟩
      rw [hW9] at hbd ⊢
      have HF9 := Lib.hid (HF7.out.below hbd)
      clear x0 x1 x2 c1 c2 c3 f2 hbd hW9 hbt HNX HF7
      go_wp2_with fail
      clear e1
      have HS9 : Hid (W9.drew.heap[w.heap.size]? = some (.cells (txA x) 33 (0, 0)) ∧ W9.drew.heap[p]? = some (.cells #[.int .i64 c.node, .int .i64 c.life, .int .i64 c.next, .slice na (c.under ++ [tt]).length nc] 72 (0, 0))) := Lib.hid ⟨HF9.out.rx, HF9.out.at_.row⟩
      refine wp_region_held_drew (S := fun W : World => W.heap[w.heap.size]? = some (.cells (txA x) 33 (0, 0))) (by kernel_rfl) HS9.out.1 (fun _ => ?_)
      refine hh_take 0 (some 73) (.pointer (some ⟨p, 0, none⟩)) rfl rfl (by kernel_rfl) (by kernel_rfl) (by kernel_rfl) (fun _ _ _ h => h) rfl (fun _ _ => rfl) HS9.out.1 ?_
      simp only [Act.put, List.setIfInBounds_toArray, List.set_cons_zero, List.set_cons_succ]
      refine hh_take 1 (some 74) (.pointer (some ⟨p, 0, none⟩)) rfl rfl (by kernel_rfl) (by kernel_rfl) (by kernel_rfl) (fun _ _ _ h => h) rfl (fun _ _ => rfl) HS9.out.1 ?_
      simp only [Act.put, List.setIfInBounds_toArray, List.set_cons_zero, List.set_cons_succ]
      refine hh_take 2 (some 75) (.pointer (some ⟨p, 0, none⟩)) rfl rfl (by kernel_rfl) (by kernel_rfl) (by kernel_rfl) (fun _ _ _ h => h) rfl (fun _ _ => by first | rfl | kernel_rfl | go_simp) HS9.out.1 ?_
      simp only [Act.put, List.setIfInBounds_toArray, List.set_cons_zero, List.set_cons_succ]
      refine hh_take 3 (some 76) (.pointer (some ⟨p, 2, none⟩)) rfl rfl (by kernel_rfl) (by kernel_rfl) (by kernel_rfl) (fun _ _ _ h => h) rfl (fun _ _ => by kernel_rfl) HS9.out.1 ?_
      simp only [Act.put, List.setIfInBounds_toArray, List.set_cons_zero, List.set_cons_succ]
      refine hh_take 5 (some 78) (.pointer (some ⟨w.heap.size, 2, none⟩)) rfl rfl (by kernel_rfl) (by kernel_rfl) (by kernel_rfl) (fun _ _ _ h => h) rfl (fun _ _ => by kernel_rfl) HS9.out.1 ?_
      simp only [Act.put, List.setIfInBounds_toArray, List.set_cons_zero, List.set_cons_succ]
      refine hh_take 6 (some 79) (.int .i64 x.n) rfl rfl (by kernel_rfl) (by kernel_rfl) (by kernel_rfl) (fun _ _ _ h => h) rfl (fun W hW => ex_load 3 (.tmp 78) rfl _ _ rfl (run_load_int W _ _ _ (cell_of_row _ _ _ _ _ _ hW))) HS9.out.1 ?_
      simp only [Act.put, List.setIfInBounds_toArray, List.set_cons_zero, List.set_cons_succ]
      refine hh_take 7 (some 80) (.int .i64 (x.n + 1)) rfl rfl (by kernel_rfl) (by kernel_rfl) (by kernel_rfl) (fun _ _ _ h => h) rfl (fun W _ => ex_addI _ (.tmp 79) (.const (.int .i64 1)) x.n 1 rfl rfl rfl (by omega) (by omega)) HS9.out.1 ?_
      simp only [Act.put, List.setIfInBounds_toArray, List.set_cons_zero, List.set_cons_succ]
      refine hh_one 4 (by kernel_rfl) rfl rfl (fun K hK => wp_runsh (some 77) rfl (ex_load 3 (.tmp 76) rfl _ _ rfl (run_load_int _ _ _ _ (cell_of_row _ _ _ _ _ _ HS9.out.2))) (hK _ _ HS9.out.1 ?_))
      clear hK K
      simp only [Act.put, List.setIfInBounds_toArray, List.set_cons_zero, List.set_cons_succ]
      refine hh_one 8 (by kernel_rfl) rfl rfl (fun K hK => wp_runsh (some 81) rfl (ex_maxI (.tmp 77) (.tmp 80) c.next (x.n + 1) rfl rfl rfl) (hK _ _ HS9.out.1 ?_))
      clear hK K
      simp only [Act.put, List.setIfInBounds_toArray, List.set_cons_zero, List.set_cons_succ]
      rw [HNX2.out]
      refine hh_take 9 (some 82) (.pointer (some ⟨p, 0, none⟩)) rfl rfl (by kernel_rfl) (by kernel_rfl) (by kernel_rfl) (fun _ _ _ h => h) rfl (fun _ _ => by first | rfl | kernel_rfl | go_simp) HS9.out.1 ?_
      simp only [Act.put, List.setIfInBounds_toArray, List.set_cons_zero, List.set_cons_succ]
      refine hh_take 10 (some 83) (.pointer (some ⟨p, 2, none⟩)) rfl rfl (by kernel_rfl) (by kernel_rfl) (by kernel_rfl) (fun _ _ _ h => h) rfl (fun _ _ => by kernel_rfl) HS9.out.1 ?_
      simp only [Act.put, List.setIfInBounds_toArray, List.set_cons_zero, List.set_cons_succ]
      have HOP := Lib.hid (FinS.next (HF9.out.below ((Below.refl _ W9).drew)) nx)
      have hst : (Instr.storeAt 3 (.pointer (some ⟨p, 2, none⟩)) (.int .i64 nx)).run Try.prog W9.drew = .ok () (W9.drew.setCell ⟨p, 2, none⟩ (.int .i64 nx)) := by
        have g2 : W9.drew.cell? ⟨p, 2, none⟩ = some (.int .i64 c.next) := cell_of_row _ _ _ _ _ _ HS9.out.2
        have q2 : W9.drew.frozen? ⟨p, 2, none⟩ = false := frozen_of_row _ _ _ _ _ HS9.out.2
        go_simp
      refine hh_one 11 (by kernel_rfl) rfl rfl (fun K hK => wp_skipsh none rfl (ex_store 3 (.tmp 83) (.tmp 81) rfl _ _ rfl rfl hst) (hK _ _ (((Fr.refl (· = p) W9.drew).setCell ⟨p, 2, none⟩ (Or.inl rfl) _ |>.block _ (lt_of_row' HS9.out.1) HF9.out.ne.1).trans HS9.out.1) ?_))
      clear hK K
      simp only [Act.put]
      refine wpAnyH_done (by kernel_rfl) ?_ _
      obtain ⟨wz, hwz⟩ : ∃ wz, W9.drew.setCell ⟨p, 2, none⟩ (.int .i64 nx) = wz := ⟨_, rfl⟩
      rw [hwz] at HOP ⊢
      clear hst HS9 HF9 hwz
      go_wp2
      go_ret
      rw [HD.out, HD2.out]
      exact ⟨rfl, HOP.out⟩
  · rw [Nat.zero_add] at e1
    have hfd := find_idx _ _ 0 j t (by rw [e1, Nat.zero_add]) e2
    have HFC3 : Hid (c.finish x S = (if t.all = true ∧ t.sh.eq S = true then (c.cut j).put x S else (13, c))) := Lib.hid (HFC2.out (fun r => r = _) (by rw [hfd, e1]; rfl))
    rw [e1]
    obtain ⟨g, cc, e, hg, _, hr⟩ := HF4.out.at_.rng j t e2
    injection e with ea _ ec
    subst ea ec
    obtain ⟨_, _, _, _, _, c3, _⟩ := HF4.out.facts
    obtain ⟨w5, hw5⟩ : ∃ w5, w4.alloc (.cells (cellsT t).toArray 78) = w5 := ⟨_, rfl⟩
    have hb5 : Below w4.heap.size w4 w5 := by rw [← hw5]; exact (Below.refl _ w4).alloc (Nat.le_refl _) _
    have hrv : w5.heap[w4.heap.size]? = some (.cells (cellsT t).toArray 78 (0, 0)) := by rw [← hw5]; exact heap_alloc_new w4 _
    have hal := all_any t w5
    unfold trnV at hal
    have HAL := Lib.hid hal
    have HR := Lib.hid hr
    have HI := Lib.hid (infoT12 (cellsT t) rfl)
    have HI2 : Hid ((Try.prog.info? 78).map (·.size) = some (cellsT t).toArray.size) := Lib.hid (by show _ = some 12; kernel_rfl)
    have HALL : Hid ((cellsT t).toArray.all (·.oneCell') = true) := Lib.hid (all_oneCell_toArray (cellsT_cell t))
    have HZV : Hid (∀ w : World, (zeroValue 78).run Try.prog w = .ok (.agg (cellsT zTrn).toArray) w) := Lib.hid (fun w => Try.zeroValue78 w)
    have HW5 := Lib.hid hw5
    have HRV := Lib.hid hrv
    have HF5 := Lib.hid (HF4.out.below hb5)
    have hj0 : (0 : Int) ≤ (j : Int) := by omega
    have hj1 : (j : Int) < (c.under.length : Int) := by omega
    have hj9 : j < 1000 := by omega
    have HJ := Lib.hid e4
    clear hal hr hw5 hrv hb5 hg e1 e2 e3 e4 hfd HFC2 HF HB4 HF4
    go_wp2_with (first
      | (refine wpList_alloc_row rfl 78 rfl (cellsT zTrn).toArray (HZV.out _) ?_)
      | (refine wpList_store_new rfl 78 (.tmp 8) (.tmp 35) rfl (cellsT zTrn).toArray (cellsT t).toArray rfl rfl HI2.out rfl HALL.out ?_; rw [HW5.out])
      | (refine wpList_load_mid rfl 78 _ rfl g (j * 12) rfl _ _ HR.out Try.underlying78 rfl HI.out ?_)
      | (refine wpList_load_row rfl 78 _ rfl w4.heap.size rfl 78 _ (0, 0) _ HRV.out Try.underlying78 rfl HI2.out ?_))
    refine HAL.out.mono ?_
    rintro e w6 ⟨rfl, hb6⟩
    have HF6 := Lib.hid (HF5.out.below hb6)
    have hr6 := (hb6.block _ (lt_of_row' HRV.out)).trans HRV.out
    obtain ⟨s0, s1, s2, s3⟩ := HF6.out.sets
    have t0 : w6.cell? ⟨w4.heap.size, 3, none⟩ = some (.bool t.sh.a) := cell_of_row _ _ _ _ _ _ hr6
    have t1 : w6.cell? ⟨w4.heap.size, 4, none⟩ = some (.bool t.sh.b) := cell_of_row _ _ _ _ _ _ hr6
    have t2 : w6.cell? ⟨w4.heap.size, 5, none⟩ = some (.bool t.sh.c) := cell_of_row _ _ _ _ _ _ hr6
    have t3 : w6.cell? ⟨w4.heap.size, 6, none⟩ = some (.bool t.sh.d) := cell_of_row _ _ _ _ _ _ hr6
    have q := eq_set t.sh S
    clear HAL HR HI HI2 HALL HZV HW5 HRV HF5 hb6 hr6 c3
    cases hal : t.all with
    | false =>
      have HD : Hid (c.finish x S = (13, c)) := Lib.hid (by rw [HFC3.out, hal]; rfl)
      have HE := Lib.hid HF6.out.op
      clear hal HFC3
      go_wp2
      go_ret
      rw [HD.out]
      exact ⟨rfl, HE.out⟩
    | true =>
      cases hq : t.sh.eq S with
      | false =>
        have HD : Hid (c.finish x S = (13, c)) := Lib.hid (by rw [HFC3.out, hq]; simp)
        have HE := Lib.hid HF6.out.op
        rw [hq] at q
        clear hal hq HFC3
        go_wp2
        go_ret
        rw [HD.out]
        exact ⟨rfl, HE.out⟩
      | true =>
        have HD : Hid (c.finish x S = (c.cut j).put x S) := Lib.hid (by rw [HFC3.out, hal, hq]; rfl)
        have HRM := Lib.hid (remove_any B p w6 c _ j HF6.out.at_ HJ.out (by omega))
        have hlc : (c.cut j).under.length ≤ c.under.length := List.length_eraseIdx_le ..
        rw [hq] at q
        clear hal hq HFC3
        go_wp2_with fail
        refine HRM.out.mono ?_
        rintro e w9 ⟨rfl, hop⟩
        obtain ⟨s9, hF9⟩ := HF6.out.cut hop
        obtain ⟨C, hC⟩ : ∃ C, c.cut j = C := ⟨_, rfl⟩
        rw [hC] at hF9 HD hlc
        obtain ⟨sa9, sc9, rfl, _⟩ := hF9.at_.lens
        have HFS := Lib.hid hF9
        have hlc9 : C.under.length ≤ 900 := by omega
        clear HRM HF6 hop hF9 hC s0 s1 s2 s3 t0 t1 t2 t3 q hlc
        obtain ⟨x0, x1, x2, c1, c2, c3, _⟩ := HFS.out.facts
        by_cases hfull : 8 ≤ C.under.length
        · have HD2 : Hid (C.put x S = (8, C)) := Lib.hid (by unfold Cd.put; rw [if_pos hfull])
          have HE := Lib.hid HFS.out.op
          have hfull' : (8 : Int) ≤ (C.under.length : Int) := by omega
          clear hfull
          go_wp2
          go_ret
          rw [HD.out, HD2.out]
          exact ⟨rfl, HE.out⟩
        have hfull' : ¬ (8 : Int) ≤ (C.under.length : Int) := by omega
        obtain ⟨tt, htt⟩ : ∃ tt : Trn, tt = ⟨x, S, St4.none, true⟩ := ⟨_, rfl⟩
        obtain ⟨nx, hnx⟩ : ∃ z, (if x.boot = C.life then max C.next (x.n + 1) else C.next) = z := ⟨_, rfl⟩
        have HD2 : Hid (C.put x S = (0, { C with under := C.under ++ [tt], next := nx })) := Lib.hid (by unfold Cd.put; rw [if_neg hfull, htt, hnx])
        have HTT : Hid (tt = ⟨x, S, St4.none, true⟩) := Lib.hid htt
        obtain ⟨na, nc, w6, hap, hr6, h7⟩ := FinS.app HFS.out HSB.out (by omega) tt
        obtain ⟨w7, hw7⟩ : ∃ w7, w6.setCell ⟨p, 3, none⟩ (.slice na (C.under ++ [tt]).length nc) = w7 := ⟨_, rfl⟩
        rw [hw7] at h7
        have HAP := Lib.hid hap
        have HR6 := Lib.hid hr6
        have HW7 := Lib.hid hw7
        have HF7 := Lib.hid h7
        have HNX := Lib.hid hnx
        have HRX := Lib.hid HFS.out.rx
        have HRS := Lib.hid HFS.out.rs
        have HRP := Lib.hid HFS.out.at_.row
        clear hfull htt hap hr6 h7 hw7 hnx
        go_wp2_with fail
        clear x0 x1 x2 c1 c2 c3 hfull'
        refine wp_region_held_drew (S := fun W : World => W.heap[w.heap.size]? = some (.cells (txA x) 33 (0, 0)) ∧ W.heap[(w.heap.size + 1)]? = some (.cells (setA S) 74 (0, 0))) (by kernel_rfl) ⟨HRX.out, HRS.out⟩ (fun _ => ?_)
        refine hh_take 0 (some 54) (.pointer (some ⟨p, 0, none⟩)) rfl rfl (by kernel_rfl) (by kernel_rfl) (by kernel_rfl) (fun _ _ _ h => h) rfl (fun _ _ => rfl) ⟨HRX.out, HRS.out⟩ ?_
        simp only [Act.put, List.setIfInBounds_toArray, List.set_cons_zero, List.set_cons_succ]
        refine hh_take 1 (some 55) (.pointer (some ⟨p, 0, none⟩)) rfl rfl (by kernel_rfl) (by kernel_rfl) (by kernel_rfl) (fun _ _ _ h => h) rfl (fun _ _ => rfl) ⟨HRX.out, HRS.out⟩ ?_
        simp only [Act.put, List.setIfInBounds_toArray, List.set_cons_zero, List.set_cons_succ]
        refine hh_take 2 (some 56) (.pointer (some ⟨p, 0, none⟩)) rfl rfl (by kernel_rfl) (by kernel_rfl) (by kernel_rfl) (fun _ _ _ h => h) rfl (fun _ _ => by first | rfl | kernel_rfl | go_simp) ⟨HRX.out, HRS.out⟩ ?_
        simp only [Act.put, List.setIfInBounds_toArray, List.set_cons_zero, List.set_cons_succ]
        refine hh_take 3 (some 57) (.pointer (some ⟨p, 3, none⟩)) rfl rfl (by kernel_rfl) (by kernel_rfl) (by kernel_rfl) (fun _ _ _ h => h) rfl (fun _ _ => by kernel_rfl) ⟨HRX.out, HRS.out⟩ ?_
        simp only [Act.put, List.setIfInBounds_toArray, List.set_cons_zero, List.set_cons_succ]
        refine hh_take 5 (some 59) (txV x) rfl rfl (by kernel_rfl) (by kernel_rfl) (by kernel_rfl) (fun _ _ _ h => h) rfl (fun W hW => ex_load 33 (.tmp 4) rfl _ _ rfl (run_loadAt_mid W w.heap.size 0 33 [.int .i64 x.node, .int .i64 x.boot, .int .i64 x.n] _ (fun j v hj => by
              match j, hj with
              | 0, hj => cases hj; exact cell_of_row _ _ _ _ _ _ hW.1
              | 1, hj => cases hj; exact cell_of_row _ _ _ _ _ _ hW.1
              | 2, hj => cases hj; exact cell_of_row _ _ _ _ _ _ hW.1) Try.underlying33 rfl (infoTx x))) ⟨HRX.out, HRS.out⟩ ?_
        simp only [Act.put, List.setIfInBounds_toArray, List.set_cons_zero, List.set_cons_succ]
        refine hh_take 6 (some 60) (setV S) rfl rfl (by kernel_rfl) (by kernel_rfl) (by kernel_rfl) (fun _ _ _ h => h) rfl (fun W hW => ex_load 74 (.tmp 5) rfl _ _ rfl (run_loadAt_mid W (w.heap.size + 1) 0 74 [.bool S.a, .bool S.b, .bool S.c, .bool S.d] _ (fun j v hj => by
              match j, hj with
              | 0, hj => cases hj; exact cell_of_row _ _ _ _ _ _ hW.2
              | 1, hj => cases hj; exact cell_of_row _ _ _ _ _ _ hW.2
              | 2, hj => cases hj; exact cell_of_row _ _ _ _ _ _ hW.2
              | 3, hj => cases hj; exact cell_of_row _ _ _ _ _ _ hW.2) Try.underlying74 rfl (infoS4 S))) ⟨HRX.out, HRS.out⟩ ?_
        simp only [Act.put, List.setIfInBounds_toArray, List.set_cons_zero, List.set_cons_succ]
        refine hh_take 7 (some 61) (trnV tt) rfl rfl (by kernel_rfl) (by kernel_rfl) (by kernel_rfl) (fun _ _ _ h => h) rfl (fun _ _ => by rw [HTT.out]; unfold trnV cellsT; first | rfl | kernel_rfl | go_simp) ⟨HRX.out, HRS.out⟩ ?_
        simp only [Act.put, List.setIfInBounds_toArray, List.set_cons_zero, List.set_cons_succ]
        have HALLOC : Hid ((w9.drew.alloc (.cells (cellsT tt).toArray 78)).heap[w.heap.size]? = some (.cells (txA x) 33 (0, 0)) ∧ (w9.drew.alloc (.cells (cellsT tt).toArray 78)).heap[(w.heap.size + 1)]? = some (.cells (setA S) 74 (0, 0)) ∧ (w9.drew.alloc (.cells (cellsT tt).toArray 78)).cell? ⟨p, 3, none⟩ = some (.slice sa9 C.under.length sc9)) := Lib.hid (by
          have hb : Below w9.heap.size w9 (w9.drew.alloc (.cells (cellsT tt).toArray 78)) := ((Below.refl _ w9).drew).alloc (Nat.le_refl _) _
          exact ⟨(hb.block _ (lt_of_row' HRX.out)).trans HRX.out, (hb.block _ (lt_of_row' HRS.out)).trans HRS.out, cell_of_row _ _ _ _ _ _ ((hb.block _ (lt_of_row' HRP.out)).trans HRP.out)⟩)
        refine hh_two 4 8 (by kernel_rfl) rfl rfl rfl rfl (fun K hK => wp_runsh (some 58) rfl (ex_load 70 (.tmp 57) rfl _ _ rfl (run_load_tr _ _ _ _ _ _ (cell_of_row _ _ _ _ _ _ HRP.out))) (hK _ _ ⟨HRX.out, HRS.out⟩ ?_)) (fun K hK => wp_runsh (some 62) rfl (ex_buildSlice 70 1 _ rfl [(0, trnV tt)] rfl _ (run_lit_tr _ _)) (hK _ _ ⟨HALLOC.out.1, HALLOC.out.2.1⟩ ?_))
        · clear hK K
          simp only [Act.put, List.setIfInBounds_toArray, List.set_cons_zero, List.set_cons_succ]
          refine hh_one 8 (by kernel_rfl) rfl rfl (fun K hK => wp_runsh (some 62) rfl (ex_buildSlice 70 1 _ rfl [(0, trnV tt)] rfl _ (run_lit_tr _ _)) (hK _ _ ⟨HALLOC.out.1, HALLOC.out.2.1⟩ ?_))
          clear hK K
          simp only [Act.put, List.setIfInBounds_toArray, List.set_cons_zero, List.set_cons_succ]
          refine hh_one 9 (by kernel_rfl) rfl rfl (fun K hK => wp_runsh (some 63) rfl (ex_append (.tmp 58) (.tmp 62) 70 70 rfl _ _ _ rfl rfl HAP.out) (hK _ _ ⟨HR6.out.1, HR6.out.2.1⟩ ?_))
          clear hK K
          simp only [Act.put, List.setIfInBounds_toArray, List.set_cons_zero, List.set_cons_succ]
          refine hh_take 10 (some 64) (.pointer (some ⟨p, 0, none⟩)) rfl rfl (by kernel_rfl) (by kernel_rfl) (by kernel_rfl) (fun _ _ _ h => h) rfl (fun _ _ => by first | rfl | kernel_rfl | go_simp) ⟨HR6.out.1, HR6.out.2.1⟩ ?_
          simp only [Act.put, List.setIfInBounds_toArray, List.set_cons_zero, List.set_cons_succ]
          refine hh_take 11 (some 65) (.pointer (some ⟨p, 3, none⟩)) rfl rfl (by kernel_rfl) (by kernel_rfl) (by kernel_rfl) (fun _ _ _ h => h) rfl (fun _ _ => by kernel_rfl) ⟨HR6.out.1, HR6.out.2.1⟩ ?_
          simp only [Act.put, List.setIfInBounds_toArray, List.set_cons_zero, List.set_cons_succ]
          refine hh_one 12 (by kernel_rfl) rfl rfl (fun K hK => wp_skipsh none rfl (ex_store 70 (.tmp 65) (.tmp 63) rfl _ _ rfl rfl (run_store_tr _ _ _ _ _ _ _ (cell_of_row _ _ _ _ _ _ HR6.out.2.2) ⟨_, _, _, rfl⟩ (frozen_of_row _ _ _ _ _ HR6.out.2.2))) (hK _ _ (by rw [HW7.out]; exact ⟨HF7.out.rx, HF7.out.rs⟩) ?_))
          clear hK K
          simp only [Act.put]
          refine wpAnyH_done (by kernel_rfl) ?_ _
          rw [HW7.out]
          clear HAP HR6 HW7 HRX HRS HRP HTT HALLOC
          obtain ⟨x0, x1, x2, c1, c2, c3, f2⟩ := HF7.out.facts
          by_cases hbt : x.boot = C.life
          case neg =>
            have HNX2 : Hid (nx = C.next) := Lib.hid (by rw [← HNX.out, if_neg hbt])
            have e1 : (x.boot == C.life) = false := beq_eq_false_iff_ne.2 hbt
            go_wp2_with fail
            go_quiet (fail)
            have HE := Lib.hid (HF7.out.below (drewN_below w7 nq)).op
            go_wp2
            go_ret
            rw [HD.out, HD2.out, HNX2.out]
            exact ⟨rfl, HE.out⟩
          have e1 : (x.boot == C.life) = true := by rw [hbt]; exact beq_self_eq_true _
          have HNX2 : Hid (max C.next (x.n + 1) = nx) := Lib.hid (by rw [← HNX.out, if_pos hbt])
          go_wp2_with fail
          go_quiet (fail)
          have hbd := drewN_below w7 nq
          obtain ⟨W9, hW9⟩ : ∃ W9, w7.drewN nq = W9 := ⟨_, rfl⟩
          rw [hW9] at hbd ⊢
          have HF9 := Lib.hid (HF7.out.below hbd)
          clear x0 x1 x2 c1 c2 c3 f2 hbd hW9 hbt HNX HF7
          go_wp2_with fail
          clear e1
          have HS9 : Hid (W9.drew.heap[w.heap.size]? = some (.cells (txA x) 33 (0, 0)) ∧ W9.drew.heap[p]? = some (.cells #[.int .i64 C.node, .int .i64 C.life, .int .i64 C.next, .slice na (C.under ++ [tt]).length nc] 72 (0, 0))) := Lib.hid ⟨HF9.out.rx, HF9.out.at_.row⟩
          refine wp_region_held_drew (S := fun W : World => W.heap[w.heap.size]? = some (.cells (txA x) 33 (0, 0))) (by kernel_rfl) HS9.out.1 (fun _ => ?_)
          refine hh_take 0 (some 73) (.pointer (some ⟨p, 0, none⟩)) rfl rfl (by kernel_rfl) (by kernel_rfl) (by kernel_rfl) (fun _ _ _ h => h) rfl (fun _ _ => rfl) HS9.out.1 ?_
          simp only [Act.put, List.setIfInBounds_toArray, List.set_cons_zero, List.set_cons_succ]
          refine hh_take 1 (some 74) (.pointer (some ⟨p, 0, none⟩)) rfl rfl (by kernel_rfl) (by kernel_rfl) (by kernel_rfl) (fun _ _ _ h => h) rfl (fun _ _ => rfl) HS9.out.1 ?_
          simp only [Act.put, List.setIfInBounds_toArray, List.set_cons_zero, List.set_cons_succ]
          refine hh_take 2 (some 75) (.pointer (some ⟨p, 0, none⟩)) rfl rfl (by kernel_rfl) (by kernel_rfl) (by kernel_rfl) (fun _ _ _ h => h) rfl (fun _ _ => by first | rfl | kernel_rfl | go_simp) HS9.out.1 ?_
          simp only [Act.put, List.setIfInBounds_toArray, List.set_cons_zero, List.set_cons_succ]
          refine hh_take 3 (some 76) (.pointer (some ⟨p, 2, none⟩)) rfl rfl (by kernel_rfl) (by kernel_rfl) (by kernel_rfl) (fun _ _ _ h => h) rfl (fun _ _ => by kernel_rfl) HS9.out.1 ?_
          simp only [Act.put, List.setIfInBounds_toArray, List.set_cons_zero, List.set_cons_succ]
          refine hh_take 5 (some 78) (.pointer (some ⟨w.heap.size, 2, none⟩)) rfl rfl (by kernel_rfl) (by kernel_rfl) (by kernel_rfl) (fun _ _ _ h => h) rfl (fun _ _ => by kernel_rfl) HS9.out.1 ?_
          simp only [Act.put, List.setIfInBounds_toArray, List.set_cons_zero, List.set_cons_succ]
          refine hh_take 6 (some 79) (.int .i64 x.n) rfl rfl (by kernel_rfl) (by kernel_rfl) (by kernel_rfl) (fun _ _ _ h => h) rfl (fun W hW => ex_load 3 (.tmp 78) rfl _ _ rfl (run_load_int W _ _ _ (cell_of_row _ _ _ _ _ _ hW))) HS9.out.1 ?_
          simp only [Act.put, List.setIfInBounds_toArray, List.set_cons_zero, List.set_cons_succ]
          refine hh_take 7 (some 80) (.int .i64 (x.n + 1)) rfl rfl (by kernel_rfl) (by kernel_rfl) (by kernel_rfl) (fun _ _ _ h => h) rfl (fun W _ => ex_addI _ (.tmp 79) (.const (.int .i64 1)) x.n 1 rfl rfl rfl (by omega) (by omega)) HS9.out.1 ?_
          simp only [Act.put, List.setIfInBounds_toArray, List.set_cons_zero, List.set_cons_succ]
          refine hh_one 4 (by kernel_rfl) rfl rfl (fun K hK => wp_runsh (some 77) rfl (ex_load 3 (.tmp 76) rfl _ _ rfl (run_load_int _ _ _ _ (cell_of_row _ _ _ _ _ _ HS9.out.2))) (hK _ _ HS9.out.1 ?_))
          clear hK K
          simp only [Act.put, List.setIfInBounds_toArray, List.set_cons_zero, List.set_cons_succ]
          refine hh_one 8 (by kernel_rfl) rfl rfl (fun K hK => wp_runsh (some 81) rfl (ex_maxI (.tmp 77) (.tmp 80) C.next (x.n + 1) rfl rfl rfl) (hK _ _ HS9.out.1 ?_))
          clear hK K
          simp only [Act.put, List.setIfInBounds_toArray, List.set_cons_zero, List.set_cons_succ]
          rw [HNX2.out]
          refine hh_take 9 (some 82) (.pointer (some ⟨p, 0, none⟩)) rfl rfl (by kernel_rfl) (by kernel_rfl) (by kernel_rfl) (fun _ _ _ h => h) rfl (fun _ _ => by first | rfl | kernel_rfl | go_simp) HS9.out.1 ?_
          simp only [Act.put, List.setIfInBounds_toArray, List.set_cons_zero, List.set_cons_succ]
          refine hh_take 10 (some 83) (.pointer (some ⟨p, 2, none⟩)) rfl rfl (by kernel_rfl) (by kernel_rfl) (by kernel_rfl) (fun _ _ _ h => h) rfl (fun _ _ => by kernel_rfl) HS9.out.1 ?_
          simp only [Act.put, List.setIfInBounds_toArray, List.set_cons_zero, List.set_cons_succ]
          have HOP := Lib.hid (FinS.next (HF9.out.below ((Below.refl _ W9).drew)) nx)
          have hst : (Instr.storeAt 3 (.pointer (some ⟨p, 2, none⟩)) (.int .i64 nx)).run Try.prog W9.drew = .ok () (W9.drew.setCell ⟨p, 2, none⟩ (.int .i64 nx)) := by
            have g2 : W9.drew.cell? ⟨p, 2, none⟩ = some (.int .i64 C.next) := cell_of_row _ _ _ _ _ _ HS9.out.2
            have q2 : W9.drew.frozen? ⟨p, 2, none⟩ = false := frozen_of_row _ _ _ _ _ HS9.out.2
            go_simp
          refine hh_one 11 (by kernel_rfl) rfl rfl (fun K hK => wp_skipsh none rfl (ex_store 3 (.tmp 83) (.tmp 81) rfl _ _ rfl rfl hst) (hK _ _ (((Fr.refl (· = p) W9.drew).setCell ⟨p, 2, none⟩ (Or.inl rfl) _ |>.block _ (lt_of_row' HS9.out.1) HF9.out.ne.1).trans HS9.out.1) ?_))
          clear hK K
          simp only [Act.put]
          refine wpAnyH_done (by kernel_rfl) ?_ _
          obtain ⟨wz, hwz⟩ : ∃ wz, W9.drew.setCell ⟨p, 2, none⟩ (.int .i64 nx) = wz := ⟨_, rfl⟩
          rw [hwz] at HOP ⊢
          clear hst HS9 HF9 hwz
          go_wp2
          go_ret
          rw [HD.out, HD2.out]
          exact ⟨rfl, HOP.out⟩
        · clear hK K
          simp only [Act.put, List.setIfInBounds_toArray, List.set_cons_zero, List.set_cons_succ]
          refine hh_one 4 (by kernel_rfl) rfl rfl (fun K hK => wp_runsh (some 58) rfl (ex_load 70 (.tmp 57) rfl _ _ rfl (run_load_tr _ _ _ _ _ _ (HALLOC.out.2.2))) (hK _ _ ⟨HALLOC.out.1, HALLOC.out.2.1⟩ ?_))
          clear hK K
          simp only [Act.put, List.setIfInBounds_toArray, List.set_cons_zero, List.set_cons_succ]
          refine hh_one 9 (by kernel_rfl) rfl rfl (fun K hK => wp_runsh (some 63) rfl (ex_append (.tmp 58) (.tmp 62) 70 70 rfl _ _ _ rfl rfl HAP.out) (hK _ _ ⟨HR6.out.1, HR6.out.2.1⟩ ?_))
          clear hK K
          simp only [Act.put, List.setIfInBounds_toArray, List.set_cons_zero, List.set_cons_succ]
          refine hh_take 10 (some 64) (.pointer (some ⟨p, 0, none⟩)) rfl rfl (by kernel_rfl) (by kernel_rfl) (by kernel_rfl) (fun _ _ _ h => h) rfl (fun _ _ => by first | rfl | kernel_rfl | go_simp) ⟨HR6.out.1, HR6.out.2.1⟩ ?_
          simp only [Act.put, List.setIfInBounds_toArray, List.set_cons_zero, List.set_cons_succ]
          refine hh_take 11 (some 65) (.pointer (some ⟨p, 3, none⟩)) rfl rfl (by kernel_rfl) (by kernel_rfl) (by kernel_rfl) (fun _ _ _ h => h) rfl (fun _ _ => by kernel_rfl) ⟨HR6.out.1, HR6.out.2.1⟩ ?_
          simp only [Act.put, List.setIfInBounds_toArray, List.set_cons_zero, List.set_cons_succ]
          refine hh_one 12 (by kernel_rfl) rfl rfl (fun K hK => wp_skipsh none rfl (ex_store 70 (.tmp 65) (.tmp 63) rfl _ _ rfl rfl (run_store_tr _ _ _ _ _ _ _ (cell_of_row _ _ _ _ _ _ HR6.out.2.2) ⟨_, _, _, rfl⟩ (frozen_of_row _ _ _ _ _ HR6.out.2.2))) (hK _ _ (by rw [HW7.out]; exact ⟨HF7.out.rx, HF7.out.rs⟩) ?_))
          clear hK K
          simp only [Act.put]
          refine wpAnyH_done (by kernel_rfl) ?_ _
          rw [HW7.out]
          clear HAP HR6 HW7 HRX HRS HRP HTT HALLOC
          obtain ⟨x0, x1, x2, c1, c2, c3, f2⟩ := HF7.out.facts
          by_cases hbt : x.boot = C.life
          case neg =>
            have HNX2 : Hid (nx = C.next) := Lib.hid (by rw [← HNX.out, if_neg hbt])
            have e1 : (x.boot == C.life) = false := beq_eq_false_iff_ne.2 hbt
            go_wp2_with fail
            go_quiet (fail)
            have HE := Lib.hid (HF7.out.below (drewN_below w7 nq)).op
            go_wp2
            go_ret
            rw [HD.out, HD2.out, HNX2.out]
            exact ⟨rfl, HE.out⟩
          have e1 : (x.boot == C.life) = true := by rw [hbt]; exact beq_self_eq_true _
          have HNX2 : Hid (max C.next (x.n + 1) = nx) := Lib.hid (by rw [← HNX.out, if_pos hbt])
          go_wp2_with fail
          go_quiet (fail)
          have hbd := drewN_below w7 nq
          obtain ⟨W9, hW9⟩ : ∃ W9, w7.drewN nq = W9 := ⟨_, rfl⟩
          rw [hW9] at hbd ⊢
          have HF9 := Lib.hid (HF7.out.below hbd)
          clear x0 x1 x2 c1 c2 c3 f2 hbd hW9 hbt HNX HF7
          go_wp2_with fail
          clear e1
          have HS9 : Hid (W9.drew.heap[w.heap.size]? = some (.cells (txA x) 33 (0, 0)) ∧ W9.drew.heap[p]? = some (.cells #[.int .i64 C.node, .int .i64 C.life, .int .i64 C.next, .slice na (C.under ++ [tt]).length nc] 72 (0, 0))) := Lib.hid ⟨HF9.out.rx, HF9.out.at_.row⟩
          refine wp_region_held_drew (S := fun W : World => W.heap[w.heap.size]? = some (.cells (txA x) 33 (0, 0))) (by kernel_rfl) HS9.out.1 (fun _ => ?_)
          refine hh_take 0 (some 73) (.pointer (some ⟨p, 0, none⟩)) rfl rfl (by kernel_rfl) (by kernel_rfl) (by kernel_rfl) (fun _ _ _ h => h) rfl (fun _ _ => rfl) HS9.out.1 ?_
          simp only [Act.put, List.setIfInBounds_toArray, List.set_cons_zero, List.set_cons_succ]
          refine hh_take 1 (some 74) (.pointer (some ⟨p, 0, none⟩)) rfl rfl (by kernel_rfl) (by kernel_rfl) (by kernel_rfl) (fun _ _ _ h => h) rfl (fun _ _ => rfl) HS9.out.1 ?_
          simp only [Act.put, List.setIfInBounds_toArray, List.set_cons_zero, List.set_cons_succ]
          refine hh_take 2 (some 75) (.pointer (some ⟨p, 0, none⟩)) rfl rfl (by kernel_rfl) (by kernel_rfl) (by kernel_rfl) (fun _ _ _ h => h) rfl (fun _ _ => by first | rfl | kernel_rfl | go_simp) HS9.out.1 ?_
          simp only [Act.put, List.setIfInBounds_toArray, List.set_cons_zero, List.set_cons_succ]
          refine hh_take 3 (some 76) (.pointer (some ⟨p, 2, none⟩)) rfl rfl (by kernel_rfl) (by kernel_rfl) (by kernel_rfl) (fun _ _ _ h => h) rfl (fun _ _ => by kernel_rfl) HS9.out.1 ?_
          simp only [Act.put, List.setIfInBounds_toArray, List.set_cons_zero, List.set_cons_succ]
          refine hh_take 5 (some 78) (.pointer (some ⟨w.heap.size, 2, none⟩)) rfl rfl (by kernel_rfl) (by kernel_rfl) (by kernel_rfl) (fun _ _ _ h => h) rfl (fun _ _ => by kernel_rfl) HS9.out.1 ?_
          simp only [Act.put, List.setIfInBounds_toArray, List.set_cons_zero, List.set_cons_succ]
          refine hh_take 6 (some 79) (.int .i64 x.n) rfl rfl (by kernel_rfl) (by kernel_rfl) (by kernel_rfl) (fun _ _ _ h => h) rfl (fun W hW => ex_load 3 (.tmp 78) rfl _ _ rfl (run_load_int W _ _ _ (cell_of_row _ _ _ _ _ _ hW))) HS9.out.1 ?_
          simp only [Act.put, List.setIfInBounds_toArray, List.set_cons_zero, List.set_cons_succ]
          refine hh_take 7 (some 80) (.int .i64 (x.n + 1)) rfl rfl (by kernel_rfl) (by kernel_rfl) (by kernel_rfl) (fun _ _ _ h => h) rfl (fun W _ => ex_addI _ (.tmp 79) (.const (.int .i64 1)) x.n 1 rfl rfl rfl (by omega) (by omega)) HS9.out.1 ?_
          simp only [Act.put, List.setIfInBounds_toArray, List.set_cons_zero, List.set_cons_succ]
          refine hh_one 4 (by kernel_rfl) rfl rfl (fun K hK => wp_runsh (some 77) rfl (ex_load 3 (.tmp 76) rfl _ _ rfl (run_load_int _ _ _ _ (cell_of_row _ _ _ _ _ _ HS9.out.2))) (hK _ _ HS9.out.1 ?_))
          clear hK K
          simp only [Act.put, List.setIfInBounds_toArray, List.set_cons_zero, List.set_cons_succ]
          refine hh_one 8 (by kernel_rfl) rfl rfl (fun K hK => wp_runsh (some 81) rfl (ex_maxI (.tmp 77) (.tmp 80) C.next (x.n + 1) rfl rfl rfl) (hK _ _ HS9.out.1 ?_))
          clear hK K
          simp only [Act.put, List.setIfInBounds_toArray, List.set_cons_zero, List.set_cons_succ]
          rw [HNX2.out]
          refine hh_take 9 (some 82) (.pointer (some ⟨p, 0, none⟩)) rfl rfl (by kernel_rfl) (by kernel_rfl) (by kernel_rfl) (fun _ _ _ h => h) rfl (fun _ _ => by first | rfl | kernel_rfl | go_simp) HS9.out.1 ?_
          simp only [Act.put, List.setIfInBounds_toArray, List.set_cons_zero, List.set_cons_succ]
          refine hh_take 10 (some 83) (.pointer (some ⟨p, 2, none⟩)) rfl rfl (by kernel_rfl) (by kernel_rfl) (by kernel_rfl) (fun _ _ _ h => h) rfl (fun _ _ => by kernel_rfl) HS9.out.1 ?_
          simp only [Act.put, List.setIfInBounds_toArray, List.set_cons_zero, List.set_cons_succ]
          have HOP := Lib.hid (FinS.next (HF9.out.below ((Below.refl _ W9).drew)) nx)
          have hst : (Instr.storeAt 3 (.pointer (some ⟨p, 2, none⟩)) (.int .i64 nx)).run Try.prog W9.drew = .ok () (W9.drew.setCell ⟨p, 2, none⟩ (.int .i64 nx)) := by
            have g2 : W9.drew.cell? ⟨p, 2, none⟩ = some (.int .i64 C.next) := cell_of_row _ _ _ _ _ _ HS9.out.2
            have q2 : W9.drew.frozen? ⟨p, 2, none⟩ = false := frozen_of_row _ _ _ _ _ HS9.out.2
            go_simp
          refine hh_one 11 (by kernel_rfl) rfl rfl (fun K hK => wp_skipsh none rfl (ex_store 3 (.tmp 83) (.tmp 81) rfl _ _ rfl rfl hst) (hK _ _ (((Fr.refl (· = p) W9.drew).setCell ⟨p, 2, none⟩ (Or.inl rfl) _ |>.block _ (lt_of_row' HS9.out.1) HF9.out.ne.1).trans HS9.out.1) ?_))
          clear hK K
          simp only [Act.put]
          refine wpAnyH_done (by kernel_rfl) ?_ _
          obtain ⟨wz, hwz⟩ : ∃ wz, W9.drew.setCell ⟨p, 2, none⟩ (.int .i64 nx) = wz := ⟨_, rfl⟩
          rw [hwz] at HOP ⊢
          clear hst HS9 HF9 hwz
          go_wp2
          go_ret
          rw [HD.out, HD2.out]
          exact ⟨rfl, HOP.out⟩
end Go.Proofs.Ytleghofpabdkhaa
