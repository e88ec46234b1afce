/- Disk: DiskLasts. -/
import Derived.Test.YtohmofhpbmhhjaaD19
import Derived.Deep.DeepCutAuto
import Derived.IntWalk
namespace Go.Proofs.Ytohmofhpbmhhjaa
open Go Go.RowKit

section
variable {P : Program} {o : Oper} {a : Act} {w : World}
theorem ex_call0 (f : FuncId) (ts : Array TypeId) (ho : o.op = .call { callee := .value (.func f), args := #[], argTypes := ts }) (hen : ∀ args w, (callFunc f args).run P w = .ok (.enter f args) w) : (execOp a.eval o).run P w = .ok (.enter f #[]) w := by
  have hf : a.eval (.func f) = .func (.func f) #[] #[] := rfl
  unfold execOp
  simp [ho, resolve, Deferred.ofValue, invoke, hf, hen, Sem.run_bind, Sem.run_pure, Result.andThen]
theorem ex_len (t e : TypeId) (x : Operand) {p : Option Addr} {n c : Nat} (ho : o.op = .call { callee := .builtin .len, args := #[x], argTypes := #[t] }) (ht : P.underlying t = some (.slice e)) (hx : a.eval x = .slice p n c) : (execOp a.eval o).run P w = .ok (.value (.int .i64 (n : Int))) w := by
  have hl : ∀ ty, (Builtin.len_ #[t] ty #[.slice p n c]).run P w = .ok (.int .i64 (n : Int)) w := fun ty => by
    simp [Builtin.len_, run_underlying ht]
    rfl
  unfold execOp
  simp only [ho, resolve, invoke, builtin, Sem.run_bind, Sem.run_pure, Result.andThen_ok, List.map_toArray, List.map_cons, List.map_nil, hx, hl]
theorem ex_makeSlice (t : TypeId) (x y : Operand) (ho : o.op = .makeSlice t x y) (xv yv : Value) {v : Value} {w' : World} (hx : a.eval x = xv) (hy : a.eval y = yv) (hr : (Instr.makeSlice t xv yv).run P w = .ok v w') : (execOp a.eval o).run P w = .ok (.value v) w' := by
  unfold execOp
  simp only [ho, hx, hy, Sem.run_bind, hr, Result.andThen_ok]
  rfl
theorem anyH_oneG {ops : Array Oper} {Q : Exit → Act → World → Prop} {md : Region.Mode} {S : World → Prop} (i : Nat) {o : Oper} {fuel : Nat} {listed : Array Bool} {a : Act} {w : World} (hr : Region.ready md ops listed = [i]) (ho : ops[i]? = some o) (hg : Region.wanted o (yielded ops a.tmps) = true)
    (h : ∀ K : Act → World → Prop, (∀ a' w', S w' → wpAnyH P md ops Q S fuel (listed.setIfInBounds i true) a' w' → K a' w') → o.wp P a w K Q) : wpAnyH P md ops Q S (fuel + 1) listed a w :=
  wpAnyH_ready hr (by simp) (AllReadyH.cons ho (fun K hK => by rw [if_pos hg]; exact h K (fun a' w' hS' hn => hK.out a' w' hS' (fun _ => hn))) AllReadyH.nil)
theorem ex_sub (t u : TypeId) (x y : Operand) (ho : o.op = .binOp .sub t x y u) (xv yv : Value) {v : Value} (hx : a.eval x = xv) (hy : a.eval y = yv) (hr : (binOp .sub t xv yv).run P w = .ok v w) : (execOp a.eval o).run P w = .ok (.value v) w := by
  unfold execOp
  simp [ho, hx, hy, eqGuard, Sem.run_bind, hr]
end
theorem ex_call3 {P : Program} {o : Oper} {a : Act} {w : World} (f : FuncId) (x y z : Operand) (ts : Array TypeId) (ho : o.op = .call { callee := .value (.func f), args := #[x, y, z], argTypes := ts }) (xv yv zv : Value) (hx : a.eval x = xv) (hy : a.eval y = yv) (hz : a.eval z = zv)
    (hen : ∀ args w, (callFunc f args).run P w = .ok (.enter f args) w) : (execOp a.eval o).run P w = .ok (.enter f #[xv, yv, zv]) w := by
  have hf : a.eval (.func f) = .func (.func f) #[] #[] := rfl
  unfold execOp
  simp [ho, resolve, Deferred.ofValue, invoke, hx, hy, hz, hf, hen, Sem.run_bind, Sem.run_pure, Result.andThen]
theorem DeedAt.below {w W : World} {g o : Nat} {d : Dd} {bv kv : Value} (h : DeedAt w g o d bv kv) (hb : Below w.heap.size w W) : DeedAt W g o d bv kv :=
  ⟨fun j v hj => (hb.cell (p := ⟨g, o + j, none⟩) (World.block_lt_of_cell? w _ (h.r j v hj))).trans (h.r j v hj), h.b.below hb, h.k.below hb, fun x hx hne => Nat.lt_of_lt_of_le (h.kl x hx hne) hb.size, h.kn, h.wi⟩
/-- The bytes that are written: of a block that was there. -/
def Page1 (w w1 : World) (l : List UInt8) (v : Value) (wx : World) : Prop := wx = w1 ∧ Byt w v l ∧ l.length ≤ 64
set_option maxRecDepth 100000 in
set_option maxHeartbeats 8000000 in
theorem walk_lasts (n : Nat) (u v : Value) (p : List UInt8) (l : List Dd) (kv : Value) (keep : List Bool) (torn at' : Int) (w : World) (hn : n < 256) (hu : Byt w u p) (hv : Deeds w v l)
    (hk : Bools w kv keep ∧ (∀ g, kv.ownBlock = some g → keep ≠ [] → g < w.heap.size) ∧ keep.length ≤ 9223372036854775807) (hpl : p.length ≤ 9223372036854775807) :
    Calls Try.prog 4 #[.int .u8 (n : Int), u, v, .agg #[kv, .int .i64 torn, .int .i64 at']] w fun e w' => e = .returned (.bool true) ∧ Below w.heap.size w w' := by
  obtain ⟨hk1, hk2, hk3⟩ := hk
  obtain ⟨at0, hat, hat8⟩ : ∃ a : Nat, (n : Int) % 8 = (a : Int) ∧ a < 8 := ⟨n % 8, by omega, by omega⟩
  have hb1 : Below w.heap.size w (w.alloc (.cells #[kv, .int .i64 torn, .int .i64 at'] 32)) := (Below.refl _ w).alloc (Nat.le_refl _) _
  obtain ⟨wb, hwb⟩ : ∃ wb, w.alloc (.cells #[kv, .int .i64 torn, .int .i64 at'] 32) = wb := ⟨_, rfl⟩
  have hbx : wb.heap[w.heap.size]? = some (.cells #[kv, .int .i64 torn, .int .i64 at'] 32) := by rw [← hwb]; exact heap_alloc_last w _
  have hszb : wb.heap.size = w.heap.size + 1 := by rw [← hwb]; simp
  rw [hwb] at hb1
  have hnew : Calls Try.prog 10 #[.int .i64 8] wb fun e w' => e = .returned (.tuple #[.pointer (some ⟨wb.heap.size + 1, 0, none⟩), .int .i64 0]) ∧ Has wb w' (wb.heap.size + 1) wb.heap.size 8 (St.new 8) := has_new 8 wb wb (Below.refl _ _) (by decide) (by decide)
  obtain ⟨va, vc, rfl, hll, hD⟩ := hv
  obtain ⟨ua, uc, rfl, huc⟩ := hu.shape
  have hcut := hu
  have HN := Lib.hid hnew
  have HB1 := Lib.hid hb1
  have HBX := Lib.hid hbx
  have HSZ := Lib.hid hszb
  have HU := Lib.hid hu
  have HK1 := Lib.hid hk1
  have HK2 := Lib.hid hk2
  have HK3 := Lib.hid hk3
  have HD := Lib.hid hD
  have HAT8 := Lib.hid hat8
  have hsz1 : ∀ w, (sizeOf 5).run Try.prog w = .ok 1 w := fun w => by kernel_rfl
  have HS1 := Lib.hid hsz1
  clear hnew hb1 hbx hszb hu hk1 hk2 hk3 hD hcut hsz1
  go_enter Try.func4, Try.ntmps4
  go_wp2_with fail
  refine HN.out.mono ?_
  rintro e w1 ⟨rfl, h1⟩
  clear hwb
  generalize wb.heap.size + 1 = D at *
  have H1 := Lib.hid h1
  clear h1 HN
  go_upto_if 24 with fail
  rw [hat]
  go_cut [1] from 15 (fun s1 wx => ∃ q, Page1 w w1 q s1 wx)
  case first =>
    have hu29 : Try.prog.underlying 29 = some (.slice (Try.prog.elem 29)) := by kernel_rfl
    by_cases hp : 64 < (p.length : Int)
    · have hcut := HU.out.cut 0 64 uc (by omega) (by omega) (by omega) (Nat.le_refl _)
      have hrun := run_cut_to w1 29 5 Try.underlying29 HS1.out ua p.length uc 64 (by omega)
      rw [← run_sliceAt_is hu29] at hrun
      have HCUT := Lib.hid hcut
      have HRUN := Lib.hid hrun
      clear hcut hrun
      go_wp2_with (refine wpList_runs (some 26) rfl rfl (ex_sliceTo 29 (.tmp 25) (.const (.int .i64 64)) rfl _ _ _ rfl rfl HRUN.out) ?_)
      go_meet
      case rel => exact ⟨_, rfl, HCUT.out, by simp; omega⟩
    · go_wp2
      go_meet
      case rel => exact ⟨p, rfl, HU.out, by omega⟩
  case rest =>
    obtain ⟨q, rfl, hq, hql⟩ := hcut
    obtain ⟨s1, s2, e1, e2, hgood⟩ := good_start at0 q HAT8.out hql
    obtain ⟨xa, xc, rfl, hxc⟩ := hq.shape
    have hw := has_write H1.out (at0 : Int) (.slice xa q.length xc) q ((hq.below HB1.out).below H1.out.bel).z (fun g hg _ => by have := hq.lt g hg; have := HSZ.out; omega) (by simp [St.new])
    rw [e1] at hw
    have E2 := Lib.hid e2
    have HG := Lib.hid hgood
    have HQ := Lib.hid hq
    have HW := Lib.hid hw
    have HQL := Lib.hid hql
    clear hw e1 e2 hgood hq hql H1
    go_wp2_with fail
    refine HW.out.mono ?_
    rintro e w2 ⟨rfl, h2⟩
    have hf := has_flush h2
    rw [E2.out] at hf
    have HF := Lib.hid hf
    clear hf h2 HW
    go_wp2_with fail
    refine HF.out.mono ?_
    rintro e w3 ⟨rfl, h3⟩
    have H3 := Lib.hid h3
    clear h3 HF
    go_wp2_with fail
    go_loopw [12] (fun iv wr => ∃ k : Nat, iv = .int .i64 (k : Int) ∧ k ≤ l.length ∧ k ≤ 60 ∧ ∃ s, Hid (Good at0 (pad q) (k + 1) s) ∧ Hid (Has wb wr D wb.heap.size 8 s)) (fun iv _ => 60 - (intOf iv).toNat)
    case atStart => exact ⟨0, rfl, Nat.zero_le _, Nat.zero_le _, s2, HG.out, H3.out⟩
    case round =>
      obtain ⟨k, rfl, hk, hk60, s, hR, hH⟩ := hrel
      by_cases hgo : k < l.length ∧ k < 60
      · obtain ⟨hkl, hk6⟩ := hgo
        obtain ⟨g, off, bv, kvd, rfl, hg, hda⟩ := HD.out k _ (List.getElem?_eq_getElem hkl)
        generalize l[k] = d at *
        have hbw := HB1.out.trans (hH.out.bel.mono HB1.out.size)
        have hdw := hda.below hbw
        obtain ⟨do', i, bytes, keepd, tornd, atd⟩ := d
        have c0 : wr.cell? ⟨g, off + k * 6, none⟩ = some (.int .i64 do') := hdw.r 0 _ rfl
        have c1 : wr.cell? ⟨g, off + k * 6 + 1, none⟩ = some (.int .i64 i) := hdw.r 1 _ rfl
        have hwl := hR.out.wl
        have hage := hR.out.age
        have hkl' : (k : Int) < (l.length : Int) := by omega
        have hk6' : (k : Int) < 60 := by omega
        by_cases hd0 : do' = 0
        · subst hd0
          by_cases hia : i = (at0 : Int)
          · subst hia
            have GD := Lib.hid (hR.out.mono (show k + 1 ≤ k + 1 + 1 by omega))
            have HH := Lib.hid hH.out
            clear hR hH hdw hda hbw hwl hage
            go_wp2
            go_roundw
            case rel => exact ⟨k + 1, by go_num, by omega, by omega, _, GD.out, HH.out⟩
            case measure => simp [intOf]; omega
          · have hib : (i == (at0 : Int)) = false := by rw [beq_eq_false_iff_ne]; exact hia
            have hib2 : (i != (at0 : Int)) = true := by rw [bne_iff_ne]; exact hia
            have hgd := hR.out.wrote i bytes hia
            have hwr : Calls Try.prog 11 #[.pointer (some ⟨D, 0, none⟩), .int .i64 i, bv] wr.drew fun e w' => e = .returned (.int .i64 ((s.wrote i bytes).2 : Nat)) ∧ (Has wb w' D wb.heap.size 8 (s.wrote i bytes).1 ∧ Below w.heap.size w w') :=
              (has_write (hH.out.below (Below.refl _ wr).drew) i bv bytes (hdw.b.below (Below.refl _ wr).drew) (fun x hx hne => by have := hda.b.lt x hx hne; have := HSZ.out; omega) (by omega)).mono fun e w' ⟨q1, q2⟩ => ⟨q1, q2, HB1.out.trans (q2.bel.mono HB1.out.size)⟩
            have hs0 : Below w.heap.size w wr.drew := hbw.drew
            have hidx : ∀ W, (Instr.indexAt 22 (.slice (some ⟨g, off, none⟩) l.length vc) (.int .i64 (k : Int))).run Try.prog W = .ok (.pointer (some ⟨g, off + k * 6, none⟩)) W := by
              intro W
              have i1 : (0 : Int) ≤ (k : Int) := by omega
              clear hwr hgd hR hH hdw hda hbw hs0
              go_simp
            have hl1 : ∀ W, Below w.heap.size w W → (Instr.loadAt 3 (.pointer (some ⟨g, off + k * 6 + 1, none⟩))).run Try.prog W = .ok (.int .i64 i) W := fun W hW => by
              have hc : W.cell? ⟨g, off + k * 6 + 1, none⟩ = some (.int .i64 i) := (hda.below hW).r 1 _ rfl
              clear hwr hgd hR hH hdw hda hbw hs0 hW
              go_simp
            have hl2 : ∀ W, Below w.heap.size w W → (Instr.loadAt 29 (.pointer (some ⟨g, off + k * 6 + 2, none⟩))).run Try.prog W = .ok bv W := fun W hW => by
              have hc : W.cell? ⟨g, off + k * 6 + 2, none⟩ = some bv := (hda.below hW).r 2 _ rfl
              obtain ⟨ba, bc, rfl⟩ := hda.b.1
              clear hwr hgd hR hH hdw hda hbw hs0 hW
              go_simp
            have GD := Lib.hid hgd
            have WR := Lib.hid hwr
            have IDX := Lib.hid hidx
            have L1 := Lib.hid hl1
            have L2 := Lib.hid hl2
            have HS0 := Lib.hid hs0
            clear hwr hgd hR hH hdw hda hbw hs0 hidx hl1 hl2 hwl hage
            go_wp2_with fail
            refine wp_region_held_drew (S := Below w.heap.size w) (by kernel_rfl) HS0.out (fun hS0' => ?_)
            have hS0 := Lib.hid hS0'
            clear hS0'
            refine anyH_take 0 (some 71) (.pointer (some ⟨D, 0, none⟩)) rfl rfl (by kernel_rfl) (by kernel_rfl) (by kernel_rfl) (fun _ _ _ h => h) rfl (fun _ _ => rfl) hS0.out ?_
            simp only [Act.put, List.setIfInBounds_toArray, List.set_cons_zero, List.set_cons_succ]
            refine anyH_take 1 (some 72) (.slice (some ⟨g, off, none⟩) l.length vc) rfl rfl (by kernel_rfl) (by kernel_rfl) (by kernel_rfl) (fun _ _ _ h => h) rfl (fun _ _ => rfl) hS0.out ?_
            simp only [Act.put, List.setIfInBounds_toArray, List.set_cons_zero, List.set_cons_succ]
            refine anyH_take 2 (some 73) (.int .i64 (k : Int)) rfl rfl (by kernel_rfl) (by kernel_rfl) (by kernel_rfl) (fun _ _ _ h => h) rfl (fun _ _ => rfl) hS0.out ?_
            simp only [Act.put, List.setIfInBounds_toArray, List.set_cons_zero, List.set_cons_succ]
            refine anyH_take 3 (some 74) (.pointer (some ⟨g, off + k * 6, none⟩)) rfl rfl (by kernel_rfl) (by kernel_rfl) (by kernel_rfl) (fun _ _ _ h => h) rfl (fun W _ => ex_index 22 (.tmp 72) (.tmp 73) rfl _ _ _ rfl rfl (IDX.out W)) hS0.out ?_
            simp only [Act.put, List.setIfInBounds_toArray, List.set_cons_zero, List.set_cons_succ]
            refine anyH_take 4 (some 75) (.pointer (some ⟨g, off + k * 6 + 1, none⟩)) rfl rfl (by kernel_rfl) (by kernel_rfl) (by kernel_rfl) (fun _ _ _ h => h) rfl (fun _ _ => by kernel_rfl) hS0.out ?_
            simp only [Act.put, List.setIfInBounds_toArray, List.set_cons_zero, List.set_cons_succ]
            refine anyH_take 5 (some 76) (.int .i64 i) rfl rfl (by kernel_rfl) (by kernel_rfl) (by kernel_rfl) (fun _ _ _ h => h) rfl (fun W hW => ex_load 3 (.tmp 75) rfl _ _ rfl (L1.out W hW)) hS0.out ?_
            simp only [Act.put, List.setIfInBounds_toArray, List.set_cons_zero, List.set_cons_succ]
            refine anyH_take 6 (some 77) (.slice (some ⟨g, off, none⟩) l.length vc) rfl rfl (by kernel_rfl) (by kernel_rfl) (by kernel_rfl) (fun _ _ _ h => h) rfl (fun _ _ => rfl) hS0.out ?_
            simp only [Act.put, List.setIfInBounds_toArray, List.set_cons_zero, List.set_cons_succ]
            refine anyH_take 7 (some 78) (.int .i64 (k : Int)) rfl rfl (by kernel_rfl) (by kernel_rfl) (by kernel_rfl) (fun _ _ _ h => h) rfl (fun _ _ => rfl) hS0.out ?_
            simp only [Act.put, List.setIfInBounds_toArray, List.set_cons_zero, List.set_cons_succ]
            refine anyH_take 8 (some 79) (.pointer (some ⟨g, off + k * 6, none⟩)) rfl rfl (by kernel_rfl) (by kernel_rfl) (by kernel_rfl) (fun _ _ _ h => h) rfl (fun W _ => ex_index 22 (.tmp 77) (.tmp 78) rfl _ _ _ rfl rfl (IDX.out W)) hS0.out ?_
            simp only [Act.put, List.setIfInBounds_toArray, List.set_cons_zero, List.set_cons_succ]
            refine anyH_take 9 (some 80) (.pointer (some ⟨g, off + k * 6 + 2, none⟩)) rfl rfl (by kernel_rfl) (by kernel_rfl) (by kernel_rfl) (fun _ _ _ h => h) rfl (fun _ _ => by kernel_rfl) hS0.out ?_
            simp only [Act.put, List.setIfInBounds_toArray, List.set_cons_zero, List.set_cons_succ]
            refine anyH_take 10 (some 81) (bv) rfl rfl (by kernel_rfl) (by kernel_rfl) (by kernel_rfl) (fun _ _ _ h => h) rfl (fun W hW => ex_load 29 (.tmp 80) rfl _ _ rfl (L2.out W hW)) hS0.out ?_
            simp only [Act.put, List.setIfInBounds_toArray, List.set_cons_zero, List.set_cons_succ]
            refine anyH_one 11 (by kernel_rfl) rfl rfl (fun K hK => ?_)
            refine wp_calls (some 82) rfl 11 #[.pointer (some ⟨D, 0, none⟩), .int .i64 i, bv] (ex_call3 11 (.tmp 71) (.tmp 76) (.tmp 81) _ rfl _ _ _ rfl rfl rfl (fun _ _ => rfl)) (.int .i64 ((s.wrote i bytes).2 : Nat)) (fun w' => Has wb w' D wb.heap.size 8 (s.wrote i bytes).1 ∧ Below w.heap.size w w') WR.out (fun W1 hR1 => hK _ _ hR1.2 ?_)
            clear hK K
            simp only [Act.put, List.setIfInBounds_toArray, List.set_cons_zero, List.set_cons_succ]
            refine wpAnyH_done (by kernel_rfl) ?_ _
            have HH := Lib.hid hR1.1
            clear hR1 WR IDX L1 L2 hS0 HS0
            go_wp2
            go_roundw
            case rel => exact ⟨k + 1, by go_num, by omega, by omega, _, GD.out, HH.out⟩
            case measure => simp [intOf]; omega
        · have hn0 : (do' == 0) = false := by rw [beq_eq_false_iff_ne]; exact hd0
          by_cases hd1 : do' = 1
          · subst hd1
            have hf := has_flush hH.out
            have GD := Lib.hid hR.out.flushed
            have HF := Lib.hid hf
            clear hf hR hH hdw hda hbw hwl hage
            go_wp2_with fail
            refine HF.out.mono ?_
            rintro e w4 ⟨rfl, h4⟩
            have HH := Lib.hid h4
            clear h4 HF
            go_wp2
            go_roundw
            case rel => exact ⟨k + 1, by go_num, by omega, by omega, _, GD.out, HH.out⟩
            case measure => simp [intOf]; omega
          · have hn1 : (do' == 1) = false := by rw [beq_eq_false_iff_ne]; exact hd1
            by_cases hd3 : do' = 3
            · subst hd3
              have hf := has_cut hH.out i hdw.wi
              have GD := Lib.hid (hR.out.cutS i)
              have HF := Lib.hid hf
              clear hf hR hH hdw hda hbw hwl hage
              go_wp2_with fail
              refine HF.out.mono ?_
              rintro e w4 ⟨rfl, h4⟩
              have HH := Lib.hid h4
              clear h4 HF
              go_wp2
              go_roundw
              case rel => exact ⟨k + 1, by go_num, by omega, by omega, _, GD.out, HH.out⟩
              case measure => simp [intOf]; omega
            · have hn3 : (do' == 3) = false := by rw [beq_eq_false_iff_ne]; exact hd3
              by_cases hd4 : 3 < do'
              · have hf := has_crash hH.out (by omega) kvd keepd tornd atd hdw.k (fun x hx hne => by have := hda.kl x hx hne; have := HSZ.out; omega) hda.kn
                have GD := Lib.hid (hR.out.crashed keepd tornd atd)
                have hl32 : (Instr.loadAt 32 (.pointer (some ⟨g, off + k * 6 + 3, none⟩))).run Try.prog wr = .ok (.agg #[kvd, .int .i64 tornd, .int .i64 atd]) wr :=
                  run_loadAt_mid wr g (off + k * 6 + 3) 32 [kvd, .int .i64 tornd, .int .i64 atd] _ (fun j v hj => by
                    have := hdw.r (3 + j) v (by simpa [Nat.add_comm 3] using hj)
                    rwa [← Nat.add_assoc] at this) Try.underlying32 rfl (by kernel_rfl)
                have HF := Lib.hid hf
                have L32 := Lib.hid hl32
                clear hf hl32 hR hH hdw hda hbw hwl hage
                go_wp2_with (refine wpList_load_known rfl 32 (.tmp 117) rfl _ _ rfl L32.out ?_)
                refine HF.out.mono ?_
                rintro e w4 ⟨rfl, h4⟩
                have HH := Lib.hid h4
                clear h4 HF L32
                go_wp2
                go_roundw
                case rel => exact ⟨k + 1, by go_num, by omega, by omega, _, GD.out, HH.out⟩
                case measure => simp [intOf]; omega
              · have GD := Lib.hid (hR.out.mono (show k + 1 ≤ k + 1 + 1 by omega))
                have HH := Lib.hid hH.out
                clear hR hH hdw hda hbw hwl hage
                go_wp2
                go_roundw
                case rel => exact ⟨k + 1, by go_num, by omega, by omega, _, GD.out, HH.out⟩
                case measure => simp [intOf]; omega
      · have hnk : (¬ (k : Int) < (l.length : Int)) ∨ ((k : Int) < (l.length : Int) ∧ ¬ (k : Int) < 60) := by omega
        have hbw := HB1.out.trans (hH.out.bel.mono HB1.out.size)
        have hbxr := (hH.out.bel.block w.heap.size (by have := HSZ.out; omega)).trans HBX.out
        have hl32 : (Instr.loadAt 32 (.pointer (some ⟨w.heap.size, 0, none⟩))).run Try.prog wr = .ok (.agg #[kv, .int .i64 torn, .int .i64 at']) wr :=
          run_loadAt_mid wr w.heap.size 0 32 [kv, .int .i64 torn, .int .i64 at'] _ (fun j v hj => by
            rw [cell_of_row wr _ _ _ _ _ hbxr]
            simpa using hj) Try.underlying32 rfl (by kernel_rfl)
        have hcr := has_crash hH.out (by have := hR.out.age; omega) kv keep torn at' (HK1.out.below hbw) (fun x hx hne => by have := HK2.out x hx hne; have := HSZ.out; omega) HK3.out
        have GD := Lib.hid (hR.out.crashed keep torn at')
        have L32 := Lib.hid hl32
        have HCR := Lib.hid hcr
        clear hl32 hcr hbw hbxr hR hH hgo hk hk60
        rcases hnk with hnk | ⟨hnk1, hnk2⟩
        all_goals
          go_wp2_with (refine wpList_load_known rfl 32 (.tmp 7) rfl _ _ rfl L32.out ?_)
          refine HCR.out.mono ?_
          rintro e w4 ⟨rfl, h4⟩
          have hr4 := has_read h4 (at0 : Int)
          have HR4 := Lib.hid hr4
          have H4 := Lib.hid h4
          clear hr4 h4
          go_wp2_with fail
          refine HR4.out.mono ?_
          intro e w5 hT
          unfold ReadR at hT
          rw [if_neg (by simp [St.crashed]), if_pos (by have := GD.out.len; have := HAT8.out; omega), Int.toNat_natCast, GD.out.reads] at hT
          obtain ⟨bb, rfl, hbb, hgb, hb5⟩ := hT
          have hpb := told_byt (pad_len HQL.out) hbb
          have h5 := H4.out.below hb5
          have hbel5 := HB1.out.trans (h5.bel.mono HB1.out.size)
          have HP5 := Lib.hid hpb
          have HBE := Lib.hid hbel5
          clear hbb hgb hb5 hpb h5 H4 HR4 HCR L32 GD hbel5
          go_wp2_with fail
          have hq5 := HQ.out.below HBE.out
          have hm : ∃ m : Nat, m = 64 - q.length := ⟨_, rfl⟩
          obtain ⟨m, hm⟩ := hm
          have hu29 : Try.prog.underlying 29 = some (.slice (Try.prog.elem 29)) := by kernel_rfl
          have hsl1 : ∀ W, (Instr.sliceAt 29 (.slice (some ⟨bb, 0, none⟩) 64 64) none (some (.int .i64 (q.length : Int))) none).run Try.prog W = .ok (.slice (cutA (some ⟨bb, 0, none⟩) 0 64) q.length 64) W := fun W => (run_sliceAt_is hu29 W _ _ _ _).trans (run_cut_to W 29 5 Try.underlying29 HS1.out (some ⟨bb, 0, none⟩) 64 64 q.length (by have := HQL.out; omega))
          have hsl2 : ∀ W, (Instr.sliceAt 29 (.slice (some ⟨bb, 0, none⟩) 64 64) (some (.int .i64 (q.length : Int))) none none).run Try.prog W = .ok (.slice (cutA (some ⟨bb, 0, none⟩) q.length 64) m m) W := fun W => by
            rw [hm]
            exact (run_sliceAt_is hu29 W _ _ _ _).trans (run_cut_from W 29 5 Try.underlying29 HS1.out (some ⟨bb, 0, none⟩) 64 64 q.length (by have := HQL.out; omega))
          have hpk1 := fun (W : World) (hW : Below w5.heap.size w5 W) => run_byt_string (P := Try.prog) W 29 9 5 Try.underlying29 Try.underlying5 Try.underlying9 ((HP5.out.below hW).cut 0 q.length 64 (by omega) (by have := HQL.out; omega) (by have := HQL.out; omega) (by omega))
          have hpk2 := fun (W : World) (hW : Below w5.heap.size w5 W) => run_byt_string (P := Try.prog) W 29 9 5 Try.underlying29 Try.underlying5 Try.underlying9 ((HP5.out.below hW).cut q.length 64 64 (by have := HQL.out; omega) (by omega) (by omega) (by omega))
          have hpq := fun (W : World) (hW : Below w5.heap.size w5 W) => run_byt_string (P := Try.prog) W 29 9 5 Try.underlying29 Try.underlying5 Try.underlying9 (hq5.below hW)
          have heq1 : (((pad q).drop 0).take (q.length - 0)) = q := by simp [pad]
          have heq2 : (((pad q).drop q.length).take (64 - q.length)) = List.replicate m 0 := by
            rw [hm]
            unfold pad
            rw [List.drop_left]
            exact List.take_of_length_le (by simp)
          rw [heq1] at hpk1
          rw [heq2] at hpk2
          simp only [Nat.sub_zero] at hpk1
          rw [← hm] at hpk2
          have hsub : ∀ W, (binOp .sub 3 (.int .i64 64) (.int .i64 (q.length : Int))).run Try.prog W = .ok (.int .i64 (m : Int)) W := fun W => by
            have e : IntKind.i64.wrap (64 - (q.length : Int)) = (m : Int) := by
              have := HQL.out
              rw [IntWalk.i64_in (64 - (q.length : Int)) (by omega)]
              omega
            rw [← e]
            rfl
          obtain ⟨i0, hi0, hz0, hz1, hz2⟩ := info_parts (show (Try.prog.info? 5).map (fun i => (i.zero, i.size, i.bytes)) = some (some (.int .u8 0), 1, 1) by kernel_rfl)
          have hmk : ∀ W, (Instr.makeSlice 29 (.int .i64 (m : Int)) (.int .i64 (m : Int))).run Try.prog W = .ok (.slice (some ⟨W.heap.size, 0, none⟩) m m) (W.alloc (.cells (madeCells (Value.int .u8 0).cells m) 5)) := fun W => by
            have := run_make (P := Try.prog) W 29 5 i0 _ Try.underlying29 hi0 hz0 .i64 .i64 (m : Int) (m : Int) (by omega) (Int.le_refl _) (by rw [hz2]; omega) (by omega)
            rwa [hz1, Nat.mul_one, Int.toNat_natCast] at this
          have hmz : ∀ W : World, (convert 29 9 (.slice (some ⟨W.heap.size, 0, none⟩) m m)).run Try.prog (W.alloc (.cells (madeCells (Value.int .u8 0).cells m) 5)) = .ok (.string ⟨(List.replicate m (0 : UInt8)).toArray⟩) (W.alloc (.cells (madeCells (Value.int .u8 0).cells m) 5)) := fun W => by
            have hr := (Row.made W 5 (List.replicate m 0) (madeCells (Value.int .u8 0).cells m) (made_list m) (Nat.le_refl _) (by rw [List.length_replicate]; unfold maxLen; omega)).1
            rw [List.length_replicate] at hr
            exact run_byt_string (P := Try.prog) _ 29 9 5 Try.underlying29 Try.underlying5 Try.underlying9 hr
          have hlive := (live_any w5.drew).mono (R' := fun e w' => e = .returned (.bool true) ∧ Below w5.heap.size w5 w') (fun e w' ⟨q1, q2⟩ => ⟨q1, ((Below.refl _ w5).drew).trans (q2.mono ((Below.refl w5.heap.size w5).drew).size)⟩)
          have SL1 := Lib.hid hsl1
          have SL2 := Lib.hid hsl2
          have PK1 := Lib.hid hpk1
          have PK2 := Lib.hid hpk2
          have PQ := Lib.hid hpq
          have SUB := Lib.hid hsub
          have MK := Lib.hid hmk
          have MZ := Lib.hid hmz
          have LV := Lib.hid hlive
          clear hsl1 hsl2 hpk1 hpk2 hpq hsub hmk hmz hlive hq5 heq1 heq2 hi0 hz0 hz1 hz2 hu29 hm
          generalize madeCells (Value.int .u8 0).cells m = MC at *
          refine wp_region_held_drew (S := Below w5.heap.size w5) (by kernel_rfl) ((Below.refl _ w5).drew) (fun _ => ?_)
          refine anyH_one 0 (by kernel_rfl) rfl rfl (fun K hK => ?_)
          refine wp_calls (some 129) rfl 9 #[] (ex_call0 9 _ rfl (fun _ _ => rfl)) (.bool true) (fun w' => Below w5.heap.size w5 w') LV.out (fun W1 hR1 => hK _ _ hR1 ?_)
          clear hK K
          simp only [Act.put, List.setIfInBounds_toArray, List.set_cons_zero, List.set_cons_succ]
          have hS0 := Lib.hid hR1
          clear hR1
          refine anyH_take 1 (some 130) (.bool true) rfl rfl (by kernel_rfl) (by kernel_rfl) (by kernel_rfl) (fun _ _ _ h => h) rfl (fun _ _ => rfl) hS0.out ?_
          simp only [Act.put, List.setIfInBounds_toArray, List.set_cons_zero, List.set_cons_succ]
          refine anyH_take 2 (some 131) (.int .i64 0) rfl rfl (by kernel_rfl) (by kernel_rfl) (by kernel_rfl) (fun _ _ _ h => h) rfl (fun _ _ => rfl) hS0.out ?_
          simp only [Act.put, List.setIfInBounds_toArray, List.set_cons_zero, List.set_cons_succ]
          refine anyH_take 3 (some 132) (.bool true) rfl rfl (by kernel_rfl) (by kernel_rfl) (by kernel_rfl) (fun _ _ _ h => h) rfl (fun _ _ => by kernel_rfl) hS0.out ?_
          simp only [Act.put, List.setIfInBounds_toArray, List.set_cons_zero, List.set_cons_succ]
          refine anyH_take 4 (some 133) (.bool true) rfl rfl (by kernel_rfl) (by kernel_rfl) (by kernel_rfl) (fun _ _ _ h => h) rfl (fun _ _ => rfl) hS0.out ?_
          simp only [Act.put, List.setIfInBounds_toArray, List.set_cons_zero, List.set_cons_succ]
          refine anyH_take 5 (some 134) (.bool true) rfl rfl (by kernel_rfl) (by kernel_rfl) (by kernel_rfl) (fun _ _ _ h => h) rfl (fun _ _ => rfl) hS0.out ?_
          simp only [Act.put, List.setIfInBounds_toArray, List.set_cons_zero, List.set_cons_succ]
          refine anyH_take 6 (some 135) (.slice (some ⟨bb, 0, none⟩) 64 64) rfl rfl (by kernel_rfl) (by kernel_rfl) (by kernel_rfl) (fun _ _ _ h => h) rfl (fun _ _ => rfl) hS0.out ?_
          simp only [Act.put, List.setIfInBounds_toArray, List.set_cons_zero, List.set_cons_succ]
          refine anyH_take 7 (some 136) (.int .i64 ((64 : Nat) : Int)) rfl rfl (by kernel_rfl) (by kernel_rfl) (by kernel_rfl) (fun _ _ _ h => h) rfl (fun _ _ => ex_len 29 5 (.tmp 135) rfl Try.underlying29 rfl) hS0.out ?_
          simp only [Act.put, List.setIfInBounds_toArray, List.set_cons_zero, List.set_cons_succ]
          refine anyH_take 8 (some 137) (.bool true) rfl rfl (by kernel_rfl) (by kernel_rfl) (by kernel_rfl) (fun _ _ _ h => h) rfl (fun _ _ => by kernel_rfl) hS0.out ?_
          simp only [Act.put, List.setIfInBounds_toArray, List.set_cons_zero, List.set_cons_succ]
          refine anyH_take 9 (some 138) (.bool true) rfl rfl (by kernel_rfl) (by kernel_rfl) (by kernel_rfl) (fun _ _ _ h => h) rfl (fun _ _ => rfl) hS0.out ?_
          simp only [Act.put, List.setIfInBounds_toArray, List.set_cons_zero, List.set_cons_succ]
          refine anyH_take 10 (some 139) (.bool true) rfl rfl (by kernel_rfl) (by kernel_rfl) (by kernel_rfl) (fun _ _ _ h => h) rfl (fun _ _ => rfl) hS0.out ?_
          simp only [Act.put, List.setIfInBounds_toArray, List.set_cons_zero, List.set_cons_succ]
          refine anyH_take 11 (some 140) (.slice (some ⟨bb, 0, none⟩) 64 64) rfl rfl (by kernel_rfl) (by kernel_rfl) (by kernel_rfl) (fun _ _ _ h => h) rfl (fun _ _ => rfl) hS0.out ?_
          simp only [Act.put, List.setIfInBounds_toArray, List.set_cons_zero, List.set_cons_succ]
          refine anyH_take 12 (some 141) (.slice xa q.length xc) rfl rfl (by kernel_rfl) (by kernel_rfl) (by kernel_rfl) (fun _ _ _ h => h) rfl (fun _ _ => rfl) hS0.out ?_
          simp only [Act.put, List.setIfInBounds_toArray, List.set_cons_zero, List.set_cons_succ]
          refine anyH_take 13 (some 142) (.int .i64 (q.length : Int)) rfl rfl (by kernel_rfl) (by kernel_rfl) (by kernel_rfl) (fun _ _ _ h => h) rfl (fun _ _ => ex_len 29 5 (.tmp 141) rfl Try.underlying29 rfl) hS0.out ?_
          simp only [Act.put, List.setIfInBounds_toArray, List.set_cons_zero, List.set_cons_succ]
          refine anyH_take 14 (some 143) (.slice (cutA (some ⟨bb, 0, none⟩) 0 64) q.length 64) rfl rfl (by kernel_rfl) (by kernel_rfl) (by kernel_rfl) (fun _ _ _ h => h) rfl (fun W _ => ex_sliceTo 29 (.tmp 140) (.tmp 142) rfl _ _ _ rfl rfl (SL1.out W)) hS0.out ?_
          simp only [Act.put, List.setIfInBounds_toArray, List.set_cons_zero, List.set_cons_succ]
          refine anyH_take 15 (some 144) (.string ⟨q.toArray⟩) rfl rfl (by kernel_rfl) (by kernel_rfl) (by kernel_rfl) (fun _ _ _ h => h) rfl (fun W hW => ex_convert 29 9 (.tmp 143) rfl _ _ rfl (PK1.out W hW)) hS0.out ?_
          simp only [Act.put, List.setIfInBounds_toArray, List.set_cons_zero, List.set_cons_succ]
          refine anyH_take 16 (some 145) (.slice xa q.length xc) rfl rfl (by kernel_rfl) (by kernel_rfl) (by kernel_rfl) (fun _ _ _ h => h) rfl (fun _ _ => rfl) hS0.out ?_
          simp only [Act.put, List.setIfInBounds_toArray, List.set_cons_zero, List.set_cons_succ]
          refine anyH_take 17 (some 146) (.string ⟨q.toArray⟩) rfl rfl (by kernel_rfl) (by kernel_rfl) (by kernel_rfl) (fun _ _ _ h => h) rfl (fun W hW => ex_convert 29 9 (.tmp 145) rfl _ _ rfl (PQ.out W hW)) hS0.out ?_
          simp only [Act.put, List.setIfInBounds_toArray, List.set_cons_zero, List.set_cons_succ]
          refine anyH_take 18 (some 147) (.bool (q == q)) rfl rfl (by kernel_rfl) (by kernel_rfl) (by kernel_rfl) (fun _ _ _ h => h) rfl (fun W _ => ex_eqlS 9 9 (.tmp 144) (.tmp 146) rfl q q rfl rfl) hS0.out ?_
          simp only [Act.put, List.setIfInBounds_toArray, List.set_cons_zero, List.set_cons_succ]
          rw [beq_self_eq_true q]
          refine anyH_take 19 (some 148) (.bool true) rfl rfl (by kernel_rfl) (by kernel_rfl) (by kernel_rfl) (fun _ _ _ h => h) rfl (fun _ _ => rfl) hS0.out ?_
          simp only [Act.put, List.setIfInBounds_toArray, List.set_cons_zero, List.set_cons_succ]
          refine anyH_take 20 (some 149) (.bool true) rfl rfl (by kernel_rfl) (by kernel_rfl) (by kernel_rfl) (fun _ _ _ h => h) rfl (fun _ _ => rfl) hS0.out ?_
          simp only [Act.put, List.setIfInBounds_toArray, List.set_cons_zero, List.set_cons_succ]
          refine anyH_take 21 (some 150) (.slice (some ⟨bb, 0, none⟩) 64 64) rfl rfl (by kernel_rfl) (by kernel_rfl) (by kernel_rfl) (fun _ _ _ h => h) rfl (fun _ _ => rfl) hS0.out ?_
          simp only [Act.put, List.setIfInBounds_toArray, List.set_cons_zero, List.set_cons_succ]
          refine anyH_take 22 (some 151) (.slice xa q.length xc) rfl rfl (by kernel_rfl) (by kernel_rfl) (by kernel_rfl) (fun _ _ _ h => h) rfl (fun _ _ => rfl) hS0.out ?_
          simp only [Act.put, List.setIfInBounds_toArray, List.set_cons_zero, List.set_cons_succ]
          refine anyH_take 23 (some 152) (.int .i64 (q.length : Int)) rfl rfl (by kernel_rfl) (by kernel_rfl) (by kernel_rfl) (fun _ _ _ h => h) rfl (fun _ _ => ex_len 29 5 (.tmp 151) rfl Try.underlying29 rfl) hS0.out ?_
          simp only [Act.put, List.setIfInBounds_toArray, List.set_cons_zero, List.set_cons_succ]
          refine anyH_take 24 (some 153) (.slice (cutA (some ⟨bb, 0, none⟩) q.length 64) m m) rfl rfl (by kernel_rfl) (by kernel_rfl) (by kernel_rfl) (fun _ _ _ h => h) rfl (fun W _ => ex_sliceFrom 29 (.tmp 150) (.tmp 152) rfl _ _ _ rfl rfl (SL2.out W)) hS0.out ?_
          simp only [Act.put, List.setIfInBounds_toArray, List.set_cons_zero, List.set_cons_succ]
          refine anyH_take 25 (some 154) (.string ⟨(List.replicate m (0 : UInt8)).toArray⟩) rfl rfl (by kernel_rfl) (by kernel_rfl) (by kernel_rfl) (fun _ _ _ h => h) rfl (fun W hW => ex_convert 29 9 (.tmp 153) rfl _ _ rfl (PK2.out W hW)) hS0.out ?_
          simp only [Act.put, List.setIfInBounds_toArray, List.set_cons_zero, List.set_cons_succ]
          refine anyH_take 26 (some 155) (.slice xa q.length xc) rfl rfl (by kernel_rfl) (by kernel_rfl) (by kernel_rfl) (fun _ _ _ h => h) rfl (fun _ _ => rfl) hS0.out ?_
          simp only [Act.put, List.setIfInBounds_toArray, List.set_cons_zero, List.set_cons_succ]
          refine anyH_take 27 (some 156) (.int .i64 (q.length : Int)) rfl rfl (by kernel_rfl) (by kernel_rfl) (by kernel_rfl) (fun _ _ _ h => h) rfl (fun _ _ => ex_len 29 5 (.tmp 155) rfl Try.underlying29 rfl) hS0.out ?_
          simp only [Act.put, List.setIfInBounds_toArray, List.set_cons_zero, List.set_cons_succ]
          refine anyH_take 28 (some 157) (.int .i64 (m : Int)) rfl rfl (by kernel_rfl) (by kernel_rfl) (by kernel_rfl) (fun _ _ _ h => h) rfl (fun W _ => ex_sub 3 3 (.const (.int .i64 64)) (.tmp 156) rfl _ _ rfl rfl (SUB.out W)) hS0.out ?_
          simp only [Act.put, List.setIfInBounds_toArray, List.set_cons_zero, List.set_cons_succ]
          have hS2 : Hid (Below w5.heap.size w5 (W1.alloc (.cells MC 5))) := hS0.out.alloc hS0.out.size _
          have HMZ := Lib.hid (MZ.out W1)
          have HMK := Lib.hid (MK.out W1)
          refine anyH_oneG 29 (by kernel_rfl) rfl rfl (fun K hK => ?_)
          refine wp_runs (some 158) rfl (ex_makeSlice 29 (.tmp 157) (.tmp 157) rfl _ _ rfl rfl HMK.out) (hK _ _ hS2.out ?_)
          clear hK K
          simp only [Act.put, List.setIfInBounds_toArray, List.set_cons_zero, List.set_cons_succ]
          refine anyH_oneG 30 (by kernel_rfl) rfl rfl (fun K hK => ?_)
          refine wp_runs (some 159) rfl (ex_convert 29 9 (.tmp 158) rfl _ _ rfl HMZ.out) (hK _ _ hS2.out ?_)
          clear hK K
          simp only [Act.put, List.setIfInBounds_toArray, List.set_cons_zero, List.set_cons_succ]
          refine anyH_take 31 (some 160) (.bool (List.replicate m (0 : UInt8) == List.replicate m 0)) rfl rfl (by kernel_rfl) (by kernel_rfl) (by kernel_rfl) (fun _ _ _ h => h) rfl (fun W _ => ex_eqlS 9 9 (.tmp 154) (.tmp 159) rfl (List.replicate m 0) (List.replicate m 0) rfl rfl) hS2.out ?_
          simp only [Act.put, List.setIfInBounds_toArray, List.set_cons_zero, List.set_cons_succ]
          rw [beq_self_eq_true (List.replicate m (0 : UInt8))]
          refine anyH_take 32 (some 161) (.bool true) rfl rfl (by kernel_rfl) (by kernel_rfl) (by kernel_rfl) (fun _ _ _ h => h) rfl (fun _ _ => rfl) hS2.out ?_
          simp only [Act.put, List.setIfInBounds_toArray, List.set_cons_zero, List.set_cons_succ]
          refine anyH_take 33 (some 8) (.bool true) rfl rfl (by kernel_rfl) (by kernel_rfl) (by kernel_rfl) (fun _ _ _ h => h) rfl (fun _ _ => rfl) hS2.out ?_
          simp only [Act.put, List.setIfInBounds_toArray, List.set_cons_zero, List.set_cons_succ]
          refine wpAnyH_done (by kernel_rfl) ?_ _
          have HEND := Lib.hid (HBE.out.trans (hS2.out.mono HBE.out.size))
          clear SL1 SL2 PK1 PK2 PQ SUB MK MZ LV HMZ HMK hS0 hS2
          go_wp2
          go_ret
          exact ⟨rfl, HEND.out⟩
end Go.Proofs.Ytohmofhpbmhhjaa
