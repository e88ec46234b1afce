/- Disk: what the law's do tells of the two: its end, Flush, Cut, Crash. -/
import Derived.Test.YtohmofhpbmhhjaaE12
namespace Go.Proofs.Ytohmofhpbmhhjaa
open Go Go.RowKit

section
variable {P : Program} {o : Oper} {a : Act} {w : World}
theorem ex_eqlI (t u : TypeId) (x y : Operand) (k : IntKind) (n : Int) (ho : o.op = .binOp .eql t x y u) (hx : a.eval x = .int k n) (hy : a.eval y = .int k n) : (execOp a.eval o).run P w = .ok (.value (.bool true)) w := by
  unfold execOp
  simp [ho, hx, hy, eqGuard, Sem.run_bind, binOp_eql]
theorem ex_eqlB (t u : TypeId) (x y : Operand) (b : Bool) (ht : P.underlying t = some .bool) (ho : o.op = .binOp .eql t x y u) (hx : a.eval x = .bool b) (hy : a.eval y = .bool b) : (execOp a.eval o).run P w = .ok (.value (.bool true)) w := by
  unfold execOp
  simp [ho, hx, hy, eqGuard, Sem.run_bind, binOp, run_equal_bool, ht]
theorem ex_call1 (f : FuncId) (x : Operand) (ts : Array TypeId) (ho : o.op = .call { callee := .value (.func f), args := #[x], argTypes := ts }) (xv : Value) (hx : a.eval x = xv)
    (hen : ∀ args w, (callFunc f args).run P w = .ok (.enter f args) w) : (execOp a.eval o).run P w = .ok (.enter f #[xv]) w := by
  have hf : a.eval (.func f) = .func (.func f) #[] #[] := rfl
  unfold execOp
  simp [ho, resolve, Deferred.ofValue, invoke, hx, hf, hen, Sem.run_bind, Sem.run_pure, Result.andThen]
end
/-- A deed, as the law's do has it. -/
structure DeedV (w : World) (d : Dd) (bv kv : Value) : Prop where
  b : Byz w bv d.bytes
  bl : ∀ g, bv.ownBlock = some g → d.bytes ≠ [] → g < w.heap.size
  bn : d.bytes.length ≤ 140737488351232
  k : Bools w kv d.keep
  kl : ∀ x, kv.ownBlock = some x → d.keep ≠ [] → x < w.heap.size
  kn : d.keep.length ≤ 9223372036854775807
  wi : d.i ≤ 9223372036854775807
set_option maxRecDepth 100000 in
set_option maxHeartbeats 4000000 in
theorem do_flush {w0 w : World} {D S c F : Nat} {s : St} (H : TwoE (fun _ => False) w0 w D S c F s s) (d : Dd) (bv kv : Value) (h1 : d.do' = 1) :
    Calls Try.prog 21 #[.pointer (some ⟨D, 0, none⟩), .pointer (some ⟨F, 0, none⟩), .agg #[.int .i64 d.do', .int .i64 d.i, bv, kv, .int .i64 d.torn, .int .i64 d.at']] w fun e w' => e = .returned (.bool true) ∧ TwoE (fun _ => False) w0 w' D S c F s.flushed.1 s.flushed.1 := by
  obtain ⟨do', i, bytes, keep, torn, at'⟩ := d
  simp only at h1
  subst h1
  simp only
  have hb : Below w.heap.size w (w.alloc (.cells #[.int .i64 1, .int .i64 i, bv, kv, .int .i64 torn, .int .i64 at'] 39)) := (Below.refl _ w).alloc (Nat.le_refl _) _
  obtain ⟨wb, hwb⟩ : ∃ wb, w.alloc (.cells #[.int .i64 1, .int .i64 i, bv, kv, .int .i64 torn, .int .i64 at'] 39) = wb := ⟨_, rfl⟩
  have hbx : wb.heap[w.heap.size]? = some (.cells #[.int .i64 1, .int .i64 i, bv, kv, .int .i64 torn, .int .i64 at'] 39) := by rw [← hwb]; exact heap_alloc_last w _
  have k0 : wb.cell? ⟨w.heap.size, 0, none⟩ = some (.int .i64 1) := by rw [cell_of_row _ _ _ _ _ _ hbx]; rfl
  rw [hwb] at hb
  have Hb := H.below hb
  have HF := Lib.hid (two_flush Hb)
  clear hb hbx H Hb
  go_enter Try.func21, Try.ntmps21
  go_wp2_with fail
  refine HF.out.mono ?_
  rintro e w1 ⟨rfl, h1, _⟩
  have HR := Lib.hid (two_rflush h1)
  clear HF h1 k0 hwb
  go_wp2_with fail
  refine HR.out.mono ?_
  rintro e wz ⟨rfl, h2, _⟩
  obtain ⟨sz, hsz⟩ : ∃ sz, s.flushed.1 = sz := ⟨_, rfl⟩
  rw [hsz] at h2
  have HSZ := Lib.hid hsz
  clear hsz
  generalize s.flushed.2 = e2 at *
  have HE := Lib.hid h2
  clear HR h2
  go_wp2_with fail
  have hbd : Below wz.heap.size wz wz.drew := (Below.refl _ wz).drew
  have hdn : ∀ W, Below wz.heap.size wz W → Calls Try.prog 17 #[.pointer (some ⟨D, 0, none⟩)] W fun e w' => e = .returned (.bool sz.down) ∧ Below wz.heap.size wz w' := fun W hW => (two_down (HE.out.below hW)).mono fun e w' ⟨q1, q2⟩ => by subst q2; exact ⟨q1, hW⟩
  have hag : ∀ W, Below wz.heap.size wz W → Calls Try.prog 23 #[.pointer (some ⟨D, 0, none⟩)] W fun e w' => e = .returned (.int .i64 (sz.age : Int)) ∧ Below wz.heap.size wz w' := fun W hW => (two_age (HE.out.below hW)).mono fun e w' ⟨q1, q2⟩ => by subst q2; exact ⟨q1, hW⟩
  have hwt : ∀ W, Below wz.heap.size wz W → Calls Try.prog 18 #[.pointer (some ⟨D, 0, none⟩)] W fun e w' => e = .returned (.int .i64 (sz.waits.length : Int)) ∧ Below wz.heap.size wz w' := fun W hW => (two_waits (HE.out.below hW)).mono fun e w' ⟨q1, q2⟩ => by subst q2; exact ⟨q1, hW⟩
  obtain ⟨_, _, la, lc, _, d1, d2, d4⟩ := HE.out.cells
  have hl119 : ∀ W, Below wz.heap.size wz W → (Instr.loadAt 4 (.pointer (some ⟨F, 2, none⟩))).run Try.prog W = .ok (.bool sz.down) W := fun W hW => by
    have hc := (hW.cell (p := ⟨F, 2, none⟩) (World.block_lt_of_cell? _ _ d2)).trans d2
    go_simp
  have hl128 : ∀ W, Below wz.heap.size wz W → (Instr.loadAt 3 (.pointer (some ⟨F, 4, none⟩))).run Try.prog W = .ok (.int .i64 (sz.age : Int)) W := fun W hW => by
    have hc := (hW.cell (p := ⟨F, 4, none⟩) (World.block_lt_of_cell? _ _ d4)).trans d4
    go_simp
  have hl137 : ∀ W, Below wz.heap.size wz W → (Instr.loadAt 71 (.pointer (some ⟨F, 1, none⟩))).run Try.prog W = .ok (.slice la sz.waits.length lc) W := fun W hW => by
    have hc := (hW.cell (p := ⟨F, 1, none⟩) (World.block_lt_of_cell? _ _ d1)).trans d1
    go_simp
  have BD := Lib.hid hbd
  have DN := Lib.hid hdn
  have AG := Lib.hid hag
  have WT := Lib.hid hwt
  have L119 := Lib.hid hl119
  have L128 := Lib.hid hl128
  have L137 := Lib.hid hl137
  clear hbd hdn hag hwt hl119 hl128 hl137 d1 d2 d4
  generalize sz.down = zd at *
  generalize (sz.age : Int) = za at *
  generalize sz.waits.length = zl at *
  refine wp_region_held_drew (S := Below wz.heap.size wz) (by kernel_rfl) BD.out (fun _ => ?_)
  refine anyH_take 0 (some 112) (.bool true) rfl rfl (by kernel_rfl) (by kernel_rfl) (by kernel_rfl) (fun _ _ _ h => h) rfl (fun _ _ => rfl) BD.out ?_
  simp only [Act.put, List.setIfInBounds_toArray, List.set_cons_zero, List.set_cons_succ]
  refine anyH_take 1 (some 113) (.bool true) rfl rfl (by kernel_rfl) (by kernel_rfl) (by kernel_rfl) (fun _ _ _ h => h) rfl (fun _ _ => rfl) BD.out ?_
  simp only [Act.put, List.setIfInBounds_toArray, List.set_cons_zero, List.set_cons_succ]
  refine anyH_take 2 (some 114) (.pointer (some ⟨D, 0, none⟩)) rfl rfl (by kernel_rfl) (by kernel_rfl) (by kernel_rfl) (fun _ _ _ h => h) rfl (fun _ _ => rfl) BD.out ?_
  simp only [Act.put, List.setIfInBounds_toArray, List.set_cons_zero, List.set_cons_succ]
  refine anyH_take 4 (some 116) (.pointer (some ⟨F, 0, none⟩)) rfl rfl (by kernel_rfl) (by kernel_rfl) (by kernel_rfl) (fun _ _ _ h => h) rfl (fun _ _ => rfl) BD.out ?_
  simp only [Act.put, List.setIfInBounds_toArray, List.set_cons_zero, List.set_cons_succ]
  refine anyH_take 5 (some 117) (.pointer (some ⟨F, 0, none⟩)) rfl rfl (by kernel_rfl) (by kernel_rfl) (by kernel_rfl) (fun _ _ _ h => h) rfl (fun _ _ => rfl) BD.out ?_
  simp only [Act.put, List.setIfInBounds_toArray, List.set_cons_zero, List.set_cons_succ]
  refine anyH_take 6 (some 118) (.pointer (some ⟨F, 2, none⟩)) rfl rfl (by kernel_rfl) (by kernel_rfl) (by kernel_rfl) (fun _ _ _ h => h) rfl (fun _ _ => by kernel_rfl) BD.out ?_
  simp only [Act.put, List.setIfInBounds_toArray, List.set_cons_zero, List.set_cons_succ]
  refine anyH_take 7 (some 119) (.bool zd) rfl rfl (by kernel_rfl) (by kernel_rfl) (by kernel_rfl) (fun _ _ _ h => h) rfl (fun W hW => ex_load 4 (.tmp 118) rfl _ _ rfl (L119.out W hW)) BD.out ?_
  simp only [Act.put, List.setIfInBounds_toArray, List.set_cons_zero, List.set_cons_succ]
  refine anyH_oneG 3 (by kernel_rfl) rfl rfl (fun K hK => ?_)
  refine wp_calls (some 115) rfl 17 _ (ex_call1 17 (.tmp 114) _ rfl _ rfl (fun _ _ => rfl)) (.bool zd) (fun w' => Below wz.heap.size wz w') (DN.out _ BD.out) (fun W1 hR1 => hK _ _ hR1 ?_)
  clear hK K
  simp only [Act.put, List.setIfInBounds_toArray, List.set_cons_zero, List.set_cons_succ]
  have R1 := Lib.hid hR1
  clear hR1
  refine anyH_take 8 (some 120) (.bool true) rfl rfl (by kernel_rfl) (by kernel_rfl) (by kernel_rfl) (fun _ _ _ h => h) rfl (fun W _ => ex_eqlB 4 4 (.tmp 115) (.tmp 119) zd Try.underlying4 rfl rfl rfl) R1.out ?_
  simp only [Act.put, List.setIfInBounds_toArray, List.set_cons_zero, List.set_cons_succ]
  refine anyH_take 9 (some 121) (.bool true) rfl rfl (by kernel_rfl) (by kernel_rfl) (by kernel_rfl) (fun _ _ _ h => h) rfl (fun _ _ => rfl) R1.out ?_
  simp only [Act.put, List.setIfInBounds_toArray, List.set_cons_zero, List.set_cons_succ]
  refine anyH_take 10 (some 122) (.bool true) rfl rfl (by kernel_rfl) (by kernel_rfl) (by kernel_rfl) (fun _ _ _ h => h) rfl (fun _ _ => rfl) R1.out ?_
  simp only [Act.put, List.setIfInBounds_toArray, List.set_cons_zero, List.set_cons_succ]
  refine anyH_take 11 (some 123) (.pointer (some ⟨D, 0, none⟩)) rfl rfl (by kernel_rfl) (by kernel_rfl) (by kernel_rfl) (fun _ _ _ h => h) rfl (fun _ _ => rfl) R1.out ?_
  simp only [Act.put, List.setIfInBounds_toArray, List.set_cons_zero, List.set_cons_succ]
  refine anyH_take 13 (some 125) (.pointer (some ⟨F, 0, none⟩)) rfl rfl (by kernel_rfl) (by kernel_rfl) (by kernel_rfl) (fun _ _ _ h => h) rfl (fun _ _ => rfl) R1.out ?_
  simp only [Act.put, List.setIfInBounds_toArray, List.set_cons_zero, List.set_cons_succ]
  refine anyH_take 14 (some 126) (.pointer (some ⟨F, 0, none⟩)) rfl rfl (by kernel_rfl) (by kernel_rfl) (by kernel_rfl) (fun _ _ _ h => h) rfl (fun _ _ => rfl) R1.out ?_
  simp only [Act.put, List.setIfInBounds_toArray, List.set_cons_zero, List.set_cons_succ]
  refine anyH_take 15 (some 127) (.pointer (some ⟨F, 4, none⟩)) rfl rfl (by kernel_rfl) (by kernel_rfl) (by kernel_rfl) (fun _ _ _ h => h) rfl (fun _ _ => by kernel_rfl) R1.out ?_
  simp only [Act.put, List.setIfInBounds_toArray, List.set_cons_zero, List.set_cons_succ]
  refine anyH_take 16 (some 128) (.int .i64 za) rfl rfl (by kernel_rfl) (by kernel_rfl) (by kernel_rfl) (fun _ _ _ h => h) rfl (fun W hW => ex_load 3 (.tmp 127) rfl _ _ rfl (L128.out W hW)) R1.out ?_
  simp only [Act.put, List.setIfInBounds_toArray, List.set_cons_zero, List.set_cons_succ]
  refine anyH_oneG 12 (by kernel_rfl) rfl rfl (fun K hK => ?_)
  refine wp_calls (some 124) rfl 23 _ (ex_call1 23 (.tmp 123) _ rfl _ rfl (fun _ _ => rfl)) (.int .i64 za) (fun w' => Below wz.heap.size wz w') (AG.out _ R1.out) (fun W2 hR2 => hK _ _ hR2 ?_)
  clear hK K
  simp only [Act.put, List.setIfInBounds_toArray, List.set_cons_zero, List.set_cons_succ]
  have R2 := Lib.hid hR2
  clear hR2
  refine anyH_take 17 (some 129) (.bool true) rfl rfl (by kernel_rfl) (by kernel_rfl) (by kernel_rfl) (fun _ _ _ h => h) rfl (fun W _ => ex_eqlI 3 3 (.tmp 124) (.tmp 128) .i64 za rfl rfl rfl) R2.out ?_
  simp only [Act.put, List.setIfInBounds_toArray, List.set_cons_zero, List.set_cons_succ]
  refine anyH_take 18 (some 130) (.bool true) rfl rfl (by kernel_rfl) (by kernel_rfl) (by kernel_rfl) (fun _ _ _ h => h) rfl (fun _ _ => rfl) R2.out ?_
  simp only [Act.put, List.setIfInBounds_toArray, List.set_cons_zero, List.set_cons_succ]
  refine anyH_take 19 (some 131) (.bool true) rfl rfl (by kernel_rfl) (by kernel_rfl) (by kernel_rfl) (fun _ _ _ h => h) rfl (fun _ _ => rfl) R2.out ?_
  simp only [Act.put, List.setIfInBounds_toArray, List.set_cons_zero, List.set_cons_succ]
  refine anyH_take 20 (some 132) (.pointer (some ⟨D, 0, none⟩)) rfl rfl (by kernel_rfl) (by kernel_rfl) (by kernel_rfl) (fun _ _ _ h => h) rfl (fun _ _ => rfl) R2.out ?_
  simp only [Act.put, List.setIfInBounds_toArray, List.set_cons_zero, List.set_cons_succ]
  refine anyH_take 22 (some 134) (.pointer (some ⟨F, 0, none⟩)) rfl rfl (by kernel_rfl) (by kernel_rfl) (by kernel_rfl) (fun _ _ _ h => h) rfl (fun _ _ => rfl) R2.out ?_
  simp only [Act.put, List.setIfInBounds_toArray, List.set_cons_zero, List.set_cons_succ]
  refine anyH_take 23 (some 135) (.pointer (some ⟨F, 0, none⟩)) rfl rfl (by kernel_rfl) (by kernel_rfl) (by kernel_rfl) (fun _ _ _ h => h) rfl (fun _ _ => rfl) R2.out ?_
  simp only [Act.put, List.setIfInBounds_toArray, List.set_cons_zero, List.set_cons_succ]
  refine anyH_take 24 (some 136) (.pointer (some ⟨F, 1, none⟩)) rfl rfl (by kernel_rfl) (by kernel_rfl) (by kernel_rfl) (fun _ _ _ h => h) rfl (fun _ _ => by kernel_rfl) R2.out ?_
  simp only [Act.put, List.setIfInBounds_toArray, List.set_cons_zero, List.set_cons_succ]
  refine anyH_take 25 (some 137) (.slice la zl lc) rfl rfl (by kernel_rfl) (by kernel_rfl) (by kernel_rfl) (fun _ _ _ h => h) rfl (fun W hW => ex_load 71 (.tmp 136) rfl _ _ rfl (L137.out W hW)) R2.out ?_
  simp only [Act.put, List.setIfInBounds_toArray, List.set_cons_zero, List.set_cons_succ]
  refine anyH_take 26 (some 138) (.int .i64 (zl : Int)) rfl rfl (by kernel_rfl) (by kernel_rfl) (by kernel_rfl) (fun _ _ _ h => h) rfl (fun _ _ => ex_len 71 77 (.tmp 137) rfl Try.underlying71 rfl) R2.out ?_
  simp only [Act.put, List.setIfInBounds_toArray, List.set_cons_zero, List.set_cons_succ]
  refine anyH_oneG 21 (by kernel_rfl) rfl rfl (fun K hK => ?_)
  refine wp_calls (some 133) rfl 18 _ (ex_call1 18 (.tmp 132) _ rfl _ rfl (fun _ _ => rfl)) (.int .i64 (zl : Int)) (fun w' => Below wz.heap.size wz w') (WT.out _ R2.out) (fun W3 hR3 => hK _ _ hR3 ?_)
  clear hK K
  simp only [Act.put, List.setIfInBounds_toArray, List.set_cons_zero, List.set_cons_succ]
  have R3 := Lib.hid hR3
  clear hR3
  refine anyH_take 27 (some 139) (.bool true) rfl rfl (by kernel_rfl) (by kernel_rfl) (by kernel_rfl) (fun _ _ _ h => h) rfl (fun W _ => ex_eqlI 3 3 (.tmp 133) (.tmp 138) .i64 (zl : Int) rfl rfl rfl) R3.out ?_
  simp only [Act.put, List.setIfInBounds_toArray, List.set_cons_zero, List.set_cons_succ]
  refine anyH_take 28 (some 140) (.bool true) rfl rfl (by kernel_rfl) (by kernel_rfl) (by kernel_rfl) (fun _ _ _ h => h) rfl (fun _ _ => rfl) R3.out ?_
  simp only [Act.put, List.setIfInBounds_toArray, List.set_cons_zero, List.set_cons_succ]
  refine anyH_take 29 (some 6) (.bool true) rfl rfl (by kernel_rfl) (by kernel_rfl) (by kernel_rfl) (fun _ _ _ h => h) rfl (fun _ _ => rfl) R3.out ?_
  simp only [Act.put, List.setIfInBounds_toArray, List.set_cons_zero, List.set_cons_succ]
  refine wpAnyH_done (by kernel_rfl) ?_ _
  have HFIN := Lib.hid (HE.out.below R3.out)
  clear HE BD DN AG WT L119 L128 L137 R1 R2 R3
  go_wp2
  go_ret
  exact ⟨rfl, by rw [HSZ.out]; exact HFIN.out⟩
end Go.Proofs.Ytohmofhpbmhhjaa

