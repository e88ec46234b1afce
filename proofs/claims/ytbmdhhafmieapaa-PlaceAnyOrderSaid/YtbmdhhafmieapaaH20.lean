/- Place: the code's Fork. -/
import Derived.Test.YtbmdhhafmieapaaH19
import Derived.Test.YtbmdhhafmieapaaRG
namespace Go.Proofs.Ytbmdhhafmieapaa
open Go Go.RowKit Go.Maps

theorem ex_box {P : Program} {o : Oper} {a : Act} {w : World} (t : TypeId) (x : Operand) (ho : o.op = .box t x) (C : Array Value) (hx : (a.eval x).cells = C) : (execOp a.eval o).run P w = .ok (.value (.pointer (some ⟨w.heap.size, 0, none⟩))) (w.alloc (.cells C t)) := by
  subst hx
  unfold execOp
  simp only [ho, Sem.run_bind, Instr.box, newVar, newRow, run_newObj_alloc, Sem.run_pure, Result.andThen_ok]
theorem ex_nilCheck {P : Program} {o : Oper} {a : Act} {w : World} (x : Operand) (ho : o.op = .nilCheck x) (p : Addr) (hx : a.eval x = .pointer (some p)) : (execOp a.eval o).run P w = .ok (.value (.pointer (some p))) w := by
  unfold execOp
  simp only [ho, hx]
  rfl
/-- What the code's Fork leaves. -/
def ForkM (w : World) (n : Int) (k : Nat) (l : List Known) (w' : World) (q : Nat) : Prop := IsMap w' q w.heap.size n k (mapD l) ∧ Below w.heap.size w w'
set_option maxRecDepth 100000 in
set_option maxHeartbeats 2000000 in
theorem fork_any (p b : Nat) (n : Int) (k : Nat) (l : List Known) (w : World) (hm : IsMap w p b n k (mapD l)) :
    Calls Try.prog 20 #[.pointer (some ⟨p, 0, none⟩)] w fun e w' => ∃ q, e = .returned (.pointer (some ⟨q, 0, none⟩)) ∧ ForkM w n k l w' q := by
  have hlt := hm.lt
  have hc := Try.maps_Clone_owns 9 seatElem b k (mapD l) w.drew hm.own.drew
  have bd : Below w.heap.size w w.drew := (Below.refl _ w).drew
  have hl0 : ∀ W : World, Below w.heap.size w W → (Instr.loadAt 3 (.pointer (some ⟨p, 0, none⟩))).run Try.prog W = .ok (.int .i64 n) W := fun W hW => by
    have hc : W.cell? ⟨p, 0, none⟩ = some (.int .i64 n) := (hW.cell (p := ⟨p, 0, none⟩) hlt).trans hm.c0
    go_simp
  have hl1 : ∀ W : World, Below w.heap.size w W → (Instr.loadAt 55 (.pointer (some ⟨p, 1, none⟩))).run Try.prog W = .ok (.map (some b)) W := fun W hW => by
    have hc : W.cell? ⟨p, 1, none⟩ = some (.map (some b)) := (hW.cell (p := ⟨p, 1, none⟩) hlt).trans hm.c1
    go_simp
  have BD := Lib.hid bd
  have HC := Lib.hid hc
  have L0 := Lib.hid hl0
  have L1 := Lib.hid hl1
  clear bd hc hl0 hl1 hm
  go_enter Try.func20, Try.ntmps20
  go_wp2_with fail
  refine wp_region_held_drew (S := Below w.heap.size w) (by kernel_rfl) BD.out (fun _ => ?_)
  refine anyH_take 0 (some 5) (.pointer (some ⟨p, 0, none⟩)) rfl rfl (by kernel_rfl) (by kernel_rfl) (by kernel_rfl) (fun _ _ _ h => h) rfl (fun _ _ => rfl) BD.out ?_
  simp only [Act.put, List.setIfInBounds_toArray, List.set_cons_zero, List.set_cons_succ]
  refine anyH_take 1 (some 6) (.pointer (some ⟨p, 0, none⟩)) rfl rfl (by kernel_rfl) (by kernel_rfl) (by kernel_rfl) (fun _ _ _ h => h) rfl (fun _ _ => ex_nilCheck (.tmp 5) rfl _ rfl) BD.out ?_
  simp only [Act.put, List.setIfInBounds_toArray, List.set_cons_zero, List.set_cons_succ]
  refine anyH_take 2 (some 7) (.pointer (some ⟨p, 0, none⟩)) rfl rfl (by kernel_rfl) (by kernel_rfl) (by kernel_rfl) (fun _ _ _ h => h) rfl (fun _ _ => by kernel_rfl) BD.out ?_
  simp only [Act.put, List.setIfInBounds_toArray, List.set_cons_zero, List.set_cons_succ]
  refine anyH_take 3 (some 8) (.int .i64 n) rfl rfl (by kernel_rfl) (by kernel_rfl) (by kernel_rfl) (fun _ _ _ h => h) rfl (fun W hW => ex_load 3 (.tmp 7) rfl _ _ rfl (L0.out W hW)) BD.out ?_
  simp only [Act.put, List.setIfInBounds_toArray, List.set_cons_zero, List.set_cons_succ]
  refine anyH_take 4 (some 9) (.pointer (some ⟨p, 0, none⟩)) rfl rfl (by kernel_rfl) (by kernel_rfl) (by kernel_rfl) (fun _ _ _ h => h) rfl (fun _ _ => rfl) BD.out ?_
  simp only [Act.put, List.setIfInBounds_toArray, List.set_cons_zero, List.set_cons_succ]
  refine anyH_take 5 (some 10) (.pointer (some ⟨p, 0, none⟩)) rfl rfl (by kernel_rfl) (by kernel_rfl) (by kernel_rfl) (fun _ _ _ h => h) rfl (fun _ _ => ex_nilCheck (.tmp 9) rfl _ rfl) BD.out ?_
  simp only [Act.put, List.setIfInBounds_toArray, List.set_cons_zero, List.set_cons_succ]
  refine anyH_take 6 (some 11) (.pointer (some ⟨p, 1, none⟩)) rfl rfl (by kernel_rfl) (by kernel_rfl) (by kernel_rfl) (fun _ _ _ h => h) rfl (fun _ _ => by kernel_rfl) BD.out ?_
  simp only [Act.put, List.setIfInBounds_toArray, List.set_cons_zero, List.set_cons_succ]
  refine anyH_take 7 (some 12) (.map (some b)) rfl rfl (by kernel_rfl) (by kernel_rfl) (by kernel_rfl) (fun _ _ _ h => h) rfl (fun W hW => ex_load 55 (.tmp 11) rfl _ _ rfl (L1.out W hW)) BD.out ?_
  simp only [Act.put, List.setIfInBounds_toArray, List.set_cons_zero, List.set_cons_succ]
  refine anyH_one 8 (by kernel_rfl) rfl rfl (fun K hK => ?_)
  refine wp_calls (some 13) rfl 30 _ (ex_call1 30 (.tmp 12) _ rfl _ rfl (fun _ _ => rfl)) (.map (some w.heap.size)) _ HC.out (fun w1 hR => hK _ _ (BD.out.trans (hR.2.2.mono (Nat.le_refl _))) ?_)
  clear hK K
  simp only [Act.put, List.setIfInBounds_toArray, List.set_cons_zero, List.set_cons_succ]
  obtain ⟨r1, _, r3⟩ := hR
  have r3 : Below w.heap.size w w1 := BD.out.trans (r3.mono (Nat.le_refl _))
  have hz1 := r3.size
  have hbs : w.heap.size < w1.heap.size := r1.lt
  have hb2 : Below w.heap.size w (w1.alloc (.cells #[.int .i64 n, .map (some w.heap.size)] 57)) := r3.alloc hz1 _
  have hfin : ForkM w n k l (w1.alloc (.cells #[.int .i64 n, .map (some w.heap.size)] 57)) w1.heap.size := by
    have hblk := heap_alloc_last w1 (.cells #[.int .i64 n, .map (some w.heap.size)] 57)
    exact ⟨⟨by rw [cell_of_row _ _ _ _ _ _ hblk]; rfl, by rw [cell_of_row _ _ _ _ _ _ hblk]; rfl, r1.alloc _, hbs⟩, hb2⟩
  have FIN := Lib.hid hfin
  have BD1 := Lib.hid r3
  have BD2 := Lib.hid hb2
  clear r1 r3 hz1 hbs hb2 hfin
  refine anyH_take 9 (some 14) (.agg #[.int .i64 n, .map (some w.heap.size)]) rfl rfl (by kernel_rfl) (by kernel_rfl) (by kernel_rfl) (fun _ _ _ h => h) rfl (fun _ _ => by kernel_rfl) BD1.out ?_
  simp only [Act.put, List.setIfInBounds_toArray, List.set_cons_zero, List.set_cons_succ]
  refine anyH_one 10 (by kernel_rfl) rfl rfl (fun K hK => ?_)
  refine wp_runs (some 15) rfl (ex_box 57 (.tmp 14) rfl #[.int .i64 n, .map (some w.heap.size)] rfl) (hK _ _ BD2.out ?_)
  clear hK K
  simp only [Act.put, List.setIfInBounds_toArray, List.set_cons_zero, List.set_cons_succ]
  refine anyH_take 11 (some 2) (.pointer (some ⟨w1.heap.size, 0, none⟩)) rfl rfl (by kernel_rfl) (by kernel_rfl) (by kernel_rfl) (fun _ _ _ h => h) rfl (fun _ _ => rfl) BD2.out ?_
  simp only [Act.put, List.setIfInBounds_toArray, List.set_cons_zero, List.set_cons_succ]
  refine wpAnyH_done (by kernel_rfl) ?_ _
  clear L0 L1 HC BD BD1 BD2
  go_wp2
  go_ret
  exact ⟨_, rfl, FIN.out⟩
theorem fork_nil (w : World) : Calls Try.prog 20 #[.pointer none] w fun e w' => e = .returned (.pointer none) ∧ w' = w := by
  go_enter Try.func20, Try.ntmps20
  go_wp2
  go_ret
  exact ⟨rfl, rfl⟩
theorem learn_nil (w : World) (v : Value) (hv : ∃ a b c, v = .agg #[a, b, c]) : Calls Try.prog 17 #[.pointer none, v] w fun e w' => e = .returned (.int .i64 1) ∧ Below w.heap.size w w' := by
  obtain ⟨a, b, c, rfl⟩ := hv
  have HB := Lib.hid (show Below w.heap.size w (w.alloc (.cells #[a, b, c] 35)) from (Below.refl _ w).alloc (Nat.le_refl _) _)
  go_enter Try.func17, Try.ntmps17
  go_wp2
  go_ret
  exact ⟨rfl, HB.out⟩
theorem seat_nil (w : World) (u : ByteArray) : Calls Try.prog 14 #[.pointer none, .string u] w fun e w' => e = .returned (.tuple #[.agg #[.string ⟨#[]⟩, .int .i64 0, .int .i64 0], .int .i64 1]) ∧ Below w.heap.size w w' := by
  go_enter Try.func14, Try.ntmps14
  go_wp2
  exact bodyPost_ret (v := .tuple #[.agg #[.string ⟨#[]⟩, .int .i64 0, .int .i64 0], .int .i64 1]) (by simp [results, Try.results14, go_sem]) rfl ⟨rfl, (Below.refl _ w).alloc (Nat.le_refl _) _⟩
end Go.Proofs.Ytbmdhhafmieapaa
