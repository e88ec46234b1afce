/- Coord: a name's record; the record of one that is over, of one that is done; New, Boot. -/
import Derived.Test.YtleghofpabdkhaaY3
namespace Go.Proofs.Ytleghofpabdkhaa
open Go Go.RowKit

section
variable {P : Program}
theorem ex_call2 {o : Oper} {a : Act} {w : World} (f : FuncId) (x y : Operand) (ts : Array TypeId) (ho : o.op = .call { callee := .value (.func f), args := #[x, y], argTypes := ts }) (xv yv : Value) (hx : a.eval x = xv) (hy : a.eval y = yv)
    (hen : ∀ args w, (callFunc f args).run P w = .ok (.enter f args) w) : (execOp a.eval o).run P w = .ok (.enter f #[xv, yv]) w := by
  have hf : a.eval (.func f) = .func (.func f) #[] #[] := rfl
  unfold execOp
  simp [ho, resolve, Deferred.ofValue, invoke, hx, hy, hf, hen, Sem.run_bind, Sem.run_pure, Result.andThen]

end
theorem run_load_int (W : World) (N j : Nat) (z : Int) (h : W.cell? ⟨N, j, none⟩ = some (.int .i64 z)) : (Instr.loadAt 3 (.pointer (some ⟨N, j, none⟩))).run Try.prog W = .ok (.int .i64 z) W := by go_simp
theorem row_up {B B' : Nat} {w : World} {v : Value} {l : List UInt8} (h : Row B w v l) (hv : ∀ g, v.ownBlock = some g → B' ≤ g) : Row B' w v l :=
  ⟨h.1, fun ad n c e => by obtain ⟨a1, a2, a3⟩ := h.2 ad n c e; exact ⟨hv ad.block (by rw [e]; rfl), a2, a3⟩⟩
set_option maxHeartbeats 2000000 in
set_option maxRecDepth 100000 in
theorem putName_any (B : Nat) (w : World) (v : Value) (l : List UInt8) (x : Txn) (nb nn : Nat) (hv : Row B w v l) (hB : B ≤ w.heap.size) (hl : l.length ≤ 900) (hx : x.boot = (nb : Int)) (hx2 : x.n = (nn : Int)) (hn : nb ≤ 4294967295) (hn2 : nn ≤ 4294967295) :
    Calls Try.prog 59 #[v, txV x] w (PutR B w v (l ++ num4 nb ++ num4 nn)) := by
  obtain ⟨nd, bt, n⟩ := x
  dsimp only at hx hx2
  subst hx hx2
  obtain ⟨va, vc, rfl, _⟩ := hv.1.shape
  obtain ⟨wb, hwb⟩ : ∃ wb, w.alloc (.cells #[.int .i64 nd, .int .i64 (nb : Int), .int .i64 (nn : Int)] 33) = wb := ⟨_, rfl⟩
  have hb : Below w.heap.size w wb := by rw [← hwb]; exact (Below.refl _ w).alloc (Nat.le_refl _) _
  have hbx : wb.heap[w.heap.size]? = some (.cells #[.int .i64 nd, .int .i64 (nb : Int), .int .i64 (nn : Int)] 33 (0, 0)) := by rw [← hwb]; exact heap_alloc_new w _
  have hsb : wb.heap.size = w.heap.size + 1 := by rw [← hwb]; simp
  have hbd : Below wb.heap.size wb wb.drew := (Below.refl _ wb).drew
  have hvl := hv.1.lt
  have HC := Lib.hid (putNumber_any B wb.drew _ l nb ((hv.below hb).below hbd) (by show B ≤ wb.heap.size; omega) (by omega) hn)
  have BX := Lib.hid hbx
  have HB := Lib.hid hb
  have HVL := Lib.hid hvl
  have HSB := Lib.hid hsb
  have hBw : B ≤ wb.heap.size := by omega
  clear hbx hb hvl hbd hv
  unfold txV
  go_enter Try.func59, Try.ntmps59
  go_wp2_with fail
  clear hwb
  refine wp_region_held_drew (S := fun W : World => W.heap[w.heap.size]? = some (.cells #[.int .i64 nd, .int .i64 (nb : Int), .int .i64 (nn : Int)] 33 (0, 0))) (by kernel_rfl) BX.out (fun _ => ?_)
  refine hh_take 0 (some 5) (.slice va l.length vc) rfl rfl (by kernel_rfl) (by kernel_rfl) (by kernel_rfl) (fun _ _ _ h => h) rfl (fun _ _ => rfl) BX.out ?_
  simp only [Act.put, List.setIfInBounds_toArray, List.set_cons_zero, List.set_cons_succ]
  refine hh_take 1 (some 6) (.pointer (some ⟨w.heap.size, 1, none⟩)) rfl rfl (by kernel_rfl) (by kernel_rfl) (by kernel_rfl) (fun _ _ _ h => h) rfl (fun _ _ => by kernel_rfl) BX.out ?_
  simp only [Act.put, List.setIfInBounds_toArray, List.set_cons_zero, List.set_cons_succ]
  refine hh_take 2 (some 7) (.int .i64 (nb : Int)) rfl rfl (by kernel_rfl) (by kernel_rfl) (by kernel_rfl) (fun _ _ _ h => h) rfl (fun W hW => ex_load 3 (.tmp 6) rfl _ _ rfl (run_load_int W _ _ _ (cell_of_row _ _ _ _ _ _ hW))) BX.out ?_
  simp only [Act.put, List.setIfInBounds_toArray, List.set_cons_zero, List.set_cons_succ]
  refine hh_take 4 (some 9) (.pointer (some ⟨w.heap.size, 2, none⟩)) rfl rfl (by kernel_rfl) (by kernel_rfl) (by kernel_rfl) (fun _ _ _ h => h) rfl (fun _ _ => by kernel_rfl) BX.out ?_
  simp only [Act.put, List.setIfInBounds_toArray, List.set_cons_zero, List.set_cons_succ]
  refine hh_take 5 (some 10) (.int .i64 (nn : Int)) rfl rfl (by kernel_rfl) (by kernel_rfl) (by kernel_rfl) (fun _ _ _ h => h) rfl (fun W hW => ex_load 3 (.tmp 9) rfl _ _ rfl (run_load_int W _ _ _ (cell_of_row _ _ _ _ _ _ hW))) BX.out ?_
  simp only [Act.put, List.setIfInBounds_toArray, List.set_cons_zero, List.set_cons_succ]
  refine hh_one 3 (by kernel_rfl) rfl rfl (fun K hK => wp_callsE (some 8) rfl 56 _ (ex_call2 56 (.tmp 5) (.tmp 7) _ rfl _ _ rfl rfl (fun _ _ => rfl)) (fun v1 w1 => PutR B wb.drew (.slice va l.length vc) (l ++ num4 nb) (.returned v1) w1) (HC.out.mono fun e w1 h => by obtain ⟨a, c, rfl, h2⟩ := h; exact ⟨_, rfl, a, c, rfl, h2⟩) (fun v1 w1 hR => hK _ _ (by obtain ⟨a, c, -, -, hf, -⟩ := hR; exact (hf.block w.heap.size (by show w.heap.size < wb.heap.size; have := HSB.out; omega) (fun e => by have := HVL.out _ e; omega)).trans BX.out) ?_))
  clear hK K
  simp only [Act.put, List.setIfInBounds_toArray, List.set_cons_zero, List.set_cons_succ]
  obtain ⟨a1, c1, he, hr1, hf1, hn1⟩ := hR
  injection he with he
  subst he
  have hs1 : wb.heap.size ≤ w1.heap.size := hf1.size
  have hb1 : w1.heap[w.heap.size]? = _ := (hf1.block w.heap.size (by show w.heap.size < wb.heap.size; have := HSB.out; omega) (fun e => by have := HVL.out _ e; omega)).trans BX.out
  have BX1 := Lib.hid hb1
  have HC2 := Lib.hid (putNumber_any B w1 _ (l ++ num4 nb) nn hr1 (by omega) (by rw [List.length_append, num4_len]; omega) hn2)
  have HF1 := Lib.hid (And.intro hr1 (And.intro hf1 hn1))
  clear hr1 hf1 hn1 hb1 HC
  refine hh_one 6 (by kernel_rfl) rfl rfl (fun K hK => wp_callsE (some 11) rfl 56 _ (ex_call2 56 (.tmp 8) (.tmp 10) _ rfl _ _ rfl rfl (fun _ _ => rfl)) (fun v2 w2 => PutR B w1 (.slice a1 (l ++ num4 nb).length c1) (l ++ num4 nb ++ num4 nn) (.returned v2) w2) (HC2.out.mono fun e w2 h => by obtain ⟨a, c, rfl, h2⟩ := h; exact ⟨_, rfl, a, c, rfl, h2⟩) (fun v2 w2 hR => hK _ _ (by obtain ⟨a, c, -, -, hf, -⟩ := hR; exact (hf.block w.heap.size (by have := HSB.out; omega) (fun e => by rcases HF1.out.2.2 _ e with h | h; (have := HVL.out _ h; omega); (have h2 : wb.heap.size ≤ w.heap.size := h; have := HSB.out; omega))).trans BX1.out) ?_))
  clear hK K
  simp only [Act.put, List.setIfInBounds_toArray, List.set_cons_zero, List.set_cons_succ]
  have hb2 : w2.heap[w.heap.size]? = _ := (by obtain ⟨a, c, -, -, hf, -⟩ := hR; exact (hf.block w.heap.size (by have := HSB.out; omega) (fun e => by rcases HF1.out.2.2 _ e with h | h; (have := HVL.out _ h; omega); (have h2 : wb.heap.size ≤ w.heap.size := h; have := HSB.out; omega))).trans BX1.out)
  obtain ⟨a2, c2, he, hr2, hf2, hn2'⟩ := hR
  injection he with he
  subst he
  refine hh_take 7 (some 4) (.slice a2 (l ++ num4 nb ++ num4 nn).length c2) rfl rfl (by kernel_rfl) (by kernel_rfl) (by kernel_rfl) (fun _ _ _ h => h) rfl (fun _ _ => rfl) hb2 ?_
  simp only [Act.put, List.setIfInBounds_toArray, List.set_cons_zero, List.set_cons_succ]
  refine wpAnyH_done (by kernel_rfl) ?_ _
  have HE : Hid (PutR B w (.slice va l.length vc) (l ++ num4 nb ++ num4 nn) (.returned (.slice a2 (l ++ num4 nb ++ num4 nn).length c2)) w2) := Lib.hid ⟨a2, c2, rfl, hr2, ((Fr.of_below (fun k => (Value.slice va l.length vc).ownBlock = some k) HB.out).drew.trans HF1.out.2.1 (fun _ _ h => h) (fun _ _ h => h)).trans hf2 (fun _ _ h => h) (fun k hk h => by rcases HF1.out.2.2 k h with h | h; exact h; (have h2 : wb.heap.size ≤ k := h; have := HSB.out; omega)), fun g hg => by
    rcases hn2' g hg with h | h
    · rcases HF1.out.2.2 g h with h | h
      · exact Or.inl h
      · exact Or.inr (by have h2 : wb.heap.size ≤ g := h; have := HSB.out; omega)
    · exact Or.inr (by have := HSB.out; omega)⟩
  clear hb2 hr2 hf2 hn2' HF1 BX BX1 HC2
  go_wp2
  go_ret
  exact HE.out
set_option maxRecDepth 100000 in
theorem overRecord_any (x : Txn) (nb nn : Nat) (hx : x.boot = (nb : Int)) (hx2 : x.n = (nn : Int)) (hn : nb ≤ 4294967295) (hn2 : nn ≤ 4294967295) (w : World) : Calls Try.prog 37 #[txV x] w (RecR w ([3] ++ num4 nb ++ num4 nn)) := by
  obtain ⟨wb, hwb⟩ : ∃ wb, w.alloc (.cells #[.int .i64 x.node, .int .i64 x.boot, .int .i64 x.n] 33) = wb := ⟨_, rfl⟩
  have hb : Below w.heap.size w wb := by rw [← hwb]; exact (Below.refl _ w).alloc (Nat.le_refl _) _
  have hbx : wb.heap[w.heap.size]? = some (.cells #[.int .i64 x.node, .int .i64 x.boot, .int .i64 x.n] 33 (0, 0)) := by rw [← hwb]; exact heap_alloc_new w _
  obtain ⟨w1, hw1⟩ : ∃ w1, wb.alloc (.cells #[.int .u8 3] 5) = w1 := ⟨_, rfl⟩
  have hb1 : Below wb.heap.size wb w1 := by rw [← hw1]; exact (Below.refl _ wb).alloc (Nat.le_refl _) _
  have hr : Row wb.heap.size w1 (.slice (some ⟨wb.heap.size, 0, none⟩) 1 1) [3] := by rw [← hw1]; exact lit_row wb 3
  have hbx1 : w1.heap[w.heap.size]? = _ := (hb1.block _ (Array.getElem?_eq_some_iff.1 hbx).1).trans hbx
  have c0 : w1.cell? ⟨w.heap.size, 0, none⟩ = some (.int .i64 x.node) := cell_of_row _ _ _ _ _ _ hbx1
  have c1 : w1.cell? ⟨w.heap.size, 1, none⟩ = some (.int .i64 x.boot) := cell_of_row _ _ _ _ _ _ hbx1
  have c2 : w1.cell? ⟨w.heap.size, 2, none⟩ = some (.int .i64 x.n) := cell_of_row _ _ _ _ _ _ hbx1
  have hP := putName_any wb.heap.size w1 _ [3] x nb nn hr hb1.size (by simp) hx hx2 hn hn2
  unfold txV at hP ⊢
  have HP := Lib.hid hP
  have HB := Lib.hid (hb.trans (hb1.mono hb.size))
  have HR0 := Lib.hid hr
  have HS := Lib.hid (And.intro hb.size hb1.size)
  have HWB := Lib.hid hwb
  have HW := Lib.hid hw1
  clear hb hr hw1 hwb hb1 hbx hbx1 hP hx hx2
  go_enter Try.func37, Try.ntmps37
  go_wp2_with (first | rw [HWB.out] | rw [HW.out])
  refine HP.out.mono ?_
  rintro e w2 ⟨a, c, rfl, h1, h2, _⟩
  have HE : Hid (RecR w ([3] ++ num4 nb ++ num4 nn) (.returned (.slice a ([3] ++ num4 nb ++ num4 nn).length c)) w2) := Lib.hid ⟨a, c, rfl, row_up h1 (fun g hg => Nat.le_trans HS.out.1 (row_own h1 g hg)), HB.out.trans ((put_below HR0.out h2 HS.out.2).mono HS.out.1)⟩
  clear h1 h2 HP HB HR0 HW HWB c0 c1 c2
  go_wp2
  go_ret
  exact HE.out
theorem new_any (n : Int) (hn : 0 ≤ n) (hn2 : n ≤ 255) (w : World) : Calls Try.prog 7 #[.int .i64 n] w fun e w' => e = .returned (.tuple #[.pointer (some ⟨w.heap.size, 0, none⟩), .int .i64 0]) ∧ CdAt w.heap.size w' w.heap.size ⟨n, 0, 1, []⟩ (.slice none 0 0) ∧ Below w.heap.size w w' := by
  have HE : Hid (CdAt w.heap.size (w.alloc (.cells #[.int .i64 n, .int .i64 0, .int .i64 1, .slice none 0 0] 72)) w.heap.size ⟨n, 0, 1, []⟩ (.slice none 0 0) ∧ Below w.heap.size w (w.alloc (.cells #[.int .i64 n, .int .i64 0, .int .i64 1, .slice none 0 0] 72))) := Lib.hid
    ⟨⟨heap_alloc_new w _, World.ownsRow_nil _ _ _ _, fun g hg => by simp [Value.ownBlock] at hg, Nat.le_refl _⟩, (Below.refl _ w).alloc (Nat.le_refl _) _⟩
  have h1 : ¬ n < 0 := by omega
  have h2 : ¬ (255 : Int) < n := by omega
  go_enter Try.func7, Try.ntmps7
  go_wp2
  go_ret2
  exact ⟨rfl, HE.out⟩
/-- What a call tells that makes a record and changes nothing that was. -/
def BootR (w : World) (c : Cd) (e : Ending) (w' : World) : Prop :=
  (2147483647 ≤ c.life ∧ e = .returned (.tuple #[.slice none 0 0, .int .i64 8]) ∧ w = w') ∨ (c.life < 2147483647 ∧ ∃ a k, e = .returned (.tuple #[.slice a 5 k, .int .i64 0]) ∧ Row w.heap.size w' (.slice a 5 k) (1 :: num4 (c.life.toNat + 1)) ∧ Below w.heap.size w w')
theorem boot_any (B p : Nat) (w : World) (c : Cd) (sv : Value) (h : CdAt B w p c sv) (hl : 0 ≤ c.life) :
    Calls Try.prog 8 #[.pointer (some ⟨p, 0, none⟩)] w (BootR w c) := by
  obtain ⟨_, c1, _⟩ := h.cells
  obtain ⟨n, hn⟩ : ∃ n : Nat, c.life = (n : Int) := ⟨c.life.toNat, by omega⟩
  unfold BootR
  rw [hn] at c1 ⊢
  by_cases hb : 2147483647 ≤ n
  · have hb' : (2147483647 : Int) ≤ (n : Int) := by omega
    clear h hl hn
    go_enter Try.func8, Try.ntmps8
    go_wp2
    go_ret2
    exact Or.inl ⟨hb', rfl, rfl⟩
  · have hb' : ¬ (2147483647 : Int) ≤ (n : Int) := by omega
    have hr := lifeRecord_any (n + 1) (by omega) w
    rw [show ((n + 1 : Nat) : Int) = (n : Int) + 1 by omega] at hr
    have HR := Lib.hid hr
    clear h hl hn hr
    go_enter Try.func8, Try.ntmps8
    go_wp2_with fail
    refine HR.out.mono ?_
    rintro e w1 ⟨a, k, rfl, h1, h2⟩
    have HE := Lib.hid (And.intro h1 h2)
    clear h1 h2 HR
    go_wp2
    go_ret2
    exact Or.inr ⟨by omega, a, k, rfl, HE.out.1, HE.out.2⟩

end Go.Proofs.Ytleghofpabdkhaa
