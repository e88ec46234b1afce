/- Coord: Ask. -/
import Derived.Test.YtleghofpabdkhaaY8
import Derived.BigQuiet
import Derived.Deep.QuietTactic
namespace Go.Proofs.Ytleghofpabdkhaa
open Go Go.RowKit

theorem drewN_below (w : World) (n : Nat) : Below w.heap.size w (w.drewN n) := ⟨rfl, rfl, rfl, Nat.le_refl _, fun _ _ => rfl⟩
/-- Ask, in plain words. -/
def Cd.ask (c : Cd) (x : Txn) : Int :=
  if x.node ≠ c.node ∨ x.boot < 1 ∨ c.life < x.boot ∨ x.n < 1 then 0
  else if x.boot = c.life ∧ c.next ≤ x.n then 0
  else if c.under.any (askedB x) = true then 0
  else if c.under.any (doneB x) = true then 1 else 2
theorem any_none {α : Type} (f : α → Bool) (l : List α) (h : ∀ t ∈ l, f t = false) : l.any f = false := by
  rw [List.any_eq_false]
  intro t ht
  rw [h t ht]; simp
theorem any_some {α : Type} (f : α → Bool) (l : List α) (j : Nat) (t : α) (h : l[j]? = some t) (h2 : f t = true) : l.any f = true := List.any_eq_true.2 ⟨t, List.mem_of_getElem? h, h2⟩
set_option maxHeartbeats 8000000 in
set_option maxRecDepth 100000 in
theorem ask_any (B p : Nat) (w : World) (c : Cd) (sv : Value) (x : Txn) (h : CdAt B w p c sv) (hn : c.under.length ≤ 1000) :
    Calls Try.prog 14 #[.pointer (some ⟨p, 0, none⟩), txV x] w fun e w' => e = .returned (.int .i64 (c.ask x)) ∧ Below w.heap.size w w' := by
  obtain ⟨wb, hwb⟩ : ∃ wb, w.alloc (.cells #[.int .i64 x.node, .int .i64 x.boot, .int .i64 x.n] 33) = wb := ⟨_, rfl⟩
  have hb : Below w.heap.size w wb := by rw [← hwb]; exact (Below.refl _ w).alloc (Nat.le_refl _) _
  have hx : TxAt wb w.heap.size x := by rw [← hwb]; exact txAt_new w x
  have HC : Hid (∀ W, Below wb.heap.size wb W → CdAt B W p c sv ∧ TxAt W w.heap.size x ∧ Below w.heap.size w W) := Lib.hid (fun W hW => ⟨(h.below hb).below hW, hx.below hW, hb.trans (hW.mono hb.size)⟩)
  have HWB := Lib.hid hwb
  clear hb hx hwb h
  unfold txV
  obtain ⟨A, hA⟩ : ∃ A, c.ask x = A := ⟨_, rfl⟩
  rw [hA]
  unfold Cd.ask at hA
  obtain ⟨hC, hT, hB⟩ := HC.out wb (Below.refl _ _)
  obtain ⟨c0, c1, c2, _⟩ := hC.cells
  obtain ⟨x0, x1, x2, _⟩ := hT
  have HB0 := Lib.hid hB
  by_cases hbad : x.node ≠ c.node ∨ x.boot < 1 ∨ c.life < x.boot ∨ x.n < 1
  · rw [if_pos hbad] at hA
    subst hA
    clear hC hB HC
    have hcs : x.node ≠ c.node ∨ (x.node = c.node ∧ x.boot < 1) ∨ (x.node = c.node ∧ ¬ x.boot < 1 ∧ c.life < x.boot) ∨ (x.node = c.node ∧ ¬ x.boot < 1 ∧ ¬ c.life < x.boot ∧ x.n < 1) := by omega
    rcases hcs with h1 | ⟨h1, h2⟩ | ⟨h1, h2, h3⟩ | ⟨h1, h2, h3, h4⟩
    · have e1 : (x.node != c.node) = true := bne_iff_ne.2 h1
      clear h1 hbad
      go_enter Try.func14, Try.ntmps14
      go_wp2_with (first | rw [HWB.out])
      go_quiet (fail)
      have HE := Lib.hid (HB0.out.trans ((drewN_below wb nq).mono HB0.out.size))
      go_wp2
      go_ret
      exact ⟨rfl, HE.out⟩
    · have e1 : (x.node != c.node) = false := by rw [h1]; simp
      clear h1 hbad
      go_enter Try.func14, Try.ntmps14
      go_wp2_with (first | rw [HWB.out])
      go_quiet (fail)
      have HE := Lib.hid (HB0.out.trans ((drewN_below wb nq).mono HB0.out.size))
      go_wp2
      go_ret
      exact ⟨rfl, HE.out⟩
    · have e1 : (x.node != c.node) = false := by rw [h1]; simp
      clear h1 hbad
      go_enter Try.func14, Try.ntmps14
      go_wp2_with (first | rw [HWB.out])
      go_quiet (fail)
      have HE1 := Lib.hid (drewN_below wb nq)
      obtain ⟨W1, hW1⟩ : ∃ W1, wb.drewN nq = W1 := ⟨_, rfl⟩
      rw [hW1] at HE1 ⊢
      have d1 : W1.cell? ⟨p, 1, none⟩ = some (.int .i64 c.life) := by rw [← hW1]; exact c1
      have y1 : W1.cell? ⟨w.heap.size, 1, none⟩ = some (.int .i64 x.boot) := by rw [← hW1]; exact x1
      have y2 : W1.cell? ⟨w.heap.size, 2, none⟩ = some (.int .i64 x.n) := by rw [← hW1]; exact x2
      clear hW1 c0 c1 c2 x0 x1 x2
      go_wp2_with fail
      go_quiet (fail)
      have HE := Lib.hid ((HB0.out.trans (HE1.out.mono HB0.out.size)).trans ((drewN_below W1 nq).mono (Nat.le_trans HB0.out.size HE1.out.size)))
      go_wp2
      go_ret
      exact ⟨rfl, HE.out⟩
    · have e1 : (x.node != c.node) = false := by rw [h1]; simp
      clear h1 hbad
      go_enter Try.func14, Try.ntmps14
      go_wp2_with (first | rw [HWB.out])
      go_quiet (fail)
      have HE1 := Lib.hid (drewN_below wb nq)
      obtain ⟨W1, hW1⟩ : ∃ W1, wb.drewN nq = W1 := ⟨_, rfl⟩
      rw [hW1] at HE1 ⊢
      have d1 : W1.cell? ⟨p, 1, none⟩ = some (.int .i64 c.life) := by rw [← hW1]; exact c1
      have y1 : W1.cell? ⟨w.heap.size, 1, none⟩ = some (.int .i64 x.boot) := by rw [← hW1]; exact x1
      have y2 : W1.cell? ⟨w.heap.size, 2, none⟩ = some (.int .i64 x.n) := by rw [← hW1]; exact x2
      clear hW1 c0 c1 c2 x0 x1 x2
      go_wp2_with fail
      go_quiet (fail)
      have HE2 := Lib.hid (drewN_below W1 nq)
      obtain ⟨W2, hW2⟩ : ∃ W2, W1.drewN nq = W2 := ⟨_, rfl⟩
      rw [hW2] at HE2 ⊢
      have z2 : W2.cell? ⟨w.heap.size, 2, none⟩ = some (.int .i64 x.n) := by rw [← hW2]; exact y2
      have HE := Lib.hid ((HB0.out.trans (HE1.out.mono HB0.out.size)).trans (HE2.out.mono (Nat.le_trans HB0.out.size HE1.out.size)))
      clear hW2 y1 y2 d1
      go_wp2
      go_ret
      exact ⟨rfl, HE.out⟩
  rw [if_neg hbad] at hA
  obtain ⟨h1, h2, h3, h4⟩ : x.node = c.node ∧ ¬ x.boot < 1 ∧ ¬ c.life < x.boot ∧ ¬ x.n < 1 := by omega
  have e1 : (x.node != c.node) = false := by rw [h1]; simp
  clear h1 hbad hC hB
  have HA := Lib.hid hA
  clear hA
  go_enter Try.func14, Try.ntmps14
  go_wp2_with (first | rw [HWB.out])
  go_quiet (fail)
  have HE1 := Lib.hid (drewN_below wb nq)
  obtain ⟨W1, hW1⟩ : ∃ W1, wb.drewN nq = W1 := ⟨_, rfl⟩
  rw [hW1] at HE1 ⊢
  have d1 : W1.cell? ⟨p, 1, none⟩ = some (.int .i64 c.life) := by rw [← hW1]; exact c1
  have y1 : W1.cell? ⟨w.heap.size, 1, none⟩ = some (.int .i64 x.boot) := by rw [← hW1]; exact x1
  have y2 : W1.cell? ⟨w.heap.size, 2, none⟩ = some (.int .i64 x.n) := by rw [← hW1]; exact x2
  clear hW1 c0 c1 c2 x0 x1 x2 HWB
  go_wp2_with fail
  go_quiet (fail)
  have HE2 := Lib.hid (HE1.out.trans ((drewN_below W1 nq).mono HE1.out.size))
  obtain ⟨W2, hW2⟩ : ∃ W2, W1.drewN nq = W2 := ⟨_, rfl⟩
  rw [hW2] at HE2 ⊢
  clear hW2 y1 y2 d1 HE1
  obtain ⟨hC2, hT2, hB2⟩ := HC.out W2 HE2.out
  obtain ⟨_, d1, d2, _⟩ := hC2.cells
  obtain ⟨y0, y1, y2, _⟩ := hT2
  clear hC2 hB2
  by_cases hq : x.boot = c.life ∧ c.next ≤ x.n
  · have HZ : Hid (A = 0) := Lib.hid (by have := HA.out; rw [if_pos hq] at this; exact this.symm)
    obtain ⟨q1, q2⟩ := hq
    have e2 : (x.boot == c.life) = true := by rw [q1]; simp
    clear HA q1
    go_wp2_with fail
    go_quiet (fail)
    have HE3 := Lib.hid (HE2.out.trans ((drewN_below W2 nq).mono HE2.out.size))
    have HE := Lib.hid (HC.out _ HE3.out).2.2
    clear HE3 HE2 HC
    go_wp2
    go_ret
    exact ⟨ret_int HZ.out.symm, HE.out⟩
  have HA2 : Hid ((if c.under.any (askedB x) = true then 0 else if c.under.any (doneB x) = true then 1 else 2) = A) := Lib.hid (by have := HA.out; rw [if_neg hq] at this; exact this)
  clear HA
  have hq2 : (x.boot == c.life) = false ∨ ((x.boot == c.life) = true ∧ ¬ c.next ≤ x.n) := by
    by_cases hbl : x.boot = c.life
    · exact Or.inr ⟨by rw [hbl]; simp, fun h => hq ⟨hbl, h⟩⟩
    · exact Or.inl (beq_eq_false_iff_ne.2 hbl)
  clear hq
  rcases hq2 with e2 | ⟨e2, e3⟩
  all_goals
    go_wp2_with fail
    go_quiet (fail)
    have HE3 := Lib.hid (HE2.out.trans ((drewN_below W2 nq).mono HE2.out.size))
    obtain ⟨W3, hW3⟩ : ∃ W3, W2.drewN nq = W3 := ⟨_, rfl⟩
    rw [hW3] at HE3 ⊢
    clear hW3 y0 y1 y2 d1 d2 HE2
    obtain ⟨hC3, hT3, hB3⟩ := HC.out W3 HE3.out
    obtain ⟨y0, y1, y2, _⟩ := hT3
    have ha := asked_any x W3
    unfold txV at ha
    have HAS := Lib.hid ha
    clear hC3 hB3 ha
    go_wp2_with fail
    refine HAS.out.mono ?_
    rintro e w4 ⟨b4, rfl, hbx4, hb4⟩
    have hE4 := HE3.out.trans (hb4.mono HE3.out.size)
    obtain ⟨hC4, hT4, hB4⟩ := HC.out w4 hE4
    have HF := Lib.hid (find_asked B p w4 c sv x b4 hC4 hbx4 hn)
    have HE4 := Lib.hid hE4
    clear HAS y0 y1 y2 HE3 hbx4 hb4 hE4 hC4 hT4 hB4
    go_wp2_with fail
    refine HF.out.mono ?_
    rintro e w5 ⟨rfl, hb5⟩
    have hE5 := HE4.out.trans (hb5.mono HE4.out.size)
    have HE5 := Lib.hid hE5
    clear HF HE4 hb5
    rcases idx_spec (askedB x) c.under 0 with ⟨i1, i2⟩ | ⟨j, t, i1, i2, i3, i4⟩
    · have hno := any_none _ _ i2
      have HA3 : Hid ((if c.under.any (doneB x) = true then (1 : Int) else 2) = A) := Lib.hid (by have := HA2.out; rw [hno] at this; simpa using this)
      rw [i1]
      obtain ⟨hC5, hT5, hB5⟩ := HC.out w5 hE5
      obtain ⟨y0, y1, y2, _⟩ := hT5
      have ha := done_any x w5
      unfold txV at ha
      have HAS := Lib.hid ha
      clear hC5 hB5 ha hno i1 i2 HA2 hE5
      go_wp2_with fail
      refine HAS.out.mono ?_
      rintro e w6 ⟨b6, rfl, hbx6, hb6⟩
      have hE6 := HE5.out.trans (hb6.mono HE5.out.size)
      obtain ⟨hC6, hT6, hB6⟩ := HC.out w6 hE6
      have HF := Lib.hid (find_done B p w6 c sv x b6 hC6 hbx6 hn)
      have HE6 := Lib.hid hE6
      clear HAS y0 y1 y2 HE5 hbx6 hb6 hE6 hC6 hT6 hB6
      go_wp2_with fail
      refine HF.out.mono ?_
      rintro e w7 ⟨rfl, hb7⟩
      have hE7 := HE6.out.trans (hb7.mono HE6.out.size)
      have HE := Lib.hid (HC.out _ hE7).2.2
      clear HF HE6 hb7 hE7 HC
      rcases idx_spec (doneB x) c.under 0 with ⟨i1, i2⟩ | ⟨j, t, i1, i2, i3, i4⟩
      · have HZ : Hid (A = 2) := Lib.hid (by have := HA3.out; rw [any_none _ _ i2] at this; simpa using this.symm)
        rw [i1]
        clear i1 i2 HA3
        go_wp2
        go_ret
        exact ⟨ret_int HZ.out.symm, HE.out⟩
      · have HZ : Hid (A = 1) := Lib.hid (by have := HA3.out; rw [any_some _ _ j t i2 i3] at this; simpa using this.symm)
        rw [i1, Nat.zero_add]
        have hj0 : (0 : Int) ≤ (j : Int) := by omega
        clear i1 i2 i3 i4 HA3
        go_wp2
        go_ret
        exact ⟨ret_int HZ.out.symm, HE.out⟩
    · have HZ : Hid (A = 0) := Lib.hid (by have := HA2.out; rw [any_some _ _ j t i2 i3] at this; simpa using this.symm)
      have HE := Lib.hid (HC.out _ hE5).2.2
      rw [i1, Nat.zero_add]
      have hj0 : (0 : Int) ≤ (j : Int) := by omega
      clear i1 i2 i3 i4 HA2 HC hE5
      go_wp2
      go_ret
      exact ⟨ret_int HZ.out.symm, HE.out⟩
end Go.Proofs.Ytleghofpabdkhaa
