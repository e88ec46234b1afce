/- Date: the stamp's moment. -/
import Derived.Test.YtkkmjadkagpihaaDoorJ21
import Derived.StillTailTactics
namespace Go.Proofs.YtkkmjadkagpihaaDoor
open Go Go.RowKit

def stopE (t : ByteArray) (s : Stp) : Int := if s.at_ < t.size then 4 else s.stop
/-- What a stamp tells: seconds, zone, place, error. -/
def momR (t : ByteArray) (s : Stp) : Int × Int × Int × Int :=
  if stopE t s ≠ 0 then (0, 0, s.at_, stopE t s)
  else if rt s.year s.month s.day = true then
    if s.weekly = true ∧ s.week ≠ (num s.year s.month s.day + 3) % 7 then (0, 0, 0, 2)
    else (num s.year s.month s.day * 86400 + s.clock - 60 * s.zone, s.zone, 0, 0)
  else (0, 0, 0, 2)
def momV (r : Int × Int × Int × Int) : Value := .tuple #[timeV r.1 r.2.1, .int .i64 r.2.2.1, .int .i64 r.2.2.2]
def Mom (b : Nat) (w : World) (r : Int × Int × Int × Int) (e : Ending) (w' : World) : Prop := e = .returned (momV r) ∧ Fr (· = b) w w'

theorem qweek (n : Int) (h0 : -9223372036854775808 ≤ n) (h1 : n ≤ 9223372036854775807) (w : World) (k : Nat) : Calls Tryd.prog 14 #[.int .i64 n] (w.drewN k) fun e w' => e = .returned (.int .i64 ((n + 3) % 7)) ∧ w' = w.drewN k :=
  (week_any n _ h0 h1).mono fun _ _ h => ⟨h.1, h.2.symm⟩

structure MomK (b : Nat) (t : ByteArray) (s : Stp) (w w1 : World) : Prop where
  st : StAt w1 b t s
  fr : Fr (· = b) w w1
  row : w1.heap[w.heap.size]? = some (.cells #[.int .i64 0, .int .i64 0] 35 (0, 0))
theorem MomK.below {b : Nat} {t : ByteArray} {s : Stp} {w w1 w2 : World} (h : MomK b t s w w1) (hb : Below w1.heap.size w1 w2) : MomK b t s w w2 :=
  ⟨h.st.below hb, frt h.fr (Fr.of_below _ hb), (hb.block _ (Array.getElem?_eq_some_iff.1 h.row).1).trans h.row⟩
theorem MomK.drew {b : Nat} {t : ByteArray} {s : Stp} {w w1 : World} (h : MomK b t s w w1) (n : Nat) : MomK b t s w (w1.drewN n) := ⟨h.st, frd h.fr n, h.row⟩

set_option maxRecDepth 100000 in
set_option maxHeartbeats 1000000 in
theorem moment_any (b : Nat) (t : ByteArray) (s : Stp) (w : World) (h : StAt w b t s) (hk : Ok t s) (hc0 : 0 ≤ s.clock) (hc1 : s.clock ≤ 1000000) (hz0 : -1000000 ≤ s.zone) (hz1 : s.zone ≤ 1000000) (r : Int × Int × Int × Int) (hr : momR t s = r) :
    Calls Tryd.prog 42 #[.pointer (some ⟨b, 0, none⟩)] w (Mom b w r) := by
  have hlt := h.lt
  obtain ⟨W0, hW⟩ : ∃ W0, w.alloc (.cells #[.int .i64 0, .int .i64 0] 35) = W0 := ⟨_, rfl⟩
  have h0 : StAt W0 b t s := by rw [← hW]; exact h.below (bal (Below.refl _ _) _)
  have hrow0 : W0.heap[w.heap.size]? = some (.cells #[.int .i64 0, .int .i64 0] 35 (0, 0)) := by rw [← hW]; exact heap_alloc_new w _
  have hf0 : Fr (· = b) w W0 := by rw [← hW]; exact Fr.of_below _ (bal (Below.refl _ _) _)
  have hz : w.heap.size < W0.heap.size := (Array.getElem?_eq_some_iff.1 hrow0).1
  have HE := Lib.hid (end_any b t s W0 h0 hk.1 hk.2)
  rw [show (if s.at_ < t.size then (4 : Int) else s.stop) = stopE t s from rfl] at HE
  have HB : Hid (∀ w1, StAt w1 b t (s.up s.at_ (stopE t s)) → Fr (· = b) W0 w1 → MomK b t (s.up s.at_ (stopE t s)) w w1) := Lib.hid (fun w1 a c => ⟨a, frt hf0 c, (c.block _ hz (by intro e; omega)).trans hrow0⟩)
  have HW := Lib.hid hW
  unfold momR at hr
  clear h hk h0 hrow0 hf0 hW
  generalize stopE t s = st at *
  by_cases hst : st = 0
  · rw [if_neg (by simpa using hst)] at hr
    subst hst
    cases hrt : rt s.year s.month s.day with
    | false =>
      rw [hrt, if_neg (by decide)] at hr
      have HD := Lib.hid (fun (w : World) => days_no s.year s.month s.day w hrt)
      unfold dayV at HD
      subst hr
      clear hrt
      go_enter Tryd.func42, Tryd.ntmps42
      go_wp2_with fail
      rw [HW.out]
      refine HE.out.mono ?_
      rintro e w1 ⟨rfl, h1, f1⟩
      have HM := Lib.hid (HB.out w1 h1 f1)
      have c3 : w1.cell? ⟨b, 3, none⟩ = some (.int .i64 s.year) := h1.c 3
      have c4 : w1.cell? ⟨b, 4, none⟩ = some (.int .i64 s.month) := h1.c 4
      have c5 : w1.cell? ⟨b, 5, none⟩ = some (.int .i64 s.day) := h1.c 5
      clear h1 f1
      go_wp2_with fail
      refine (HD.out _).mono ?_
      rintro e w2 ⟨rfl, hb2⟩
      have HM2 := Lib.hid (HM.out.below hb2)
      clear c3 c4 c5 hb2
      go_wp2_with fail
      go_quiet (fail)
      have HM3 := Lib.hid (HM2.out.drew nq)
      generalize w2.drewN nq = w3 at *
      have hrow := HM3.out.row
      have k0 : w3.cell? ⟨w.heap.size, 0, none⟩ = some (.int .i64 0) := cell_of_row _ _ _ _ _ _ hrow
      have k1 : w3.cell? ⟨w.heap.size, 1, none⟩ = some (.int .i64 0) := cell_of_row _ _ _ _ _ _ hrow
      have f0 : w3.frozen? ⟨w.heap.size, 0, none⟩ = false := frozen_of_row _ _ _ _ _ hrow
      have f1 : w3.frozen? ⟨w.heap.size, 1, none⟩ = false := frozen_of_row _ _ _ _ _ hrow
      clear hrow
      go_wp2
      exact bodyPost_ret (v := .tuple #[.agg #[.int .i64 0, .int .i64 0], .int .i64 0, .int .i64 2]) (by simp [results, Tryd.results42, go_sem, k0, k1]) rfl ⟨rfl, (HM3.out.fr.setCell _ (Or.inr (Nat.le_refl _)) _).setCell _ (Or.inr (Nat.le_refl _)) _⟩
    | true =>
      have hin := num_in hrt
      rw [hrt, if_pos rfl] at hr
      have HD := Lib.hid (fun (w : World) => days_yes s.year s.month s.day w hrt)
      unfold dayV at HD
      generalize num s.year s.month s.day = n at *
      have HQ := Lib.hid (fun (w : World) (k : Nat) => qweek n (by omega) (by omega) w k)
      have hw1 : IntKind.i64.wrap (n * 86400) = n * 86400 := IntWalk.i64_in _ (by omega)
      have hw2 : IntKind.i64.wrap (n * 86400 + s.clock) = n * 86400 + s.clock := IntWalk.i64_in _ (by omega)
      have hw3 : IntKind.i64.wrap (60 * s.zone) = 60 * s.zone := IntWalk.i64_in _ (by omega)
      have hw4 : IntKind.i64.wrap (n * 86400 + s.clock - 60 * s.zone) = n * 86400 + s.clock - 60 * s.zone := IntWalk.i64_in _ (by omega)
      have HW1 := Lib.hid hw1
      have HW2 := Lib.hid hw2
      have HW3 := Lib.hid hw3
      have HW4 := Lib.hid hw4
      have hwr := Lib.hid hr
      clear hrt hw1 hw2 hw3 hw4 hr
      go_enter Tryd.func42, Tryd.ntmps42
      go_wp2_with fail
      rw [HW.out]
      refine HE.out.mono ?_
      rintro e w1 ⟨rfl, h1, f1⟩
      have HM := Lib.hid (HB.out w1 h1 f1)
      have c3 : w1.cell? ⟨b, 3, none⟩ = some (.int .i64 s.year) := h1.c 3
      have c4 : w1.cell? ⟨b, 4, none⟩ = some (.int .i64 s.month) := h1.c 4
      have c5 : w1.cell? ⟨b, 5, none⟩ = some (.int .i64 s.day) := h1.c 5
      clear h1 f1
      go_wp2_with fail
      refine (HD.out _).mono ?_
      rintro e w2 ⟨rfl, hb2⟩
      have HM2 := Lib.hid (HM.out.below hb2)
      clear c3 c4 c5 hb2
      go_wp2_with fail
      have c6 : w2.cell? ⟨b, 6, none⟩ = some (.bool s.weekly) := HM2.out.st.c 6
      have c7 : w2.cell? ⟨b, 7, none⟩ = some (.int .i64 s.week) := HM2.out.st.c 7
      cases hwk : s.weekly with
      | false =>
        rw [hwk] at c6 hwr
        simp only [Bool.false_eq_true, false_and, if_false] at hwr
        go_quiet (fail)
        have HM3 := Lib.hid (HM2.out.drew nq)
        generalize w2.drewN nq = w3 at *
        clear c6 c7
        have c8 : w3.cell? ⟨b, 8, none⟩ = some (.int .i64 s.clock) := HM3.out.st.c 8
        have c9 : w3.cell? ⟨b, 9, none⟩ = some (.int .i64 s.zone) := HM3.out.st.c 9
        have hrow := HM3.out.row
        have k0 : w3.cell? ⟨w.heap.size, 0, none⟩ = some (.int .i64 0) := cell_of_row _ _ _ _ _ _ hrow
        have k1 : w3.cell? ⟨w.heap.size, 1, none⟩ = some (.int .i64 0) := cell_of_row _ _ _ _ _ _ hrow
        have f0 : w3.frozen? ⟨w.heap.size, 0, none⟩ = false := frozen_of_row _ _ _ _ _ hrow
        have f1 : w3.frozen? ⟨w.heap.size, 1, none⟩ = false := frozen_of_row _ _ _ _ _ hrow
        have hw1 := HW1.out
        have hw2 := HW2.out
        have hw3 := HW3.out
        have hw4 := HW4.out
        clear hrow
        go_wp2_with fail
        go_still_tail 18, (by kernel_rfl)
        change wpList _ _ _ _ _ w3.drew
        go_wp2
        rw [← hwr.out]
        exact bodyPost_ret (v := .tuple #[.agg #[.int .i64 (n * 86400 + s.clock - 60 * s.zone), .int .i64 s.zone], .int .i64 0, .int .i64 0]) (by simp [results, Tryd.results42, go_sem, k0, k1]) rfl ⟨rfl, ((frd HM3.out.fr 1).setCell _ (Or.inr (Nat.le_refl _)) _).setCell _ (Or.inr (Nat.le_refl _)) _⟩
      | true =>
        rw [hwk] at c6 hwr
        simp only [true_and] at hwr
        by_cases hne : s.week ≠ (n + 3) % 7
        · rw [if_pos hne] at hwr
          have hx : (s.week != (n + 3) % 7) = true := by simpa using hne
          clear hne
          go_quiet ((go_at_call 14; exact Calls.quiet_of_same (HQ.out _ _)))
          have HM3 := Lib.hid (HM2.out.drew nq)
          generalize w2.drewN nq = w3 at *
          have hrow := HM3.out.row
          have k0 : w3.cell? ⟨w.heap.size, 0, none⟩ = some (.int .i64 0) := cell_of_row _ _ _ _ _ _ hrow
          have k1 : w3.cell? ⟨w.heap.size, 1, none⟩ = some (.int .i64 0) := cell_of_row _ _ _ _ _ _ hrow
          have f0 : w3.frozen? ⟨w.heap.size, 0, none⟩ = false := frozen_of_row _ _ _ _ _ hrow
          have f1 : w3.frozen? ⟨w.heap.size, 1, none⟩ = false := frozen_of_row _ _ _ _ _ hrow
          clear hrow c6 c7
          go_wp2
          rw [← hwr.out]
          exact bodyPost_ret (v := .tuple #[.agg #[.int .i64 0, .int .i64 0], .int .i64 0, .int .i64 2]) (by simp [results, Tryd.results42, go_sem, k0, k1]) rfl ⟨rfl, (HM3.out.fr.setCell _ (Or.inr (Nat.le_refl _)) _).setCell _ (Or.inr (Nat.le_refl _)) _⟩
        · rw [if_neg hne] at hwr
          have hx : (s.week != (n + 3) % 7) = false := by simpa using hne
          clear hne
          go_quiet ((go_at_call 14; exact Calls.quiet_of_same (HQ.out _ _)))
          have HM3 := Lib.hid (HM2.out.drew nq)
          generalize w2.drewN nq = w3 at *
          clear c6 c7
          have c8 : w3.cell? ⟨b, 8, none⟩ = some (.int .i64 s.clock) := HM3.out.st.c 8
          have c9 : w3.cell? ⟨b, 9, none⟩ = some (.int .i64 s.zone) := HM3.out.st.c 9
          have hrow := HM3.out.row
          have k0 : w3.cell? ⟨w.heap.size, 0, none⟩ = some (.int .i64 0) := cell_of_row _ _ _ _ _ _ hrow
          have k1 : w3.cell? ⟨w.heap.size, 1, none⟩ = some (.int .i64 0) := cell_of_row _ _ _ _ _ _ hrow
          have f0 : w3.frozen? ⟨w.heap.size, 0, none⟩ = false := frozen_of_row _ _ _ _ _ hrow
          have f1 : w3.frozen? ⟨w.heap.size, 1, none⟩ = false := frozen_of_row _ _ _ _ _ hrow
          have hw1 := HW1.out
          have hw2 := HW2.out
          have hw3 := HW3.out
          have hw4 := HW4.out
          clear hrow
          go_wp2_with fail
          go_still_tail 18, (by kernel_rfl)
          change wpList _ _ _ _ _ w3.drew
          go_wp2
          rw [← hwr.out]
          exact bodyPost_ret (v := .tuple #[.agg #[.int .i64 (n * 86400 + s.clock - 60 * s.zone), .int .i64 s.zone], .int .i64 0, .int .i64 0]) (by simp [results, Tryd.results42, go_sem, k0, k1]) rfl ⟨rfl, ((frd HM3.out.fr 1).setCell _ (Or.inr (Nat.le_refl _)) _).setCell _ (Or.inr (Nat.le_refl _)) _⟩
  · rw [if_pos (by simpa using hst)] at hr
    subst hr
    have hx : (st != 0) = true := by simpa using hst
    clear hst
    go_enter Tryd.func42, Tryd.ntmps42
    go_wp2_with fail
    rw [HW.out]
    refine HE.out.mono ?_
    rintro e w3 ⟨rfl, h1, f1⟩
    have HM3 := Lib.hid (HB.out w3 h1 f1)
    have hrow := HM3.out.row
    have k0 : w3.cell? ⟨w.heap.size, 0, none⟩ = some (.int .i64 0) := cell_of_row _ _ _ _ _ _ hrow
    have k1 : w3.cell? ⟨w.heap.size, 1, none⟩ = some (.int .i64 0) := cell_of_row _ _ _ _ _ _ hrow
    have q0 : w3.frozen? ⟨w.heap.size, 0, none⟩ = false := frozen_of_row _ _ _ _ _ hrow
    have q1 : w3.frozen? ⟨w.heap.size, 1, none⟩ = false := frozen_of_row _ _ _ _ _ hrow
    clear hrow h1 f1
    go_wp2
    exact bodyPost_ret (v := .tuple #[.agg #[.int .i64 0, .int .i64 0], .int .i64 (s.at_ : Int), .int .i64 st]) (by simp [results, Tryd.results42, go_sem, k0, k1]) rfl ⟨rfl, (HM3.out.fr.setCell _ (Or.inr (Nat.le_refl _)) _).setCell _ (Or.inr (Nat.le_refl _)) _⟩
end Go.Proofs.YtkkmjadkagpihaaDoor
