/- Lines: what the law's do tells of the two: Raw, Body. -/
import Derived.Test.YtbhkchdkknainaaU10
namespace Go.Proofs.Ytbhkchdkknainaa
open Go Go.RowKit

/-- n bytes that may be written. -/
def Flips (w : World) (v : Value) (n : Nat) : Prop := ∃ a c, v = .slice a n c ∧ (0 < n → ∃ g o, a = some ⟨g, o, none⟩ ∧ ∀ j, j < n → (∃ b : Nat, b < 256 ∧ w.cell? ⟨g, o + j, none⟩ = some (.int .u8 (b : Int))) ∧ w.frozen? ⟨g, o + j, none⟩ = false)
theorem Flips.kept {w w' : World} {v : Value} {n : Nat} (h : Flips w v n) (hk : ∀ g, v.ownBlock = some g → w'.heap[g]? = w.heap[g]?) : Flips w' v n := by
  obtain ⟨a, c, rfl, h⟩ := h
  refine ⟨a, c, rfl, fun hn => ?_⟩
  obtain ⟨g, o, rfl, hj⟩ := h hn
  refine ⟨g, o, rfl, fun j hjn => ?_⟩
  obtain ⟨⟨b, hb, h1⟩, h2⟩ := hj j hjn
  exact ⟨⟨b, hb, (World.cell?_of_block (a := ⟨g, o + j, none⟩) (hk g rfl)).trans h1⟩, (World.frozen?_of_block (a := ⟨g, o + j, none⟩) (hk g rfl)).trans h2⟩
theorem Flips.set {w : World} {g o n c k : Nat} (h : Flips w (.slice (some ⟨g, o, none⟩) n c) n) (b : Nat) (hb : b < 256) : Flips (w.setCell ⟨g, o + k, none⟩ (.int .u8 (b : Int))) (.slice (some ⟨g, o, none⟩) n c) n := by
  obtain ⟨a, c', he, h⟩ := h
  cases he
  refine ⟨_, _, rfl, fun hn => ?_⟩
  obtain ⟨g', o', he, hj⟩ := h hn
  cases he
  refine ⟨g, o, rfl, fun j hjn => ?_⟩
  obtain ⟨⟨b', hb', h1⟩, h2⟩ := hj j hjn
  refine ⟨?_, by rw [World.frozen?_setCell]; exact h2⟩
  by_cases hjk : j = k
  · subst hjk
    exact ⟨b, hb, World.cell?_setCell_same w _ _ h1⟩
  · refine ⟨b', hb', Eq.trans (World.cell?_setCell_other (h := ?_) ..) h1⟩
    intro e
    injection e with _ e
    omega
theorem flips_row {w : World} {v : Value} {l : List UInt8} {B : Nat} (h : Row B w v l) : Flips w v l.length := by
  obtain ⟨⟨a, cap, rfl, h2, h3, h4⟩, hr⟩ := h
  refine ⟨a, cap, rfl, fun hn => ?_⟩
  cases a with
  | none => have := h3 rfl; omega
  | some ad =>
    obtain ⟨g, o, rfl, hg, hc⟩ := h4 _ rfl
    exact ⟨g, o, rfl, fun j hj => ⟨⟨l[j].toNat, l[j].toNat_lt, hc j hj⟩, ((hr _ _ _ rfl).2.2 j (by omega)).2⟩⟩
theorem xor_one (b : Nat) (hb : b < 256) : ∃ b' : Nat, b' < 256 ∧ bits BinOp.xor IntKind.u8 (b : Int) 1 = (b' : Int) :=
  ⟨b ^^^ 1, Nat.xor_lt_two_pow (n := 8) hb (by decide), u8_xor_nat b 1 hb (by decide)⟩
theorem setFr (w : World) (g o : Nat) (v : Value) : Fr (fun k => k = g) w (w.setCell ⟨g, o, none⟩ v) :=
  ⟨rfl, rfl, rfl, by simp [World.setCell], fun k _ hk => Below.heap_setCell _ _ _ _ (fun e => hk e)⟩

/-- What is read stands while its block does, whatever the sizes. -/
theorem Byt.kept' {w w' : World} {v : Value} {l : List UInt8} (h : Byt w v l) (hk : ∀ g, v.ownBlock = some g → w'.heap[g]? = w.heap[g]?) : Byt w' v l := by
  obtain ⟨a, cap, rfl, h2, h3, h4⟩ := h
  refine ⟨a, cap, rfl, h2, h3, fun ad had => ?_⟩
  obtain ⟨g, off, rfl, hg, hc⟩ := h4 ad had
  subst had
  have hkg := hk g rfl
  refine ⟨g, off, rfl, ?_, fun j hj => (World.cell?_of_block (a := ⟨g, off + j, none⟩) hkg).trans (hc j hj)⟩
  rw [Array.getElem?_eq_getElem hg] at hkg
  exact (Array.getElem?_eq_some_iff.1 hkg).1

set_option maxRecDepth 100000 in
set_option maxHeartbeats 1600000 in
theorem do_body {w0 w : World} {x y : Nat} {l : List UInt8} (H : Pair (fun _ => False) w0 w x y l l) (dd : Int) (hd : dd ≠ 0 ∧ dd ≠ 1 ∧ dd ≠ 2) (bv : Value) (n : Int) :
    Calls Try.prog 22 #[.pointer (some ⟨x, 0, none⟩), .pointer (some ⟨y, 0, none⟩), .agg #[.int .i64 dd, bv, .int .i64 n]] w fun e w' => e = .returned (.bool true) ∧ Pair (fun _ => False) w0 w' x y (bodD l) (bodD l) := by
  have hb : Below w.heap.size w (w.alloc (.cells #[.int .i64 dd, bv, .int .i64 n] 48)) := (Below.refl _ w).alloc (Nat.le_refl _) _
  obtain ⟨wb, hwb⟩ : ∃ wb, w.alloc (.cells #[.int .i64 dd, bv, .int .i64 n] 48) = wb := ⟨_, rfl⟩
  have hbx : wb.heap[w.heap.size]? = some (.cells #[.int .i64 dd, bv, .int .i64 n] 48) := by rw [← hwb]; exact heap_alloc_last w _
  have k0 : wb.cell? ⟨w.heap.size, 0, none⟩ = some (.int .i64 dd) := by rw [cell_of_row _ _ _ _ _ _ hbx]; rfl
  have q0 : (dd == 0) = false := by rw [beq_eq_false_iff_ne]; exact hd.1
  have q1 : (dd == 1) = false := by rw [beq_eq_false_iff_ne]; exact hd.2.1
  have q2 : (dd == 2) = false := by rw [beq_eq_false_iff_ne]; exact hd.2.2
  rw [hwb] at hb
  have HF := Lib.hid (p_body (H.stay hb))
  clear hb hbx H hd
  go_enter Try.func22, Try.ntmps22
  go_wp2_with fail
  refine HF.out.mono ?_
  rintro e w1 ⟨t, rfl, ht, hP, _⟩
  have HR := Lib.hid (p_rbody hP)
  have HT := Lib.hid ht
  clear HF hP ht k0 hwb q0 q1 q2
  go_wp2_with fail
  refine HR.out.mono ?_
  rintro e w2 ⟨t2, rfl, ht2, hP, hE⟩
  obtain ⟨⟨ua, uc, hc⟩, hw⟩ := hP.last
  have hcv1 := run_byt_string (P := Try.prog) w2 31 9 5 Try.underlying31 Try.underlying5 Try.underlying9 (HT.out.1.kept' (fun g hg => hE g (Or.inr hg)))
  have hcv2 := run_byt_string (P := Try.prog) w2 31 9 5 Try.underlying31 Try.underlying5 Try.underlying9 ht2.1
  have HP := Lib.hid hP
  have HW := Lib.hid hw
  clear hP hw HR hE HT ht2
  obtain ⟨z, hz⟩ : ∃ z, bodD l = z := ⟨_, rfl⟩
  rw [hz] at HP HW hc
  have HZ := Lib.hid hz
  clear hz
  generalize bodT l = bt at *
  go_wp2_with fail
  go_quiet ((go_at_call 14; exact Calls.quiet_of_same (HW.out _)))
  have FIN := Lib.hid ((HP.out.stay (drewN_below _ nq)).drop (F := fun _ => False) (fun _ h => h.elim))
  clear HP HW hc
  go_wp2
  go_ret
  exact ⟨rfl, by rw [HZ.out]; exact FIN.out⟩
end Go.Proofs.Ytbhkchdkknainaa
