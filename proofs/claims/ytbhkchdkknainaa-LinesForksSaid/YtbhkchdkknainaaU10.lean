/- Lines: what the law's do tells of the two: Line, Raw, Body. -/
import Derived.Test.YtbhkchdkknainaaU9
import Derived.Test.YtbhkchdkknainaaRG
import Derived.Laws.Rows
import Derived.Deep.QuietTactic
import Derived.BigQuiet
namespace Go.Proofs.Ytbhkchdkknainaa
open Go Go.RowKit

theorem drewN_below (w : World) (n : Nat) : Below w.heap.size w (w.drewN n) := ⟨rfl, rfl, rfl, Nat.le_refl _, fun _ _ => rfl⟩
theorem lineR_tuple (l : List UInt8) : ∃ (s : List UInt8) (e : Int), lineR l = .tuple #[.string ⟨s.toArray⟩, .int .i64 e] := by
  unfold lineR
  split
  · exact ⟨[], 3, rfl⟩
  · exact lineV_tuple l _
/-- The last test of do. -/
theorem Pair.last {E : Nat → Prop} {w0 w : World} {x y : Nat} {l : List UInt8} (h : Pair E w0 w x y l l) : (∃ ua uc, w.cell? ⟨y, 0, none⟩ = some (.slice ua l.length uc)) ∧ ∀ n, Calls Try.prog 14 #[.pointer (some ⟨x, 0, none⟩)] (w.drewN n) fun e w' => e = .returned (.int .i64 (l.length : Int)) ∧ w' = w.drewN n := by
  refine ⟨?_, fun n => p_wait (h.stay (drewN_below w n))⟩
  obtain ⟨v, u, h1, h2, _⟩ := h.two
  obtain ⟨ua, uc, rfl, _⟩ := h2.byt.shape
  exact ⟨ua, uc, h2.cell⟩

set_option maxRecDepth 100000 in
set_option maxHeartbeats 1600000 in
theorem do_line {w0 w : World} {x y : Nat} {l : List UInt8} (H : Pair (fun _ => False) w0 w x y l l) (bv : Value) (n : Int) :
    Calls Try.prog 22 #[.pointer (some ⟨x, 0, none⟩), .pointer (some ⟨y, 0, none⟩), .agg #[.int .i64 1, bv, .int .i64 n]] w fun e w' => e = .returned (.bool true) ∧ Pair (fun _ => False) w0 w' x y (lineD l) (lineD l) := by
  have hb : Below w.heap.size w (w.alloc (.cells #[.int .i64 1, bv, .int .i64 n] 48)) := (Below.refl _ w).alloc (Nat.le_refl _) _
  obtain ⟨wb, hwb⟩ : ∃ wb, w.alloc (.cells #[.int .i64 1, bv, .int .i64 n] 48) = wb := ⟨_, rfl⟩
  have hbx : wb.heap[w.heap.size]? = some (.cells #[.int .i64 1, bv, .int .i64 n] 48) := by rw [← hwb]; exact heap_alloc_last w _
  have k0 : wb.cell? ⟨w.heap.size, 0, none⟩ = some (.int .i64 1) := by rw [cell_of_row _ _ _ _ _ _ hbx]; rfl
  rw [hwb] at hb
  obtain ⟨s, er, hs⟩ := lineR_tuple l
  have hf := p_line (H.stay hb)
  rw [hs] at hf
  have HF := Lib.hid hf
  have HS := Lib.hid hs
  clear hf hs hb hbx H
  go_enter Try.func22, Try.ntmps22
  go_wp2_with fail
  refine HF.out.mono ?_
  rintro e w1 ⟨rfl, hP⟩
  have hr := p_rline hP.1
  rw [HS.out] at hr
  have HR := Lib.hid hr
  clear HF hP hr k0 hwb
  go_wp2_with fail
  refine HR.out.mono ?_
  rintro e w2 ⟨rfl, hP⟩
  obtain ⟨⟨ua, uc, hc⟩, hw⟩ := hP.1.last
  have HP := Lib.hid hP.1
  have HW := Lib.hid hw
  clear hP hw HR HS
  obtain ⟨z, hz⟩ : ∃ z, lineD l = z := ⟨_, rfl⟩
  rw [hz] at HP HW hc
  have HZ := Lib.hid hz
  clear hz
  go_wp2_with fail
  go_quiet ((go_at_call 14; exact Calls.quiet_of_same (HW.out _)))
  have FIN := Lib.hid (HP.out.stay (drewN_below _ nq))
  clear HP HW hc
  go_wp2
  go_ret
  exact ⟨rfl, by rw [HZ.out]; exact FIN.out⟩
end Go.Proofs.Ytbhkchdkknainaa
