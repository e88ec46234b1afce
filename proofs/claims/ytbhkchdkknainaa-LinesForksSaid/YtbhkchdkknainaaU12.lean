/- Lines: what the law's do tells of the two: Raw. -/
import Derived.Test.YtbhkchdkknainaaU11
namespace Go.Proofs.Ytbhkchdkknainaa
open Go Go.RowKit

set_option maxRecDepth 100000 in
set_option maxHeartbeats 1600000 in
theorem do_raw {w0 w : World} {x y : Nat} {l : List UInt8} (H : Pair (fun _ => False) w0 w x y l l) (bv : Value) (n : Int) :
    Calls Try.prog 22 #[.pointer (some ⟨x, 0, none⟩), .pointer (some ⟨y, 0, none⟩), .agg #[.int .i64 2, bv, .int .i64 n]] w fun e w' => e = .returned (.bool true) ∧ Pair (fun _ => False) w0 w' x y (rawD l n) (rawD l n) := by
  have hb : Below w.heap.size w (w.alloc (.cells #[.int .i64 2, bv, .int .i64 n] 48)) := (Below.refl _ w).alloc (Nat.le_refl _) _
  obtain ⟨wb, hwb⟩ : ∃ wb, w.alloc (.cells #[.int .i64 2, bv, .int .i64 n] 48) = wb := ⟨_, rfl⟩
  have hbx : wb.heap[w.heap.size]? = some (.cells #[.int .i64 2, bv, .int .i64 n] 48) := by rw [← hwb]; exact heap_alloc_last w _
  have hsb : wb.heap.size = w.heap.size + 1 := by rw [← hwb]; simp
  have k0 : wb.cell? ⟨w.heap.size, 0, none⟩ = some (.int .i64 2) := by rw [cell_of_row _ _ _ _ _ _ hbx]; rfl
  have k2 : wb.cell? ⟨w.heap.size, 2, none⟩ = some (.int .i64 n) := by rw [cell_of_row _ _ _ _ _ _ hbx]; rfl
  rw [hwb] at hb
  have Hb := H.apart hb (fun k => k = w.heap.size) (fun k hk => Or.inr ⟨by omega, by omega⟩)
  have HF := Lib.hid (p_raw Hb n)
  have BX := Lib.hid hbx
  have HLEN := Lib.hid H.sx
  clear hb hbx H Hb hsb
  go_enter Try.func22, Try.ntmps22
  go_wp2_with fail
  refine HF.out.mono ?_
  rintro e w1 ⟨t, rfl, ht, hP, hE⟩
  have k2 : w1.cell? ⟨w.heap.size, 2, none⟩ = some (.int .i64 n) := by rw [cell_of_row _ _ _ _ _ _ ((hE _ rfl).trans BX.out)]; rfl
  have HR := Lib.hid (p_rraw hP n)
  have HT := Lib.hid ht
  clear HF hP ht k0 hwb hE BX
  go_wp2_with fail
  refine HR.out.mono ?_
  rintro e w2 ⟨t2, rfl, ht2, hP, hE⟩
  have hcv1 := run_byt_string (P := Try.prog) w2 31 9 5 Try.underlying31 Try.underlying5 Try.underlying9 (HT.out.1.kept' (fun g hg => hE g (Or.inr hg)))
  have hcv2 := run_byt_string (P := Try.prog) w2 31 9 5 Try.underlying31 Try.underlying5 Try.underlying9 ht2.1
  have hfl := (flips_row HT.out).kept (w' := w2) (fun g hg => hE g (Or.inr hg))
  obtain ⟨ta, tc, rfl, htc⟩ := HT.out.1.shape
  have hP' := hP.drop (F := fun k => (Value.slice ta (rawT l n).length tc).ownBlock = some k) (fun k hk => Or.inr hk)
  obtain ⟨z, hz⟩ : ∃ z, rawD l n = z := ⟨_, rfl⟩
  rw [hz] at hP'
  have HZ := Lib.hid hz
  have HP := Lib.hid hP'
  have FL := Lib.hid hfl
  have htl : (rawT l n).length ≤ 16384 := by
    have hlen := HLEN.out
    unfold rawT
    split
    · simp
    · split
      · simp
      · rw [List.length_take]; omega
  clear hP hP' hfl HR hE HT ht2 hz k2
  generalize (rawT l n) = bt at *
  go_wp2_with fail
  go_loopw [18] (fun iv wr => ∃ k : Nat, iv = .int .i64 (k : Int) ∧ k ≤ bt.length ∧ Hid (Pair (fun k => (Value.slice ta bt.length tc).ownBlock = some k) w0 wr x y z z ∧ Flips wr (.slice ta bt.length tc) bt.length)) (fun iv _ => bt.length - intOf iv)
  case atStart => exact ⟨0, rfl, Nat.zero_le _, HP.out, FL.out⟩
  case round =>
    clear HP FL hcv1 hcv2
    obtain ⟨k, rfl, hk, hH⟩ := hrel
    by_cases hgo : k < bt.length
    · have hgo' : (k : Int) < (bt.length : Int) := by omega
      obtain ⟨a', c', he, hj⟩ := hH.out.2
      cases he
      obtain ⟨g, o, he, hj2⟩ := hj (by omega)
      clear hj
      subst he
      obtain ⟨⟨xx, hx, hc⟩, hf⟩ := hj2 k (by omega)
      obtain ⟨yy, hy, hxy⟩ := xor_one xx hx
      have hfr := setFr wr g (o + k) (.int .u8 (yy : Int))
      have hN := Lib.hid (And.intro (hH.out.1.fr hfr (fun j e => by subst e; rfl)) (hH.out.2.set (k := k) yy hy))
      clear hfr hj2 hH
      go_wp2
      go_roundw
      case rel => exact ⟨k + 1, by go_num, by omega, hN⟩
      case measure => simp [intOf]; omega
    · have hgo' : ¬ (k : Int) < (bt.length : Int) := by omega
      obtain ⟨⟨ua, uc, hc⟩, hw⟩ := hH.out.1.last
      have HW := Lib.hid hw
      have HP := Lib.hid hH.out.1
      clear hw hH
      go_wp2_with fail
      go_quiet ((go_at_call 14; exact Calls.quiet_of_same (HW.out _)))
      have FIN := Lib.hid ((HP.out.stay (drewN_below _ nq)).drop (F := fun _ => False) (fun _ h => h.elim))
      clear HP HW hc
      go_wp2
      go_ret
      exact ⟨rfl, by rw [HZ.out]; exact FIN.out⟩
end Go.Proofs.Ytbhkchdkknainaa
