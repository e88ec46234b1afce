/- Lines: what the law's do tells of the two: Feed; every deed. -/
import Derived.Test.YtbhkchdkknainaaU12
namespace Go.Proofs.Ytbhkchdkknainaa
open Go Go.RowKit

set_option maxRecDepth 100000 in
set_option maxHeartbeats 3200000 in
theorem do_feed {w0 w : World} {x y : Nat} {l q : List UInt8} (H : Pair (fun _ => False) w0 w x y l l) (bv : Value) (hv : Rd w0 bv q) (hq : q.length ≤ 140737488351232) (n : Int) :
    Calls Try.prog 22 #[.pointer (some ⟨x, 0, none⟩), .pointer (some ⟨y, 0, none⟩), .agg #[.int .i64 0, bv, .int .i64 n]] w fun e w' => e = .returned (.bool true) ∧ Pair (fun _ => False) w0 w' x y (feedL l q) (feedL l q) := by
  have hb : Below w.heap.size w (w.alloc (.cells #[.int .i64 0, bv, .int .i64 n] 48)) := (Below.refl _ w).alloc (Nat.le_refl _) _
  obtain ⟨wb, hwb⟩ : ∃ wb, w.alloc (.cells #[.int .i64 0, bv, .int .i64 n] 48) = wb := ⟨_, rfl⟩
  have hbx : wb.heap[w.heap.size]? = some (.cells #[.int .i64 0, bv, .int .i64 n] 48) := by rw [← hwb]; exact heap_alloc_last w _
  have hsb : wb.heap.size = w.heap.size + 1 := by rw [← hwb]; simp
  have k0 : wb.cell? ⟨w.heap.size, 0, none⟩ = some (.int .i64 0) := by rw [cell_of_row _ _ _ _ _ _ hbx]; rfl
  rw [hwb] at hb
  have Hb := H.stay hb
  have hvb := hv.below Hb.bel
  obtain ⟨ov, w5, hrun, hrow, hb5⟩ := copy_rd wb hvb (by omega)
  obtain ⟨ba, bc, rfl, hbc⟩ := hv.shape
  have hb1 := made_below wb #[] (0, 0)
  have k2 : (wb.alloc (.cells #[] 5)).cell? ⟨w.heap.size, 1, none⟩ = some (.slice ba q.length bc) := by rw [cell_of_row _ _ _ _ _ _ ((hb1.block _ (by omega)).trans hbx)]; rfl
  obtain ⟨oa, oc, rfl, hoc⟩ := hrow.1.shape
  have hog := hrow.own
  have holt := hrow.1.lt
  have hz5 := hb5.size
  have H5 : Pair (fun k => k = w.heap.size ∨ (Value.slice oa q.length oc).ownBlock = some k) w0 w5 x y l l := H.apart (hb.trans (hb5.mono (by omega))) _ (fun k hk => Or.inr (by
    rcases hk with rfl | hk
    · exact ⟨Nat.le_refl _, by omega⟩
    · exact ⟨by have := hog k hk; omega, holt k hk⟩))
  have hbx5 : w5.heap[w.heap.size]? = some (.cells #[.int .i64 0, .slice ba q.length bc, .int .i64 n] 48) := (hb5.block _ (by omega)).trans hbx
  have H6 := H5.stay (drewN_below w5 1)
  have hc1 := p_feed H6 (Or.inl (hrow.1.below (drewN_below w5 1)))
  have hfl := (flips_row hrow).kept (w' := w5.drewN 1) (fun g hg => rfl)
  have hl : ∀ W : World, W.heap[w.heap.size]? = some (.cells #[.int .i64 0, .slice ba q.length bc, .int .i64 n] 48) → (Instr.loadAt 31 (.pointer (some ⟨w.heap.size, 1, none⟩))).run Try.prog W = .ok (.slice ba q.length bc) W := fun W hW => by
    have hc : W.cell? ⟨w.heap.size, 1, none⟩ = some (.slice ba q.length bc) := by rw [cell_of_row W _ _ _ _ _ hW]; rfl
    go_simp
  have RUN := Lib.hid hrun
  have HC := Lib.hid hc1
  have FL := Lib.hid hfl
  have HL := Lib.hid hl
  have BX := Lib.hid (show w5.drew.heap[w.heap.size]? = some (.cells #[.int .i64 0, .slice ba q.length bc, .int .i64 n] 48) from hbx5)
  have HV := Lib.hid hv
  have HQ := Lib.hid hq
  have HOG := Lib.hid hog
  clear hb hbx H Hb hvb hrun hrow hb5 hog hb1 holt H5 hbx5 H6 hc1 hfl hl hv hq hsb hz5
  go_enter Try.func22, Try.ntmps22
  go_wp2_with (at_builtin; refine wpList_append_run _ rfl _ _ 31 31 rfl _ _ rfl rfl _ w5 RUN.out ?_)
  clear k0 hwb k2 RUN
  refine wp_region_held_drew (S := fun W : World => W.heap[w.heap.size]? = some (.cells #[.int .i64 0, .slice ba q.length bc, .int .i64 n] 48)) (by kernel_rfl) BX.out (fun _ => ?_)
  refine anyH_take 0 (some 51) (.pointer (some ⟨x, 0, none⟩)) rfl rfl (by kernel_rfl) (by kernel_rfl) (by kernel_rfl) (fun _ _ _ h => h) rfl (fun _ _ => rfl) BX.out ?_
  simp only [Act.put, List.setIfInBounds_toArray, List.set_cons_zero, List.set_cons_succ]
  refine anyH_take 1 (some 52) (.slice oa q.length oc) rfl rfl (by kernel_rfl) (by kernel_rfl) (by kernel_rfl) (fun _ _ _ h => h) rfl (fun _ _ => rfl) BX.out ?_
  simp only [Act.put, List.setIfInBounds_toArray, List.set_cons_zero, List.set_cons_succ]
  refine anyH_take 3 (some 54) (.pointer (some ⟨y, 0, none⟩)) rfl rfl (by kernel_rfl) (by kernel_rfl) (by kernel_rfl) (fun _ _ _ h => h) rfl (fun _ _ => rfl) BX.out ?_
  simp only [Act.put, List.setIfInBounds_toArray, List.set_cons_zero, List.set_cons_succ]
  refine anyH_take 4 (some 55) (.pointer (some ⟨w.heap.size, 1, none⟩)) rfl rfl (by kernel_rfl) (by kernel_rfl) (by kernel_rfl) (fun _ _ _ h => h) rfl (fun _ _ => by kernel_rfl) BX.out ?_
  simp only [Act.put, List.setIfInBounds_toArray, List.set_cons_zero, List.set_cons_succ]
  refine anyH_take 5 (some 56) (.slice ba q.length bc) rfl rfl (by kernel_rfl) (by kernel_rfl) (by kernel_rfl) (fun _ _ _ h => h) rfl (fun W hW => ex_load 31 (.tmp 55) rfl _ _ rfl (HL.out W hW)) BX.out ?_
  simp only [Act.put, List.setIfInBounds_toArray, List.set_cons_zero, List.set_cons_succ]
  refine anyH_one 2 (by kernel_rfl) rfl rfl (fun K hK => ?_)
  refine wp_calls (some 53) rfl 12 _ (ex_call2 12 (.tmp 51) (.tmp 52) _ rfl _ _ rfl rfl (fun _ _ => rfl)) (.int .i64 (feedE l q)) _ HC.out (fun W1 hR1 => hK _ _ ((hR1.2 _ (Or.inl rfl)).trans BX.out) ?_)
  clear hK K
  simp only [Act.put, List.setIfInBounds_toArray, List.set_cons_zero, List.set_cons_succ]
  have B1 := Lib.hid ((hR1.2 _ (Or.inl rfl)).trans BX.out)
  have FL1 := Lib.hid (FL.out.kept (w' := W1) (fun g hg => hR1.2 g (Or.inr hg)))
  have HC2 := Lib.hid (p_rfeed hR1.1 (HV.out.below hR1.1.bel) HQ.out)
  clear hR1
  refine anyH_one 6 (by kernel_rfl) rfl rfl (fun K hK => ?_)
  refine wp_calls (some 57) rfl 30 _ (ex_call2 30 (.tmp 54) (.tmp 56) _ rfl _ _ rfl rfl (fun _ _ => rfl)) (.int .i64 (feedE l q)) _ HC2.out (fun w2 hR2 => hK _ _ ((hR2.2 _ (Or.inl rfl)).trans B1.out) ?_)
  clear hK K
  simp only [Act.put, List.setIfInBounds_toArray, List.set_cons_zero, List.set_cons_succ]
  have B2 := Lib.hid ((hR2.2 _ (Or.inl rfl)).trans B1.out)
  have FL2 := Lib.hid (FL1.out.kept (w' := w2) (fun g hg => hR2.2 g (Or.inr hg)))
  obtain ⟨z, hz⟩ : ∃ z, feedL l q = z := ⟨_, rfl⟩
  have hE2 := hR2.1
  rw [hz] at hE2
  have HE2 := Lib.hid (hE2.drop (F := fun k => (Value.slice oa q.length oc).ownBlock = some k) (fun k hk => Or.inr hk))
  have HZ := Lib.hid hz
  clear hR2 hz hE2
  refine anyH_take 7 (some 58) (.bool true) rfl rfl (by kernel_rfl) (by kernel_rfl) (by kernel_rfl) (fun _ _ _ h => h) rfl (fun W _ => ex_eqlI 32 32 (.tmp 53) (.tmp 57) .i64 _ rfl rfl rfl) B2.out ?_
  simp only [Act.put, List.setIfInBounds_toArray, List.set_cons_zero, List.set_cons_succ]
  refine anyH_take 8 (some 7) (.bool true) rfl rfl (by kernel_rfl) (by kernel_rfl) (by kernel_rfl) (fun _ _ _ h => h) rfl (fun _ _ => rfl) B2.out ?_
  simp only [Act.put, List.setIfInBounds_toArray, List.set_cons_zero, List.set_cons_succ]
  refine wpAnyH_done (by kernel_rfl) ?_ _
  clear HC HC2 HL BX B1 B2 HV FL FL1
  have hql := HQ.out
  go_wp2_with fail
  go_loopw [9] (fun iv wr => ∃ k : Nat, iv = .int .i64 (k : Int) ∧ k ≤ q.length ∧ Hid (Pair (fun k => (Value.slice oa q.length oc).ownBlock = some k) w0 wr x y z z ∧ Flips wr (.slice oa q.length oc) q.length)) (fun iv _ => q.length - intOf iv)
  case atStart => exact ⟨0, rfl, Nat.zero_le _, HE2.out, FL2.out⟩
  case round =>
    clear HE2 FL2
    obtain ⟨k, rfl, hk, hH⟩ := hrel
    by_cases hgo : k < q.length
    · have hgo' : (k : Int) < (q.length : Int) := by omega
      obtain ⟨a', c', he, hj⟩ := hH.out.2
      cases he
      obtain ⟨g, o, he, hj2⟩ := hj (by omega)
      clear hj
      subst he
      obtain ⟨⟨xx, hx, hc⟩, hf⟩ := hj2 k (by omega)
      obtain ⟨yy, hy, hxy⟩ := xor_one xx hx
      have hfr := setFr wr g (o + k) (.int .u8 (yy : Int))
      have hN := Lib.hid (And.intro (hH.out.1.fr hfr (fun j e => by subst e; rfl)) (hH.out.2.set (k := k) yy hy))
      clear hfr hj2 hH
      go_wp2
      go_roundw
      case rel => exact ⟨k + 1, by go_num, by omega, hN⟩
      case measure => simp [intOf]; omega
    · have hgo' : ¬ (k : Int) < (q.length : Int) := by omega
      obtain ⟨⟨ua, uc, hc⟩, hw⟩ := hH.out.1.last
      have HW := Lib.hid hw
      have HP := Lib.hid hH.out.1
      clear hw hH
      go_wp2_with fail
      go_quiet ((go_at_call 14; exact Calls.quiet_of_same (HW.out _)))
      have FIN := Lib.hid ((HP.out.stay (drewN_below _ nq)).drop (F := fun _ => False) (fun _ h => h.elim))
      clear HP HW hc
      go_wp2
      go_ret
      exact ⟨rfl, by rw [HZ.out]; exact FIN.out⟩

/-- What a deed makes of what waits. -/
def didL (l : List UInt8) (d : Int) (q : List UInt8) (n : Int) : List UInt8 := if d = 0 then feedL l q else if d = 1 then lineD l else if d = 2 then rawD l n else bodD l
theorem do_any {w0 w : World} {x y : Nat} {l q : List UInt8} (H : Pair (fun _ => False) w0 w x y l l) (d : Int) (bv : Value) (hv : Rd w0 bv q) (hq : q.length ≤ 140737488351232) (n : Int) :
    Calls Try.prog 22 #[.pointer (some ⟨x, 0, none⟩), .pointer (some ⟨y, 0, none⟩), .agg #[.int .i64 d, bv, .int .i64 n]] w fun e w' => e = .returned (.bool true) ∧ Pair (fun _ => False) w0 w' x y (didL l d q n) (didL l d q n) := by
  unfold didL
  by_cases h0 : d = 0
  · rw [if_pos h0]; subst h0; exact do_feed H bv hv hq n
  · rw [if_neg h0]
    by_cases h1 : d = 1
    · rw [if_pos h1]; subst h1; exact do_line H bv n
    · rw [if_neg h1]
      by_cases h2 : d = 2
      · rw [if_pos h2]; subst h2; exact do_raw H bv n
      · rw [if_neg h2]; exact do_body H d ⟨h0, h1, h2⟩ bv n
end Go.Proofs.Ytbhkchdkknainaa
