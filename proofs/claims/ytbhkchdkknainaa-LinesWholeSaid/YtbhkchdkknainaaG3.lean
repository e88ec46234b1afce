import Derived.Test.YtbhkchdkknainaaU4
import Derived.Test.YtbhkchdkknainaaG1
namespace Go.Proofs.Ytbhkchdkknainaa
open Go.RowKit

theorem cat_list (a b : List UInt8) : ({ data := a.toArray } ++ { data := b.toArray } : ByteArray) = ⟨(a ++ b).toArray⟩ := by
  apply ByteArray.ext
  simp
theorem cat_line (l : List UInt8) (k n : Nat) (h : lineLen (l.drop k) = some n) : (({ data := (l.take k).toArray } ++ { data := ((l.drop k).take (n - 2)).toArray } : ByteArray) ++ { data := #[13, 10] }) = ⟨(l.take (k + n)).toArray⟩ := by
  have hle := lineLen_le _ _ h
  obtain ⟨he, _⟩ := lineLen_some _ _ h
  obtain ⟨a1, a2⟩ := endsL_at he
  generalize hr : l.drop k = r at h hle he a1 a2
  have h2 : r.take n = r.take (n - 2) ++ [13, 10] := by
    have e : r.take n = r.take (n - 2) ++ (r.drop (n - 2)).take 2 := by
      conv => lhs; rw [show n = (n - 2) + 2 by omega, List.take_add]
    rw [e]
    congr 1
    rw [drop_head r (n - 2) (by omega), drop_head r (n - 2 + 1) (by omega)]
    rw [getD_at r _ (by omega)] at a1 a2
    rw [a1, a2]
    rfl
  have h3 : l.take (k + n) = l.take k ++ r.take (n - 2) ++ [13, 10] := by
    rw [List.take_add, hr, h2, List.append_assoc]
  rw [h3, cat_list]
  exact cat_list _ _

set_option maxHeartbeats 1600000 in
set_option maxRecDepth 100000 in
theorem walk_whole (v : Value) (l : List UInt8) (w : World) (hv : Byt w v l) (hM : Ml w) : Calls Try.prog 5 #[v] w fun e w' => e = .returned (.bool true) ∧ Below w.heap.size w w' := by
  obtain ⟨a, cap, rfl, hcap⟩ := hv.shape
  have hw0 : 0 < w.heap.size := by obtain ⟨m, hm⟩ := hM; have := World.block_lt_of_cell? w _ hm; omega
  by_cases hbig : 4000 < l.length
  · go_enter Try.func5, Try.ntmps5
    go_wp2_with fail
    refine (live_any w hM).mono ?_
    rintro e w1 ⟨rfl, b1⟩
    go_wp2
    go_ret
    exact ⟨rfl, b1⟩
  · go_enter Try.func5, Try.ntmps5
    go_wp2_with fail
    refine (new_any w).mono ?_
    rintro e w1 ⟨rfl, L1, b1⟩
    go_wp2_with fail
    refine (feed_any w1 L1 (hv.below b1) b1.size (by decide) (by simp only [List.length_nil]; omega)).mono ?_
    rintro e w2 ⟨rfl, v2, L2, F2, O2⟩
    have b2 := L1.to_below F2 b1 b1.size
    rw [List.nil_append] at L2
    clear L1 F2 O2 b1
    go_wp2
    go_loopw [4, 5, 6, 7, 8] (fun allv iv _b _s _e wr => ∃ (k i : Nat) (v : Value), k ≤ l.length ∧ i ≤ k ∧ allv = .string ⟨(l.take k).toArray⟩ ∧ iv = .int .i64 (i : Int) ∧ LB w.heap.size wr w.heap.size v (l.drop k) ∧ Below w.heap.size w wr) (fun _ iv _ _ _ _ => l.length + 1 - intOf iv)
    case atStart => exact ⟨0, 0, v2, Nat.zero_le _, Nat.le_refl _, rfl, rfl, L2, b2⟩
    case round =>
      obtain ⟨k, i, v3, hk, hik, hall, hu, L3, b3⟩ := hrel
      subst hall
      subst hu
      have hlen : (l.drop k).length = l.length - k := List.length_drop
      have HLEN := Lib.hid hlen
      have M3 := hM.below b3 (Nat.le_refl _)
      have cw := wait_any _ L3
      rw [hlen] at cw
      cases hln : lineLen (l.drop k) with
      | none =>
        have cl := line_short _ L3 (by omega) M3 hln
        clear hln hlen
        go_wp2_with fail
        refine cw.mono ?_
        rintro e w4 ⟨rfl, rfl⟩
        go_wp2_with fail
        refine cl.mono ?_
        rintro e w5 ⟨rfl, b5'⟩
        have L5 := L3.stay b5'
        have b5 := b3.trans (b5'.mono b3.size)
        go_wp2_with fail
        have cw5 := wait_any _ L5
        rw [HLEN.out] at cw5
        refine cw5.mono ?_
        rintro e w6 ⟨rfl, rfl⟩
        have cr := raw_any w6 (l.length - k) L5 (by rw [HLEN.out]; omega) (by rw [HLEN.out]; exact Nat.le_refl _)
        rw [List.take_of_length_le (by rw [HLEN.out]; exact Nat.le_refl _)] at cr
        clear cw cw5 cl
        go_wp2_with fail
        refine cr.mono ?_
        rintro e w7 ⟨t, v7, rfl, R7, L7, O7, F7⟩
        have b7 := L5.to_below1 F7 b5 b5.size
        have M7 := hM.below b7 (Nat.le_refl _)
        have C7 := conv_later R7
        have P7 := fun wx (hb : Below w7.heap.size w7 wx) => run_byt_string (P := Try.prog) wx 31 9 5 Try.underlying31 Try.underlying5 Try.underlying9 (hv.below (b7.trans (hb.mono b7.size)))
        have hcat : ({ data := (l.take k).toArray } ++ { data := (l.drop k).toArray } : ByteArray) = ⟨l.toArray⟩ := by rw [cat_list, List.take_append_drop]
        clear cr F7 O7 R7 L7 L5 L3 M3 b3 b5 b5'
        go_wp2_with fail
        refine (live_any w7 M7).mono ?_
        rintro e w8 ⟨rfl, b8⟩
        have C8 := C7 _ b8
        have P8 := P7 _ b8
        have FIN := Lib.hid (b7.trans (b8.mono b7.size))
        clear C7 P7 b8 b7 M7
        go_wp2_with fail
        go_ret
        exact ⟨rfl, FIN.out⟩
      | some n =>
        have hle := lineLen_le _ _ hln
        rw [hlen] at hle
        have cl := line_some _ n L3 (by omega) M3 hln
        have hcl := cat_line l k n hln
        clear hln hlen
        by_cases hb : 1024 < n - 2
        · have hV : lineV (l.drop k) n = .tuple #[.string ⟨#[]⟩, .int .i64 6] := by unfold lineV; rw [if_pos hb]
          rw [hV] at cl
          clear hV
          have HCL := Lib.hid hcl
          clear hcl
          go_wp2_with fail
          refine cw.mono ?_
          rintro e w4 ⟨rfl, rfl⟩
          go_wp2_with fail
          refine cl.mono ?_
          rintro e w5 ⟨rfl, v5, L5, O5, F5⟩
          have b5 := L3.to_below1 F5 b3 b3.size
          clear cw cl
          go_wp2_with fail
          have cw5 := wait_any _ L5
          rw [List.length_drop, List.length_drop] at cw5
          refine cw5.mono ?_
          rintro e w6 ⟨rfl, rfl⟩
          have hmin : min k l.length = k := by omega
          have hsz : (⟨(l.take k).toArray⟩ : ByteArray).size = k := by rw [Lib.size_eq]; show (l.take k).length = k; rw [List.length_take]; omega
          have hcut := (hv.below b5).cut k (k + (n - 2)) cap (by omega) (by omega) (by omega) (Nat.le_refl _)
          rw [show k + (n - 2) - k = n - 2 by omega] at hcut
          have hcv := run_byt_string (P := Try.prog) w6 31 9 5 Try.underlying31 Try.underlying5 Try.underlying9 hcut
          rw [show cutA a k cap = Option.map (fun x => x.add k) a by unfold cutA; rw [if_neg (by omega)], show n - 2 = l.length - (l.length - k - n) - 2 - k by omega] at hcv
          rw [show l.length - (l.length - k - n) - 2 - k = n - 2 by omega] at hcv
          have hcv2 : (convert 31 9 (.slice (Option.map (fun x => x.add k) a) (l.length - (l.length - k - n) - 2 - k) (cap - k))).run Try.prog w6 = .ok (.string ⟨((l.drop k).take (n - 2)).toArray⟩) w6 := by
            rw [show l.length - (l.length - k - n) - 2 - k = n - 2 by omega]; exact hcv
          have hsz2 : (⟨((l.drop k).take (n - 2)).toArray⟩ : ByteArray).size = n - 2 := by rw [Lib.size_eq]; show ((l.drop k).take (n - 2)).length = n - 2; rw [List.length_take, List.length_drop]; omega
          have hbi : ¬ ((n - 2 : Nat) : Int) ≤ 1024 := by omega
          have hcl := HCL.out
          rw [List.drop_drop] at L5
          have L5H := Lib.hid L5
          have B5 := Lib.hid b5
          clear L3 F5 O5 b3 M3 cw5 hcv hcut L5 b5
          go_wp2_with fail
          go_roundw
          case rel => exact ⟨k + n, i + 1, v5, by omega, by omega, rfl, by rw [Int.natCast_add]; rfl, L5H.out, B5.out⟩
          case measure => simp only [intOf]; omega
        · have hV : lineV (l.drop k) n = .tuple #[.string ⟨((l.drop k).take (n - 2)).toArray⟩, .int .i64 0] := by unfold lineV; rw [if_neg hb]
          rw [hV] at cl
          clear hV
          go_wp2_with fail
          refine cw.mono ?_
          rintro e w4 ⟨rfl, rfl⟩
          go_wp2_with fail
          refine cl.mono ?_
          rintro e w5 ⟨rfl, v5, L5, O5, F5⟩
          have b5 := L3.to_below1 F5 b3 b3.size
          rw [List.drop_drop] at L5
          have L5H := Lib.hid L5
          have B5 := Lib.hid b5
          clear cw cl L5 L3 F5 O5 b3 b5 M3
          go_wp2_with fail
          go_roundw
          case rel => exact ⟨k + n, i + 1, v5, by omega, by omega, rfl, by rw [Int.natCast_add]; rfl, L5H.out, B5.out⟩
          case measure => simp only [intOf]; omega
end Go.Proofs.Ytbhkchdkknainaa
