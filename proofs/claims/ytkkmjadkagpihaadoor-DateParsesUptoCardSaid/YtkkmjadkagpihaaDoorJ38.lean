/- Date: the document's fits, letters and other signs. -/
import Derived.Test.YtkkmjadkagpihaaDoorJ37
namespace Go.Proofs.YtkkmjadkagpihaaDoor
open Go Go.RowKit

theorem conv_cell (w : World) (n : Nat) (c : UInt8) (k : Int) (hk : k = (c.toNat : Int)) (h : w.cell? ⟨n, 0, none⟩ = some (.int .u8 k)) :
    (convert 81 9 (.slice (some ⟨n, 0, none⟩) 1 1)).run Tryd.prog w = .ok (.string ⟨[c].toArray⟩) w := by
  subst hk
  refine run_convert_bytes_back (P := Tryd.prog) _ 81 9 5 ⟨n, 0, none⟩ 1 [c] Tryd.underlying81 Tryd.underlying5 Tryd.underlying9 ?_
  intro j hj
  have : j = 0 := by simpa using hj
  subst this
  exact h
theorem cell_row1 (w : World) (k : Int) : (w.alloc (.cells #[.int .u8 k] 5)).cell? ⟨w.heap.size, 0, none⟩ = some (.int .u8 k) := by
  have := World.cell?_alloc_mark w #[.int .u8 k] 5 (0, 0) 0
  rw [this]; rfl
theorem lt_row1 (w : World) (o : Obj) : w.heap.size < (w.alloc o).heap.size := by rw [World.size_alloc]; exact Nat.lt_succ_self _

set_option maxHeartbeats 1000000 in
theorem fits_71 (w : World) (v : Value) (L : List ByteArray) (hv : Ltr w v L) (i : Nat) (hi : i < L.length) (hz : L[i].size ≤ 4398046511104) (R : Bool) (hR : decide (low L[i].data.toList = [103]) = R) :
    Calls Tryd.prog 79 #[v, .int .i64 (i : Int), .int .u8 71] w fun e w' => e = .returned (.bool R) ∧ Below w.heap.size w w' := by
  obtain ⟨g, cp, rfl, hcp, hg, hcell⟩ := hv.at (by omega)
  have hcl := hcell i hi
  have c1 : ∀ W, Below w.heap.size w W → Calls Tryd.prog 71 #[.string L[i]] W fun e w' => e = .returned (.string ⟨(low L[i].data.toList).toArray⟩) ∧ Below w.heap.size w w' ∧ Below W.heap.size W w' := fun W hb => (refLower L[i] W (by omega)).mono fun e w' ⟨p, q⟩ => ⟨p, hb.trans (q.mono hb.size), q⟩
  have c2 : ∀ W, Below w.heap.size w W → Calls Tryd.prog 71 #[.string ⟨[(71 : UInt8)].toArray⟩] W fun e w' => e = .returned (.string ⟨[(103 : UInt8)].toArray⟩) ∧ Below w.heap.size w w' ∧ Below W.heap.size W w' := fun W hb => (refLower ⟨[(71 : UInt8)].toArray⟩ W (by show 1 ≤ _; omega)).mono fun e w' ⟨p, q⟩ => ⟨p, hb.trans (q.mono hb.size), q⟩
  have hbe : ((⟨(low L[i].data.toList).toArray⟩ : ByteArray).toList == [(103 : UInt8)]) = R := by
    rw [← hR, Lib.toList_data, data_mk]
    by_cases h : low L[i].data.toList = [(103 : UInt8)]
    · rw [h]; simp
    · rw [decide_eq_false h, beq_eq_false_iff_ne]; exact h
  clear hcell hR hv
  generalize (⟨(low L[i].data.toList).toArray⟩ : ByteArray) = LS at *
  generalize L[i] = S at *
  have hc2 := hcl
  have hB := Below.refl w.heap.size w
  have C1 := Lib.hid c1
  have C2 := Lib.hid c2
  have HBE := Lib.hid hbe
  clear c1 c2 hbe
  by_cases h1 : S.size = 1
  · have hz1 : 0 < S.size := by omega
    obtain ⟨y, hy⟩ : ∃ y, S[0].toNat = y := ⟨_, rfl⟩
    by_cases a1 : 48 ≤ y
    · go_enter Tryd.func79, Tryd.ntmps79
      go_wp2_with fail
      have cv0 := conv_cell ((w.alloc (.cells #[.int .u8 71] 5)).drew) w.heap.size 71 71 rfl (cell_row1 w 71)
      have cv2 := conv_cell ((w.alloc (.cells #[.int .u8 71] 5)).drewN 2) w.heap.size 71 71 rfl (cell_row1 w 71)
      have cv3 := conv_cell ((w.alloc (.cells #[.int .u8 71] 5)).drew.drew) w.heap.size 71 71 rfl (cell_row1 w 71)
      have hB1 := hB.drew
      have hB2 := (bal hB (.cells #[.int .u8 71] 5)).drew
      have hB3 := (bal hB (.cells #[.int .u8 71] 5)).drew.drew
      go_region_with (first
        | (go_at_call 71; ((with_reducible refine (C1.out w.drew (by assumption)).mono ?_); rintro e wn ⟨rfl, hBn, hBo⟩; have cv1 := conv_cell (wn.alloc (.cells #[.int .u8 71] 5)) wn.heap.size 71 71 rfl (cell_row1 wn 71); have hBa := bal hBn (.cells #[.int .u8 71] 5)))
        | (go_at_call 71; ((with_reducible refine (C1.out _ (by first | assumption | exact hB3)).mono ?_); rintro e wn ⟨rfl, hBn, hBo⟩; have cv1 := conv_cell wn w.heap.size 71 71 rfl ((hBo.cell (lt_row1 w _)).trans (cell_row1 w 71))))
        | (go_at_call 71; ((with_reducible refine (C2.out _ (by assumption)).mono ?_); rintro e wm ⟨rfl, hBm, -⟩)))
      all_goals
        go_wp2
        go_ret
        exact ⟨ret_bl HBE.out, hBm⟩
    · go_enter Tryd.func79, Tryd.ntmps79
      go_wp2_with fail
      have cv0 := conv_cell ((w.alloc (.cells #[.int .u8 71] 5)).drew) w.heap.size 71 71 rfl (cell_row1 w 71)
      have cv2 := conv_cell ((w.alloc (.cells #[.int .u8 71] 5)).drewN 2) w.heap.size 71 71 rfl (cell_row1 w 71)
      have cv3 := conv_cell ((w.alloc (.cells #[.int .u8 71] 5)).drew.drew) w.heap.size 71 71 rfl (cell_row1 w 71)
      have hB1 := hB.drew
      have hB2 := (bal hB (.cells #[.int .u8 71] 5)).drew
      have hB3 := (bal hB (.cells #[.int .u8 71] 5)).drew.drew
      go_region_with (first
        | (go_at_call 71; ((with_reducible refine (C1.out w.drew (by assumption)).mono ?_); rintro e wn ⟨rfl, hBn, hBo⟩; have cv1 := conv_cell (wn.alloc (.cells #[.int .u8 71] 5)) wn.heap.size 71 71 rfl (cell_row1 wn 71); have hBa := bal hBn (.cells #[.int .u8 71] 5)))
        | (go_at_call 71; ((with_reducible refine (C1.out _ (by first | assumption | exact hB3)).mono ?_); rintro e wn ⟨rfl, hBn, hBo⟩; have cv1 := conv_cell wn w.heap.size 71 71 rfl ((hBo.cell (lt_row1 w _)).trans (cell_row1 w 71))))
        | (go_at_call 71; ((with_reducible refine (C2.out _ (by assumption)).mono ?_); rintro e wm ⟨rfl, hBm, -⟩)))
      all_goals
        go_wp2
        go_ret
        exact ⟨ret_bl HBE.out, hBm⟩
  · have hxi : ¬ ((S.size : Int) = 1) := by omega
    go_enter Tryd.func79, Tryd.ntmps79
    go_wp2_with fail
    have cv0 := conv_cell ((w.alloc (.cells #[.int .u8 71] 5)).drew) w.heap.size 71 71 rfl (cell_row1 w 71)
    have cv2 := conv_cell ((w.alloc (.cells #[.int .u8 71] 5)).drewN 2) w.heap.size 71 71 rfl (cell_row1 w 71)
    have cv3 := conv_cell ((w.alloc (.cells #[.int .u8 71] 5)).drew.drew) w.heap.size 71 71 rfl (cell_row1 w 71)
    have hB1 := hB.drew
    have hB2 := (bal hB (.cells #[.int .u8 71] 5)).drew
    have hB3 := (bal hB (.cells #[.int .u8 71] 5)).drew.drew
    go_region_with (first
      | (go_at_call 71; ((with_reducible refine (C1.out w.drew (by assumption)).mono ?_); rintro e wn ⟨rfl, hBn, hBo⟩; have cv1 := conv_cell (wn.alloc (.cells #[.int .u8 71] 5)) wn.heap.size 71 71 rfl (cell_row1 wn 71); have hBa := bal hBn (.cells #[.int .u8 71] 5)))
      | (go_at_call 71; ((with_reducible refine (C1.out _ (by first | assumption | exact hB3)).mono ?_); rintro e wn ⟨rfl, hBn, hBo⟩; have cv1 := conv_cell wn w.heap.size 71 71 rfl ((hBo.cell (lt_row1 w _)).trans (cell_row1 w 71))))
      | (go_at_call 71; ((with_reducible refine (C2.out _ (by assumption)).mono ?_); rintro e wm ⟨rfl, hBm, -⟩)))
    all_goals
      go_wp2
      go_ret
      exact ⟨ret_bl HBE.out, hBm⟩

set_option maxHeartbeats 1000000 in
theorem fits_109 (w : World) (v : Value) (L : List ByteArray) (hv : Ltr w v L) (i : Nat) (hi : i < L.length) (hz : L[i].size ≤ 4398046511104) (R : Bool) (hR : decide (low L[i].data.toList = [109]) = R) :
    Calls Tryd.prog 79 #[v, .int .i64 (i : Int), .int .u8 109] w fun e w' => e = .returned (.bool R) ∧ Below w.heap.size w w' := by
  obtain ⟨g, cp, rfl, hcp, hg, hcell⟩ := hv.at (by omega)
  have hcl := hcell i hi
  have c1 : ∀ W, Below w.heap.size w W → Calls Tryd.prog 71 #[.string L[i]] W fun e w' => e = .returned (.string ⟨(low L[i].data.toList).toArray⟩) ∧ Below w.heap.size w w' ∧ Below W.heap.size W w' := fun W hb => (refLower L[i] W (by omega)).mono fun e w' ⟨p, q⟩ => ⟨p, hb.trans (q.mono hb.size), q⟩
  have c2 : ∀ W, Below w.heap.size w W → Calls Tryd.prog 71 #[.string ⟨[(109 : UInt8)].toArray⟩] W fun e w' => e = .returned (.string ⟨[(109 : UInt8)].toArray⟩) ∧ Below w.heap.size w w' ∧ Below W.heap.size W w' := fun W hb => (refLower ⟨[(109 : UInt8)].toArray⟩ W (by show 1 ≤ _; omega)).mono fun e w' ⟨p, q⟩ => ⟨p, hb.trans (q.mono hb.size), q⟩
  have hbe : ((⟨(low L[i].data.toList).toArray⟩ : ByteArray).toList == [(109 : UInt8)]) = R := by
    rw [← hR, Lib.toList_data, data_mk]
    by_cases h : low L[i].data.toList = [(109 : UInt8)]
    · rw [h]; simp
    · rw [decide_eq_false h, beq_eq_false_iff_ne]; exact h
  clear hcell hR hv
  generalize (⟨(low L[i].data.toList).toArray⟩ : ByteArray) = LS at *
  generalize L[i] = S at *
  have hc2 := hcl
  have hB := Below.refl w.heap.size w
  have C1 := Lib.hid c1
  have C2 := Lib.hid c2
  have HBE := Lib.hid hbe
  clear c1 c2 hbe
  by_cases h1 : S.size = 1
  · have hz1 : 0 < S.size := by omega
    obtain ⟨y, hy⟩ : ∃ y, S[0].toNat = y := ⟨_, rfl⟩
    by_cases a1 : 48 ≤ y
    · go_enter Tryd.func79, Tryd.ntmps79
      go_wp2_with fail
      have cv0 := conv_cell ((w.alloc (.cells #[.int .u8 109] 5)).drew) w.heap.size 109 109 rfl (cell_row1 w 109)
      have cv2 := conv_cell ((w.alloc (.cells #[.int .u8 109] 5)).drewN 2) w.heap.size 109 109 rfl (cell_row1 w 109)
      have cv3 := conv_cell ((w.alloc (.cells #[.int .u8 109] 5)).drew.drew) w.heap.size 109 109 rfl (cell_row1 w 109)
      have hB1 := hB.drew
      have hB2 := (bal hB (.cells #[.int .u8 109] 5)).drew
      have hB3 := (bal hB (.cells #[.int .u8 109] 5)).drew.drew
      go_region_with (first
        | (go_at_call 71; ((with_reducible refine (C1.out w.drew (by assumption)).mono ?_); rintro e wn ⟨rfl, hBn, hBo⟩; have cv1 := conv_cell (wn.alloc (.cells #[.int .u8 109] 5)) wn.heap.size 109 109 rfl (cell_row1 wn 109); have hBa := bal hBn (.cells #[.int .u8 109] 5)))
        | (go_at_call 71; ((with_reducible refine (C1.out _ (by first | assumption | exact hB3)).mono ?_); rintro e wn ⟨rfl, hBn, hBo⟩; have cv1 := conv_cell wn w.heap.size 109 109 rfl ((hBo.cell (lt_row1 w _)).trans (cell_row1 w 109))))
        | (go_at_call 71; ((with_reducible refine (C2.out _ (by assumption)).mono ?_); rintro e wm ⟨rfl, hBm, -⟩)))
      all_goals
        go_wp2
        go_ret
        exact ⟨ret_bl HBE.out, hBm⟩
    · go_enter Tryd.func79, Tryd.ntmps79
      go_wp2_with fail
      have cv0 := conv_cell ((w.alloc (.cells #[.int .u8 109] 5)).drew) w.heap.size 109 109 rfl (cell_row1 w 109)
      have cv2 := conv_cell ((w.alloc (.cells #[.int .u8 109] 5)).drewN 2) w.heap.size 109 109 rfl (cell_row1 w 109)
      have cv3 := conv_cell ((w.alloc (.cells #[.int .u8 109] 5)).drew.drew) w.heap.size 109 109 rfl (cell_row1 w 109)
      have hB1 := hB.drew
      have hB2 := (bal hB (.cells #[.int .u8 109] 5)).drew
      have hB3 := (bal hB (.cells #[.int .u8 109] 5)).drew.drew
      go_region_with (first
        | (go_at_call 71; ((with_reducible refine (C1.out w.drew (by assumption)).mono ?_); rintro e wn ⟨rfl, hBn, hBo⟩; have cv1 := conv_cell (wn.alloc (.cells #[.int .u8 109] 5)) wn.heap.size 109 109 rfl (cell_row1 wn 109); have hBa := bal hBn (.cells #[.int .u8 109] 5)))
        | (go_at_call 71; ((with_reducible refine (C1.out _ (by first | assumption | exact hB3)).mono ?_); rintro e wn ⟨rfl, hBn, hBo⟩; have cv1 := conv_cell wn w.heap.size 109 109 rfl ((hBo.cell (lt_row1 w _)).trans (cell_row1 w 109))))
        | (go_at_call 71; ((with_reducible refine (C2.out _ (by assumption)).mono ?_); rintro e wm ⟨rfl, hBm, -⟩)))
      all_goals
        go_wp2
        go_ret
        exact ⟨ret_bl HBE.out, hBm⟩
  · have hxi : ¬ ((S.size : Int) = 1) := by omega
    go_enter Tryd.func79, Tryd.ntmps79
    go_wp2_with fail
    have cv0 := conv_cell ((w.alloc (.cells #[.int .u8 109] 5)).drew) w.heap.size 109 109 rfl (cell_row1 w 109)
    have cv2 := conv_cell ((w.alloc (.cells #[.int .u8 109] 5)).drewN 2) w.heap.size 109 109 rfl (cell_row1 w 109)
    have cv3 := conv_cell ((w.alloc (.cells #[.int .u8 109] 5)).drew.drew) w.heap.size 109 109 rfl (cell_row1 w 109)
    have hB1 := hB.drew
    have hB2 := (bal hB (.cells #[.int .u8 109] 5)).drew
    have hB3 := (bal hB (.cells #[.int .u8 109] 5)).drew.drew
    go_region_with (first
      | (go_at_call 71; ((with_reducible refine (C1.out w.drew (by assumption)).mono ?_); rintro e wn ⟨rfl, hBn, hBo⟩; have cv1 := conv_cell (wn.alloc (.cells #[.int .u8 109] 5)) wn.heap.size 109 109 rfl (cell_row1 wn 109); have hBa := bal hBn (.cells #[.int .u8 109] 5)))
      | (go_at_call 71; ((with_reducible refine (C1.out _ (by first | assumption | exact hB3)).mono ?_); rintro e wn ⟨rfl, hBn, hBo⟩; have cv1 := conv_cell wn w.heap.size 109 109 rfl ((hBo.cell (lt_row1 w _)).trans (cell_row1 w 109))))
      | (go_at_call 71; ((with_reducible refine (C2.out _ (by assumption)).mono ?_); rintro e wm ⟨rfl, hBm, -⟩)))
    all_goals
      go_wp2
      go_ret
      exact ⟨ret_bl HBE.out, hBm⟩

set_option maxHeartbeats 1000000 in
theorem fits_84 (w : World) (v : Value) (L : List ByteArray) (hv : Ltr w v L) (i : Nat) (hi : i < L.length) (hz : L[i].size ≤ 4398046511104) (R : Bool) (hR : decide (low L[i].data.toList = [116]) = R) :
    Calls Tryd.prog 79 #[v, .int .i64 (i : Int), .int .u8 84] w fun e w' => e = .returned (.bool R) ∧ Below w.heap.size w w' := by
  obtain ⟨g, cp, rfl, hcp, hg, hcell⟩ := hv.at (by omega)
  have hcl := hcell i hi
  have c1 : ∀ W, Below w.heap.size w W → Calls Tryd.prog 71 #[.string L[i]] W fun e w' => e = .returned (.string ⟨(low L[i].data.toList).toArray⟩) ∧ Below w.heap.size w w' ∧ Below W.heap.size W w' := fun W hb => (refLower L[i] W (by omega)).mono fun e w' ⟨p, q⟩ => ⟨p, hb.trans (q.mono hb.size), q⟩
  have c2 : ∀ W, Below w.heap.size w W → Calls Tryd.prog 71 #[.string ⟨[(84 : UInt8)].toArray⟩] W fun e w' => e = .returned (.string ⟨[(116 : UInt8)].toArray⟩) ∧ Below w.heap.size w w' ∧ Below W.heap.size W w' := fun W hb => (refLower ⟨[(84 : UInt8)].toArray⟩ W (by show 1 ≤ _; omega)).mono fun e w' ⟨p, q⟩ => ⟨p, hb.trans (q.mono hb.size), q⟩
  have hbe : ((⟨(low L[i].data.toList).toArray⟩ : ByteArray).toList == [(116 : UInt8)]) = R := by
    rw [← hR, Lib.toList_data, data_mk]
    by_cases h : low L[i].data.toList = [(116 : UInt8)]
    · rw [h]; simp
    · rw [decide_eq_false h, beq_eq_false_iff_ne]; exact h
  clear hcell hR hv
  generalize (⟨(low L[i].data.toList).toArray⟩ : ByteArray) = LS at *
  generalize L[i] = S at *
  have hc2 := hcl
  have hB := Below.refl w.heap.size w
  have C1 := Lib.hid c1
  have C2 := Lib.hid c2
  have HBE := Lib.hid hbe
  clear c1 c2 hbe
  by_cases h1 : S.size = 1
  · have hz1 : 0 < S.size := by omega
    obtain ⟨y, hy⟩ : ∃ y, S[0].toNat = y := ⟨_, rfl⟩
    by_cases a1 : 48 ≤ y
    · go_enter Tryd.func79, Tryd.ntmps79
      go_wp2_with fail
      have cv0 := conv_cell ((w.alloc (.cells #[.int .u8 84] 5)).drew) w.heap.size 84 84 rfl (cell_row1 w 84)
      have cv2 := conv_cell ((w.alloc (.cells #[.int .u8 84] 5)).drewN 2) w.heap.size 84 84 rfl (cell_row1 w 84)
      have cv3 := conv_cell ((w.alloc (.cells #[.int .u8 84] 5)).drew.drew) w.heap.size 84 84 rfl (cell_row1 w 84)
      have hB1 := hB.drew
      have hB2 := (bal hB (.cells #[.int .u8 84] 5)).drew
      have hB3 := (bal hB (.cells #[.int .u8 84] 5)).drew.drew
      go_region_with (first
        | (go_at_call 71; ((with_reducible refine (C1.out w.drew (by assumption)).mono ?_); rintro e wn ⟨rfl, hBn, hBo⟩; have cv1 := conv_cell (wn.alloc (.cells #[.int .u8 84] 5)) wn.heap.size 84 84 rfl (cell_row1 wn 84); have hBa := bal hBn (.cells #[.int .u8 84] 5)))
        | (go_at_call 71; ((with_reducible refine (C1.out _ (by first | assumption | exact hB3)).mono ?_); rintro e wn ⟨rfl, hBn, hBo⟩; have cv1 := conv_cell wn w.heap.size 84 84 rfl ((hBo.cell (lt_row1 w _)).trans (cell_row1 w 84))))
        | (go_at_call 71; ((with_reducible refine (C2.out _ (by assumption)).mono ?_); rintro e wm ⟨rfl, hBm, -⟩)))
      all_goals
        go_wp2
        go_ret
        exact ⟨ret_bl HBE.out, hBm⟩
    · go_enter Tryd.func79, Tryd.ntmps79
      go_wp2_with fail
      have cv0 := conv_cell ((w.alloc (.cells #[.int .u8 84] 5)).drew) w.heap.size 84 84 rfl (cell_row1 w 84)
      have cv2 := conv_cell ((w.alloc (.cells #[.int .u8 84] 5)).drewN 2) w.heap.size 84 84 rfl (cell_row1 w 84)
      have cv3 := conv_cell ((w.alloc (.cells #[.int .u8 84] 5)).drew.drew) w.heap.size 84 84 rfl (cell_row1 w 84)
      have hB1 := hB.drew
      have hB2 := (bal hB (.cells #[.int .u8 84] 5)).drew
      have hB3 := (bal hB (.cells #[.int .u8 84] 5)).drew.drew
      go_region_with (first
        | (go_at_call 71; ((with_reducible refine (C1.out w.drew (by assumption)).mono ?_); rintro e wn ⟨rfl, hBn, hBo⟩; have cv1 := conv_cell (wn.alloc (.cells #[.int .u8 84] 5)) wn.heap.size 84 84 rfl (cell_row1 wn 84); have hBa := bal hBn (.cells #[.int .u8 84] 5)))
        | (go_at_call 71; ((with_reducible refine (C1.out _ (by first | assumption | exact hB3)).mono ?_); rintro e wn ⟨rfl, hBn, hBo⟩; have cv1 := conv_cell wn w.heap.size 84 84 rfl ((hBo.cell (lt_row1 w _)).trans (cell_row1 w 84))))
        | (go_at_call 71; ((with_reducible refine (C2.out _ (by assumption)).mono ?_); rintro e wm ⟨rfl, hBm, -⟩)))
      all_goals
        go_wp2
        go_ret
        exact ⟨ret_bl HBE.out, hBm⟩
  · have hxi : ¬ ((S.size : Int) = 1) := by omega
    go_enter Tryd.func79, Tryd.ntmps79
    go_wp2_with fail
    have cv0 := conv_cell ((w.alloc (.cells #[.int .u8 84] 5)).drew) w.heap.size 84 84 rfl (cell_row1 w 84)
    have cv2 := conv_cell ((w.alloc (.cells #[.int .u8 84] 5)).drewN 2) w.heap.size 84 84 rfl (cell_row1 w 84)
    have cv3 := conv_cell ((w.alloc (.cells #[.int .u8 84] 5)).drew.drew) w.heap.size 84 84 rfl (cell_row1 w 84)
    have hB1 := hB.drew
    have hB2 := (bal hB (.cells #[.int .u8 84] 5)).drew
    have hB3 := (bal hB (.cells #[.int .u8 84] 5)).drew.drew
    go_region_with (first
      | (go_at_call 71; ((with_reducible refine (C1.out w.drew (by assumption)).mono ?_); rintro e wn ⟨rfl, hBn, hBo⟩; have cv1 := conv_cell (wn.alloc (.cells #[.int .u8 84] 5)) wn.heap.size 84 84 rfl (cell_row1 wn 84); have hBa := bal hBn (.cells #[.int .u8 84] 5)))
      | (go_at_call 71; ((with_reducible refine (C1.out _ (by first | assumption | exact hB3)).mono ?_); rintro e wn ⟨rfl, hBn, hBo⟩; have cv1 := conv_cell wn w.heap.size 84 84 rfl ((hBo.cell (lt_row1 w _)).trans (cell_row1 w 84))))
      | (go_at_call 71; ((with_reducible refine (C2.out _ (by assumption)).mono ?_); rintro e wm ⟨rfl, hBm, -⟩)))
    all_goals
      go_wp2
      go_ret
      exact ⟨ret_bl HBE.out, hBm⟩

set_option maxHeartbeats 1000000 in
theorem fits_85 (w : World) (v : Value) (L : List ByteArray) (hv : Ltr w v L) (i : Nat) (hi : i < L.length) (hz : L[i].size ≤ 4398046511104) (R : Bool) (hR : decide (low L[i].data.toList = [117]) = R) :
    Calls Tryd.prog 79 #[v, .int .i64 (i : Int), .int .u8 85] w fun e w' => e = .returned (.bool R) ∧ Below w.heap.size w w' := by
  obtain ⟨g, cp, rfl, hcp, hg, hcell⟩ := hv.at (by omega)
  have hcl := hcell i hi
  have c1 : ∀ W, Below w.heap.size w W → Calls Tryd.prog 71 #[.string L[i]] W fun e w' => e = .returned (.string ⟨(low L[i].data.toList).toArray⟩) ∧ Below w.heap.size w w' ∧ Below W.heap.size W w' := fun W hb => (refLower L[i] W (by omega)).mono fun e w' ⟨p, q⟩ => ⟨p, hb.trans (q.mono hb.size), q⟩
  have c2 : ∀ W, Below w.heap.size w W → Calls Tryd.prog 71 #[.string ⟨[(85 : UInt8)].toArray⟩] W fun e w' => e = .returned (.string ⟨[(117 : UInt8)].toArray⟩) ∧ Below w.heap.size w w' ∧ Below W.heap.size W w' := fun W hb => (refLower ⟨[(85 : UInt8)].toArray⟩ W (by show 1 ≤ _; omega)).mono fun e w' ⟨p, q⟩ => ⟨p, hb.trans (q.mono hb.size), q⟩
  have hbe : ((⟨(low L[i].data.toList).toArray⟩ : ByteArray).toList == [(117 : UInt8)]) = R := by
    rw [← hR, Lib.toList_data, data_mk]
    by_cases h : low L[i].data.toList = [(117 : UInt8)]
    · rw [h]; simp
    · rw [decide_eq_false h, beq_eq_false_iff_ne]; exact h
  clear hcell hR hv
  generalize (⟨(low L[i].data.toList).toArray⟩ : ByteArray) = LS at *
  generalize L[i] = S at *
  have hc2 := hcl
  have hB := Below.refl w.heap.size w
  have C1 := Lib.hid c1
  have C2 := Lib.hid c2
  have HBE := Lib.hid hbe
  clear c1 c2 hbe
  by_cases h1 : S.size = 1
  · have hz1 : 0 < S.size := by omega
    obtain ⟨y, hy⟩ : ∃ y, S[0].toNat = y := ⟨_, rfl⟩
    by_cases a1 : 48 ≤ y
    · go_enter Tryd.func79, Tryd.ntmps79
      go_wp2_with fail
      have cv0 := conv_cell ((w.alloc (.cells #[.int .u8 85] 5)).drew) w.heap.size 85 85 rfl (cell_row1 w 85)
      have cv2 := conv_cell ((w.alloc (.cells #[.int .u8 85] 5)).drewN 2) w.heap.size 85 85 rfl (cell_row1 w 85)
      have cv3 := conv_cell ((w.alloc (.cells #[.int .u8 85] 5)).drew.drew) w.heap.size 85 85 rfl (cell_row1 w 85)
      have hB1 := hB.drew
      have hB2 := (bal hB (.cells #[.int .u8 85] 5)).drew
      have hB3 := (bal hB (.cells #[.int .u8 85] 5)).drew.drew
      go_region_with (first
        | (go_at_call 71; ((with_reducible refine (C1.out w.drew (by assumption)).mono ?_); rintro e wn ⟨rfl, hBn, hBo⟩; have cv1 := conv_cell (wn.alloc (.cells #[.int .u8 85] 5)) wn.heap.size 85 85 rfl (cell_row1 wn 85); have hBa := bal hBn (.cells #[.int .u8 85] 5)))
        | (go_at_call 71; ((with_reducible refine (C1.out _ (by first | assumption | exact hB3)).mono ?_); rintro e wn ⟨rfl, hBn, hBo⟩; have cv1 := conv_cell wn w.heap.size 85 85 rfl ((hBo.cell (lt_row1 w _)).trans (cell_row1 w 85))))
        | (go_at_call 71; ((with_reducible refine (C2.out _ (by assumption)).mono ?_); rintro e wm ⟨rfl, hBm, -⟩)))
      all_goals
        go_wp2
        go_ret
        exact ⟨ret_bl HBE.out, hBm⟩
    · go_enter Tryd.func79, Tryd.ntmps79
      go_wp2_with fail
      have cv0 := conv_cell ((w.alloc (.cells #[.int .u8 85] 5)).drew) w.heap.size 85 85 rfl (cell_row1 w 85)
      have cv2 := conv_cell ((w.alloc (.cells #[.int .u8 85] 5)).drewN 2) w.heap.size 85 85 rfl (cell_row1 w 85)
      have cv3 := conv_cell ((w.alloc (.cells #[.int .u8 85] 5)).drew.drew) w.heap.size 85 85 rfl (cell_row1 w 85)
      have hB1 := hB.drew
      have hB2 := (bal hB (.cells #[.int .u8 85] 5)).drew
      have hB3 := (bal hB (.cells #[.int .u8 85] 5)).drew.drew
      go_region_with (first
        | (go_at_call 71; ((with_reducible refine (C1.out w.drew (by assumption)).mono ?_); rintro e wn ⟨rfl, hBn, hBo⟩; have cv1 := conv_cell (wn.alloc (.cells #[.int .u8 85] 5)) wn.heap.size 85 85 rfl (cell_row1 wn 85); have hBa := bal hBn (.cells #[.int .u8 85] 5)))
        | (go_at_call 71; ((with_reducible refine (C1.out _ (by first | assumption | exact hB3)).mono ?_); rintro e wn ⟨rfl, hBn, hBo⟩; have cv1 := conv_cell wn w.heap.size 85 85 rfl ((hBo.cell (lt_row1 w _)).trans (cell_row1 w 85))))
        | (go_at_call 71; ((with_reducible refine (C2.out _ (by assumption)).mono ?_); rintro e wm ⟨rfl, hBm, -⟩)))
      all_goals
        go_wp2
        go_ret
        exact ⟨ret_bl HBE.out, hBm⟩
  · have hxi : ¬ ((S.size : Int) = 1) := by omega
    go_enter Tryd.func79, Tryd.ntmps79
    go_wp2_with fail
    have cv0 := conv_cell ((w.alloc (.cells #[.int .u8 85] 5)).drew) w.heap.size 85 85 rfl (cell_row1 w 85)
    have cv2 := conv_cell ((w.alloc (.cells #[.int .u8 85] 5)).drewN 2) w.heap.size 85 85 rfl (cell_row1 w 85)
    have cv3 := conv_cell ((w.alloc (.cells #[.int .u8 85] 5)).drew.drew) w.heap.size 85 85 rfl (cell_row1 w 85)
    have hB1 := hB.drew
    have hB2 := (bal hB (.cells #[.int .u8 85] 5)).drew
    have hB3 := (bal hB (.cells #[.int .u8 85] 5)).drew.drew
    go_region_with (first
      | (go_at_call 71; ((with_reducible refine (C1.out w.drew (by assumption)).mono ?_); rintro e wn ⟨rfl, hBn, hBo⟩; have cv1 := conv_cell (wn.alloc (.cells #[.int .u8 85] 5)) wn.heap.size 85 85 rfl (cell_row1 wn 85); have hBa := bal hBn (.cells #[.int .u8 85] 5)))
      | (go_at_call 71; ((with_reducible refine (C1.out _ (by first | assumption | exact hB3)).mono ?_); rintro e wn ⟨rfl, hBn, hBo⟩; have cv1 := conv_cell wn w.heap.size 85 85 rfl ((hBo.cell (lt_row1 w _)).trans (cell_row1 w 85))))
      | (go_at_call 71; ((with_reducible refine (C2.out _ (by assumption)).mono ?_); rintro e wm ⟨rfl, hBm, -⟩)))
    all_goals
      go_wp2
      go_ret
      exact ⟨ret_bl HBE.out, hBm⟩
end Go.Proofs.YtkkmjadkagpihaaDoor
