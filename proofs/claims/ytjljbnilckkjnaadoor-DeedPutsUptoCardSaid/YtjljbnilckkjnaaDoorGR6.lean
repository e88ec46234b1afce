/- Deed: the document's Check. -/
import Derived.Test.YtjljbnilckkjnaaDoorGR5
namespace Go.Proofs.YtjljbnilckkjnaaDoor
open Go Go.RowKit

theorem two_true {a b : Bool} (h : ¬ (a && b) = false) : a = true ∧ b = true := by revert h; cases a <;> cases b <;> simp
theorem five_true {a b c d e : Bool} (h : ¬ (a && b && c && d && e) = false) : a = true ∧ b = true ∧ c = true ∧ d = true ∧ e = true := by revert h; cases a <;> cases b <;> cases c <;> cases d <;> cases e <;> simp
theorem isA_1 (d : Di) (a : Int) : isA d [a] = (d.act == a) := by simp [isA]
theorem isA_2 (d : Di) (a b : Int) : isA d [a, b] = (d.act == a || d.act == b) := by simp [isA]
theorem isA_6 (d : Di) : isA d [2, 3, 4, 5, 6, 7] = (decide (2 ≤ d.act) && decide (d.act ≤ 7)) := by
  unfold isA
  rw [Bool.eq_iff_iff]
  simp only [List.any_cons, List.any_nil, Bool.or_false, Bool.or_eq_true, beq_iff_eq, Bool.and_eq_true, decide_eq_true_eq]
  omega
theorem nbeq {a b : Int} (h : ¬ a = b) : (a == b) = false := by rw [beq_eq_false_iff_ne]; exact h
theorem nbne {a b : Int} (h : ¬ a = b) : (a != b) = true := by rw [bne_iff_ne]; exact h
theorem cnt_t {n lo hi : Int} {a : Bool} (ha : a = true) (h : lo ≤ n ∧ n ≤ hi) : true = cntB n a lo hi := by
  unfold cntB; rw [ha, if_pos rfl, decide_eq_true h.1, decide_eq_true h.2]; rfl
theorem cnt_tt {n lo hi : Int} {a : Bool} (h : n = 0) (h1 : lo ≤ 0) (h2 : 0 ≤ hi) : true = cntB n a lo hi := by
  unfold cntB; subst h; cases a
  · rw [if_neg (by simp)]; rfl
  · rw [if_pos rfl, decide_eq_true h1, decide_eq_true h2]; rfl
theorem cnt_f {n lo hi : Int} {a : Bool} (ha : a = true) (h : ¬ (lo ≤ n ∧ n ≤ hi)) : false = cntB n a lo hi := by
  unfold cntB; rw [ha, if_pos rfl, Eq.comm, Bool.eq_false_iff]; simpa using h
theorem cnt_f0 {n lo hi : Int} {a : Bool} (ha : a = false) (h : ¬ n = 0) : false = cntB n a lo hi := by
  unfold cntB; rw [ha, if_neg (by simp), decide_eq_false h]
/-- What the walk of the document's Check leans on. -/
structure RckK (w wb : World) (d : Di) (pv : Value) (BU BX TX : Bool) : Prop where
  row : ∀ u, Below wb.heap.size wb u → u.heap[w.heap.size]? = some (.cells (diC d pv) 28 (0, 0))
  hu : Calls Tryd.prog 13 #[.string d.user] wb fun e w' => e = .returned (.bool BU) ∧ Below wb.heap.size wb w'
  hb : ∀ u, Below wb.heap.size wb u → Calls Tryd.prog 15 #[.string d.box] u fun e w' => e = .returned (.bool BX) ∧ Below wb.heap.size wb w'
  ht : ∀ u, Below wb.heap.size wb u → Calls Tryd.prog 15 #[.string d.dest] u fun e w' => e = .returned (.bool TX) ∧ Below wb.heap.size wb w'
  hk : ∀ u, Below wb.heap.size wb u → Calls Tryd.prog 28 #[pv] u (TakeUR d.bytes u)
  fin : ∀ u, Below wb.heap.size wb u → Below w.heap.size w u
theorem RckK.cells {w wb : World} {d : Di} {pv : Value} {BU BX TX : Bool} (h : RckK w wb d pv BU BX TX) (u : World) (hu : Below wb.heap.size wb u) :
    u.cell? ⟨w.heap.size, 0, none⟩ = some (.int .i64 d.act) ∧ u.cell? ⟨w.heap.size, 1, none⟩ = some (.string d.user) ∧ u.cell? ⟨w.heap.size, 2, none⟩ = some (.string d.box) ∧ u.cell? ⟨w.heap.size, 3, none⟩ = some (.string d.dest) ∧ u.cell? ⟨w.heap.size, 4, none⟩ = some (.int .i64 d.uid) ∧
    u.cell? ⟨w.heap.size, 5, none⟩ = some (.int .i64 d.how) ∧ u.cell? ⟨w.heap.size, 6, none⟩ = some (.int .u8 (d.flags.toNat : Int)) ∧ u.cell? ⟨w.heap.size, 7, none⟩ = some (.int .i64 d.shard) ∧ u.cell? ⟨w.heap.size, 8, none⟩ = some (.int .i64 d.epoch) ∧ u.cell? ⟨w.heap.size, 9, none⟩ = some pv := by
  have hr := h.row u hu
  exact ⟨cell_of_row _ _ _ _ _ _ hr, cell_of_row _ _ _ _ _ _ hr, cell_of_row _ _ _ _ _ _ hr, cell_of_row _ _ _ _ _ _ hr, cell_of_row _ _ _ _ _ _ hr, cell_of_row _ _ _ _ _ _ hr, cell_of_row _ _ _ _ _ _ hr, cell_of_row _ _ _ _ _ _ hr, cell_of_row _ _ _ _ _ _ hr, cell_of_row _ _ _ _ _ _ hr⟩
set_option maxHeartbeats 16000000 in
set_option maxRecDepth 100000 in
theorem refCheckD (d : Di) (pv : Value) (w : World) (hp : Byz w pv d.bytes) (hl : d.bytes.length ≤ 9223372036854775807) (hs : d.user.size ≤ 9223372036854775807) (hs2 : d.box.size ≤ 4398046511104) (hs3 : d.dest.size ≤ 4398046511104) (hT : Tabs w) :
    Calls Tryd.prog 19 #[diV d pv] w fun e w' => e = .returned (.int .i64 (ckDeed d)) ∧ Below w.heap.size w w' := by
  obtain ⟨pa, pc, rfl⟩ := hp.1
  obtain ⟨wb, hwb⟩ : ∃ wb, wb = w.alloc (.cells (diC d (.slice pa d.bytes.length pc)) 28) := ⟨_, rfl⟩
  have hb0 : Below w.heap.size w wb := by rw [hwb]; exact (Below.refl _ w).alloc (Nat.le_refl _) _
  have hrow : wb.heap[w.heap.size]? = some (.cells (diC d (.slice pa d.bytes.length pc)) 28 (0, 0)) := by rw [hwb]; exact heap_alloc_new w _
  have hNlt := (Array.getElem?_eq_some_iff.1 hrow).1
  have hT0 : Tabs wb := hT.below hb0 (Nat.le_refl _)
  have K : RckK w wb d (.slice pa d.bytes.length pc) (rightU d.user) (rightX d.box) (rightX d.dest) := by
    constructor
    · exact fun u hu => below_row hrow hu hNlt
    · exact bel_bring (Below.refl _ wb) (refRightUser d.user wb hs)
    · exact fun u hu => bel_bring hu (refRightBox d.box u (hT0.below hu (Nat.le_refl _)) hs2)
    · exact fun u hu => bel_bring hu (refRightBox d.dest u (hT0.below hu (Nat.le_refl _)) hs3)
    · exact fun u hu => refTakeUser u _ d.bytes ((hp.below hb0).below hu) hl (hT0.below hu (Nat.le_refl _))
    · exact fun u hu => hb0.trans (hu.mono hb0.size)
  have HWB := Lib.hid (show w.alloc (.cells (diC d (.slice pa d.bytes.length pc)) 28) = wb from hwb.symm)
  have HS2 := Lib.hid hs2
  have HS3 := Lib.hid hs3
  clear hwb hb0 hrow hNlt hT0 hp hs hT hs2 hs3
  obtain ⟨E, hE⟩ : ∃ E, ckDeed d = E := ⟨_, rfl⟩
  rw [hE]
  unfold ckDeed at hE
  obtain ⟨BU, hBU⟩ : ∃ B, rightU d.user = B := ⟨_, rfl⟩
  obtain ⟨BN, hBN⟩ : ∃ B, nmB d.box (isA d [2, 3, 4, 5, 6, 7]) = B := ⟨_, rfl⟩
  obtain ⟨TN, hTN⟩ : ∃ B, nmB d.dest (isA d [7]) = B := ⟨_, rfl⟩
  obtain ⟨U, hU⟩ : ∃ B, cntB d.uid (isA d [5, 6]) 1 4294967295 = B := ⟨_, rfl⟩
  obtain ⟨H, hH⟩ : ∃ B, cntB d.how (isA d [5]) 0 2 = B := ⟨_, rfl⟩
  obtain ⟨FL, hFL⟩ : ∃ B, cntB (d.flags.toNat : Int) (isA d [4, 5]) 0 31 = B := ⟨_, rfl⟩
  obtain ⟨SH, hSH⟩ : ∃ B, cntB d.shard (isA d [9]) 0 3 = B := ⟨_, rfl⟩
  obtain ⟨EP, hEP⟩ : ∃ B, cntB d.epoch (isA d [8, 9]) 1 4294967295 = B := ⟨_, rfl⟩
  rw [hBU, hBN, hTN, hU, hH, hFL, hSH, hEP] at hE
  rw [hBU] at K
  have HE := Lib.hid hE
  have HBN := Lib.hid hBN
  have HTN := Lib.hid hTN
  have HU := Lib.hid hU
  have HH := Lib.hid hH
  have HFL := Lib.hid hFL
  have HSH := Lib.hid hSH
  have HEP := Lib.hid hEP
  clear hE hBU hBN hTN hU hH hFL hSH hEP
  obtain ⟨c0, c1, _, _, _, _, _, _, _, _⟩ := K.cells wb (Below.refl _ _)
  unfold diV
  rw [show diC d (.slice pa d.bytes.length pc) = #[.int .i64 d.act, .string d.user, .string d.box, .string d.dest, .int .i64 d.uid, .int .i64 d.how, .int .u8 (d.flags.toNat : Int), .int .i64 d.shard, .int .i64 d.epoch, .slice pa d.bytes.length pc] from rfl] at HWB ⊢
  by_cases ha1 : d.act < 1
  · have HX : Hid (14 = E) := Lib.hid (by rw [← HE.out, if_pos ha1])
    have HF := Lib.hid (K.fin _ (Below.refl _ _))
    clear HE
    go_enter Tryd.func19, Tryd.ntmps19
    go_wp2_with (first | rw [HWB.out])
    go_ret
    exact ⟨ret_int1 HX.out, HF.out⟩
  by_cases ha9 : 9 < d.act
  · have HX : Hid (14 = E) := Lib.hid (by rw [← HE.out, if_neg ha1, if_pos ha9])
    have HF := Lib.hid (K.fin _ (Below.refl _ _))
    clear HE
    go_enter Tryd.func19, Tryd.ntmps19
    go_wp2_with (first | rw [HWB.out])
    go_ret
    exact ⟨ret_int1 HX.out, HF.out⟩
  have HE1 := Lib.hid (show _ from by have := HE.out; rw [if_neg ha1, if_neg ha9] at this; exact this)
  have HU0 := Lib.hid K.hu
  clear HE
  go_enter Tryd.func19, Tryd.ntmps19
  go_wp2_with (first | rw [HWB.out])
  refine HU0.out.mono ?_
  rintro e w1 ⟨rfl, hb⟩
  have HB1 := Lib.hid hb
  clear hb HU0 c0 c1 HWB
  cases BU with
  | false =>
    have HX : Hid (4 = E) := Lib.hid (by rw [← HE1.out, if_pos rfl])
    have HF := Lib.hid (K.fin _ HB1.out)
    clear HE1
    go_wp2
    go_ret
    exact ⟨ret_int1 HX.out, HF.out⟩
  | true =>
  have HE2 := Lib.hid (show _ from by have := HE1.out; rw [if_neg (by simp)] at this; exact this)
  clear HE1
  have ha1' : 1 ≤ d.act := by omega
  have ha9' : d.act ≤ 9 := by omega
  obtain ⟨NB, hNB⟩ : ∃ NB, (decide (2 ≤ d.act) && decide (d.act ≤ 7)) = NB := ⟨_, rfl⟩
  obtain ⟨BX, hBX⟩ : ∃ BX, rightX d.box = BX := ⟨_, rfl⟩
  obtain ⟨TX, hTX⟩ : ∃ TX, rightX d.dest = TX := ⟨_, rfl⟩
  rw [hBX, hTX] at K
  have HBV : Hid (BN = if NB = true then BX else decide (d.box.size = 0)) := Lib.hid (by rw [← HBN.out, isA_6, hNB]; unfold nmB; rw [hBX])
  have HTV : Hid (TN = if (d.act == 7) = true then TX else decide (d.dest.size = 0)) := Lib.hid (by rw [← HTN.out, isA_1]; unfold nmB; rw [hTX])
  have HNB := Lib.hid hNB
  clear hNB hBX hTX HBN HTN
  obtain ⟨c0, -, -, -, -, -, -, -, -, -⟩ := K.cells w1 HB1.out
  go_upto_region 5 with (fail)
  go_cut [3] from 23 to 31 (fun s u => s = .bool NB ∧ Below wb.heap.size wb u)
  case first =>
    go_wp2_with fail
    all_goals (go_meet; refine ⟨?_, HB1.out⟩)
    all_goals (congr 1; rw [← HNB.out, Bool.eq_iff_iff]; simp only [Bool.and_eq_true, decide_eq_true_eq, Bool.false_eq_true, false_iff]; omega)
  obtain ⟨rfl, hb⟩ := hcut
  have HB2 := Lib.hid hb
  clear hb c0 HB1
  obtain ⟨c0, -, c2, c3, -, -, -, -, -, -⟩ := K.cells _ HB2.out
  go_upto_region 6 with (fail)
  go_cut [69] from 31 to 70 (fun s u => s = .bool (!(BN && TN)) ∧ Below wb.heap.size wb u)
  case first =>
    cases NB with
    | true =>
      have hbv := HBV.out
      rw [if_pos rfl] at hbv
      subst hbv
      go_wp2_with fail
      refine (K.hb _ HB2.out).mono ?_
      rintro e w4 ⟨rfl, hb4⟩
      have HB4 := Lib.hid hb4
      clear c0 c2 c3
      obtain ⟨c0, -, -, c3, -, -, -, -, -, -⟩ := K.cells _ hb4
      clear hb4
      cases BN with
      | false =>
        go_wp2_with fail
        all_goals (go_meet; exact ⟨rfl, HB4.out⟩)
      | true =>
        by_cases h7 : d.act = 7
        · have htv := HTV.out
          rw [if_pos (by rw [h7]; rfl)] at htv
          subst htv
          rw [h7] at c0
          have H7 := Lib.hid h7
          clear h7
          go_wp2_with fail
          refine (K.ht _ HB4.out).mono ?_
          rintro e w5 ⟨rfl, hb5⟩
          have HB5 := Lib.hid hb5
          clear c0 c3
          obtain ⟨c0, -, -, c3, -, -, -, -, -, -⟩ := K.cells _ hb5
          rw [H7.out] at c0
          clear hb5
          cases TN with
          | false =>
            go_wp2_with fail
            all_goals (go_meet; exact ⟨rfl, HB5.out⟩)
          | true =>
            go_wp2_with fail
            all_goals (go_meet; exact ⟨rfl, HB5.out⟩)
        · have htv := HTV.out
          rw [if_neg (by simpa using h7)] at htv
          by_cases hd0 : d.dest.size = 0
          · rw [decide_eq_true hd0] at htv
            subst htv
            have hd1 : ¬ (0 : Int) < (d.dest.size : Int) := by omega
            have h71 : (d.act == 7) = false := by rw [beq_eq_false_iff_ne]; exact h7
            have h72 : (d.act != 7) = true := by rw [bne_iff_ne]; exact h7
            go_wp2_with fail
            all_goals (go_meet; exact ⟨by simp <;> omega, HB4.out⟩)
          · rw [decide_eq_false hd0] at htv
            subst htv
            have hd1 : (0 : Int) < (d.dest.size : Int) := by omega
            have hd2 : 0 < d.dest.size := by omega
            have h71 : (d.act == 7) = false := by rw [beq_eq_false_iff_ne]; exact h7
            have h72 : (d.act != 7) = true := by rw [bne_iff_ne]; exact h7
            go_wp2_with fail
            all_goals (go_meet; exact ⟨by simp <;> omega, HB4.out⟩)
    | false =>
      have hbv := HBV.out
      rw [if_neg (by simp)] at hbv
      have h7 : ¬ d.act = 7 := by
        have h := HNB.out
        simp only [Bool.and_eq_false_iff, decide_eq_false_iff_not] at h
        omega
      have htv := HTV.out
      rw [if_neg (by simpa using h7)] at htv
      have h71 : (d.act == 7) = false := by rw [beq_eq_false_iff_ne]; exact h7
      have h72 : (d.act != 7) = true := by rw [bne_iff_ne]; exact h7
      by_cases hx0 : d.box.size = 0
      · rw [decide_eq_true hx0] at hbv
        subst hbv
        have hx1 : ¬ (0 : Int) < (d.box.size : Int) := by omega
        by_cases hd0 : d.dest.size = 0
        · rw [decide_eq_true hd0] at htv
          subst htv
          have hd1 : ¬ (0 : Int) < (d.dest.size : Int) := by omega
          go_wp2_with fail
          all_goals (go_meet; exact ⟨by simp <;> omega, HB2.out⟩)
        · rw [decide_eq_false hd0] at htv
          subst htv
          have hd1 : (0 : Int) < (d.dest.size : Int) := by omega
          have hd2 : 0 < d.dest.size := by omega
          go_wp2_with fail
          all_goals (go_meet; exact ⟨by simp <;> omega, HB2.out⟩)
      · rw [decide_eq_false hx0] at hbv
        subst hbv
        have hx1 : (0 : Int) < (d.box.size : Int) := by omega
        have hx2 : 0 < d.box.size := by omega
        go_wp2_with fail
        all_goals (go_meet; exact ⟨by simp <;> omega, HB2.out⟩)
  obtain ⟨rfl, hb⟩ := hcut
  have HB3 := Lib.hid hb
  clear hb c0 c2 c3 HB2 HBV HTV HS2 HS3 HNB
  by_cases hbt : (BN && TN) = false
  · have HX : Hid (4 = E) := Lib.hid (by
      have := HE2.out
      cases BN with
      | false => rwa [if_pos rfl] at this
      | true =>
        cases TN with
        | false => rwa [if_neg (by simp), if_pos rfl] at this
        | true => cases hbt)
    have HF := Lib.hid (K.fin _ HB3.out)
    rw [hbt]
    clear HE2
    go_wp2
    go_ret
    exact ⟨ret_int1 HX.out, HF.out⟩
  obtain ⟨rfl, rfl⟩ := two_true hbt
  have HE3 := Lib.hid (show _ from by have := HE2.out; rw [if_neg (by simp), if_neg (by simp)] at this; exact this)
  clear HE2 hbt
  obtain ⟨UB, hUB⟩ : ∃ UB, (d.act == 5 || d.act == 6) = UB := ⟨_, rfl⟩
  have HUB := Lib.hid hUB
  obtain ⟨EB, hEB⟩ : ∃ EB, (d.act == 8 || d.act == 9) = EB := ⟨_, rfl⟩
  have HEB := Lib.hid hEB
  clear hUB hEB
  obtain ⟨c0, -, -, -, c4, -, -, -, -, -⟩ := K.cells _ HB3.out
  go_upto_region 9 with (fail)
  go_cut [80] from 73 to 81 (fun s u => s = .bool UB ∧ Below wb.heap.size wb u)
  case first =>
    by_cases h5 : d.act = 5
    · have HV : Hid (true = UB) := Lib.hid (by rw [← HUB.out, h5]; rfl)
      rw [h5] at c0
      have Hh5 := Lib.hid h5
      clear h5
      go_wp2_with fail
      all_goals (go_meet; refine ⟨?_, HB3.out⟩; first | (rw [← HV.out]; done) | (rw [← HV.out]; simp <;> omega))
    · by_cases h6 : d.act = 6
      · have HV : Hid (true = UB) := Lib.hid (by rw [← HUB.out, h6]; rfl)
        clear h5
        rw [h6] at c0
        have Hh6 := Lib.hid h6
        clear h6
        go_wp2_with fail
        all_goals (go_meet; refine ⟨?_, HB3.out⟩; first | (rw [← HV.out]; done) | (rw [← HV.out]; simp <;> omega))
      · have HV : Hid (false = UB) := Lib.hid (by rw [← HUB.out, nbeq h5, nbeq h6]; rfl)
        have h5b := nbeq h5
        have h5n := nbne h5
        have h6b := nbeq h6
        have h6n := nbne h6
        go_wp2_with fail
        all_goals (go_meet; refine ⟨?_, HB3.out⟩; first | (rw [← HV.out]; done) | (rw [← HV.out]; simp <;> omega))
  obtain ⟨rfl, hb⟩ := hcut
  have HB4 := Lib.hid hb
  clear hb c0 c4
  obtain ⟨c0, -, -, -, c4, -, -, -, -, -⟩ := K.cells _ HB4.out
  go_upto_if 80 with (fail)
  go_cut [4] from 81 to 89 (fun s u => s = .bool U ∧ Below wb.heap.size wb u)
  case first =>
    cases UB with
    | true =>
      go_wp2_with fail
      all_goals (go_meet; refine ⟨?_, HB4.out⟩)
      all_goals (congr 1; rw [← HU.out]; unfold cntB; rw [isA_2, HUB.out, if_pos rfl, Bool.eq_iff_iff]; simp only [Bool.and_eq_true, decide_eq_true_eq, Bool.false_eq_true, false_iff]; omega)
    | false =>
      go_wp2_with fail
      all_goals (go_meet; refine ⟨?_, HB4.out⟩)
      all_goals (congr 1; rw [← HU.out]; unfold cntB; rw [isA_2, HUB.out, if_neg (by simp), Bool.eq_iff_iff]; simp only [beq_iff_eq, decide_eq_true_eq])
  obtain ⟨rfl, hb⟩ := hcut
  have HB5 := Lib.hid hb
  clear hb c0 c4
  obtain ⟨c0, -, -, -, -, c5, -, -, -, -⟩ := K.cells _ HB5.out
  go_upto_region 11 with (fail)
  go_cut [5] from 89 to 107 (fun s u => s = .bool H ∧ Below wb.heap.size wb u)
  case first =>
    by_cases z0 : d.how = 0
    · have HV : Hid (true = H) := Lib.hid (by rw [← HH.out]; exact cnt_tt z0 (by omega) (by omega))
      rw [z0] at c5
      have Hz0 := Lib.hid z0
      clear z0
      go_wp2_with fail
      all_goals (go_meet; refine ⟨?_, HB5.out⟩; first | (rw [← HV.out]; done) | (rw [← HV.out]; simp <;> omega))
    have z0b := nbeq z0
    have z0n := nbne z0
    by_cases h5 : d.act = 5
    · have ha : isA d [5] = true := by rw [isA_1, h5]; rfl
      by_cases z1 : d.how = 1
      · have HV : Hid (true = H) := Lib.hid (by rw [← HH.out]; exact cnt_t ha (by omega))
        clear ha z0 z0b z0n
        rw [h5] at c0
        have Hh5 := Lib.hid h5
        clear h5
        rw [z1] at c5
        have Hz1 := Lib.hid z1
        clear z1
        go_wp2_with fail
        all_goals (go_meet; refine ⟨?_, HB5.out⟩; first | (rw [← HV.out]; done) | (rw [← HV.out]; simp <;> omega))
      by_cases z2 : d.how = 2
      · have HV : Hid (true = H) := Lib.hid (by rw [← HH.out]; exact cnt_t ha (by omega))
        clear ha z0 z0b z0n z1
        rw [h5] at c0
        have Hh5 := Lib.hid h5
        clear h5
        rw [z2] at c5
        have Hz2 := Lib.hid z2
        clear z2
        go_wp2_with fail
        all_goals (go_meet; refine ⟨?_, HB5.out⟩; first | (rw [← HV.out]; done) | (rw [← HV.out]; simp <;> omega))
      have HV : Hid (false = H) := Lib.hid (by rw [← HH.out]; exact cnt_f ha (by omega))
      clear ha
      have z1b := nbeq z1
      have z1n := nbne z1
      have z2b := nbeq z2
      have z2n := nbne z2
      rw [h5] at c0
      have Hh5 := Lib.hid h5
      clear h5
      go_wp2_with fail
      all_goals (go_meet; refine ⟨?_, HB5.out⟩; first | (rw [← HV.out]; done) | (rw [← HV.out]; simp <;> omega))
    · have HV : Hid (false = H) := Lib.hid (by rw [← HH.out]; exact cnt_f0 (by rw [isA_1]; exact nbeq h5) z0)
      have h5b := nbeq h5
      have h5n := nbne h5
      go_wp2_with fail
      all_goals (go_meet; refine ⟨?_, HB5.out⟩; first | (rw [← HV.out]; done) | (rw [← HV.out]; simp <;> omega))
  obtain ⟨rfl, hb⟩ := hcut
  have HB6 := Lib.hid hb
  clear hb c0 c5
  obtain ⟨c0, -, -, -, -, -, c6, -, -, -⟩ := K.cells _ HB6.out
  go_upto_region 12 with (fail)
  go_cut [6] from 107 to 125 (fun s u => s = .bool FL ∧ Below wb.heap.size wb u)
  case first =>
    by_cases z0 : (d.flags.toNat : Int) = 0
    · have HV : Hid (true = FL) := Lib.hid (by rw [← HFL.out]; exact cnt_tt z0 (by omega) (by omega))
      rw [z0] at c6
      have Hz0 := Lib.hid z0
      clear z0
      go_wp2_with fail
      all_goals (go_meet; refine ⟨?_, HB6.out⟩; first | (rw [← HV.out]; done) | (rw [← HV.out]; simp <;> omega))
    have z0b := nbeq z0
    have z0n := nbne z0
    by_cases h5 : d.act = 5
    · have ha : isA d [4, 5] = true := by rw [isA_2, h5]; rfl
      by_cases g : (d.flags.toNat : Int) < 32
      · have HV : Hid (true = FL) := Lib.hid (by rw [← HFL.out]; exact cnt_t ha (by omega))
        clear ha
        rw [h5] at c0
        have Hh5 := Lib.hid h5
        clear h5
        go_wp2_with fail
        all_goals (go_meet; refine ⟨?_, HB6.out⟩; first | (rw [← HV.out]; done) | (rw [← HV.out]; simp <;> omega))
      · have HV : Hid (false = FL) := Lib.hid (by rw [← HFL.out]; exact cnt_f ha (by omega))
        clear ha
        rw [h5] at c0
        have Hh5 := Lib.hid h5
        clear h5
        go_wp2_with fail
        all_goals (go_meet; refine ⟨?_, HB6.out⟩; first | (rw [← HV.out]; done) | (rw [← HV.out]; simp <;> omega))
    have h5b := nbeq h5
    have h5n := nbne h5
    by_cases h4 : d.act = 4
    · have ha : isA d [4, 5] = true := by rw [isA_2, h4]; rfl
      by_cases g : (d.flags.toNat : Int) < 32
      · have HV : Hid (true = FL) := Lib.hid (by rw [← HFL.out]; exact cnt_t ha (by omega))
        clear ha h5 h5b h5n
        rw [h4] at c0
        have Hh4 := Lib.hid h4
        clear h4
        go_wp2_with fail
        all_goals (go_meet; refine ⟨?_, HB6.out⟩; first | (rw [← HV.out]; done) | (rw [← HV.out]; simp <;> omega))
      · have HV : Hid (false = FL) := Lib.hid (by rw [← HFL.out]; exact cnt_f ha (by omega))
        clear ha h5 h5b h5n
        rw [h4] at c0
        have Hh4 := Lib.hid h4
        clear h4
        go_wp2_with fail
        all_goals (go_meet; refine ⟨?_, HB6.out⟩; first | (rw [← HV.out]; done) | (rw [← HV.out]; simp <;> omega))
    have HV : Hid (false = FL) := Lib.hid (by rw [← HFL.out]; exact cnt_f0 (by rw [isA_2, nbeq h4, nbeq h5]; rfl) z0)
    have h4b := nbeq h4
    have h4n := nbne h4
    go_wp2_with fail
    all_goals (go_meet; refine ⟨?_, HB6.out⟩; first | (rw [← HV.out]; done) | (rw [← HV.out]; simp <;> omega))
  obtain ⟨rfl, hb⟩ := hcut
  have HB7 := Lib.hid hb
  clear hb c0 c6
  obtain ⟨c0, -, -, -, -, -, -, c7, -, -⟩ := K.cells _ HB7.out
  go_upto_region 13 with (fail)
  go_cut [7] from 125 to 143 (fun s u => s = .bool SH ∧ Below wb.heap.size wb u)
  case first =>
    by_cases z0 : d.shard = 0
    · have HV : Hid (true = SH) := Lib.hid (by rw [← HSH.out]; exact cnt_tt z0 (by omega) (by omega))
      rw [z0] at c7
      have Hz0 := Lib.hid z0
      clear z0
      go_wp2_with fail
      all_goals (go_meet; refine ⟨?_, HB7.out⟩; first | (rw [← HV.out]; done) | (rw [← HV.out]; simp <;> omega))
    have z0b := nbeq z0
    have z0n := nbne z0
    by_cases h9 : d.act = 9
    · have ha : isA d [9] = true := by rw [isA_1, h9]; rfl
      by_cases g : 0 < d.shard
      · by_cases g2 : d.shard < 4
        · have HV : Hid (true = SH) := Lib.hid (by rw [← HSH.out]; exact cnt_t ha (by omega))
          clear ha
          rw [h9] at c0
          have Hh9 := Lib.hid h9
          clear h9
          go_wp2_with fail
          all_goals (go_meet; refine ⟨?_, HB7.out⟩; first | (rw [← HV.out]; done) | (rw [← HV.out]; simp <;> omega))
        · have HV : Hid (false = SH) := Lib.hid (by rw [← HSH.out]; exact cnt_f ha (by omega))
          clear ha
          rw [h9] at c0
          have Hh9 := Lib.hid h9
          clear h9
          go_wp2_with fail
          all_goals (go_meet; refine ⟨?_, HB7.out⟩; first | (rw [← HV.out]; done) | (rw [← HV.out]; simp <;> omega))
      · have HV : Hid (false = SH) := Lib.hid (by rw [← HSH.out]; exact cnt_f ha (by omega))
        clear ha
        rw [h9] at c0
        have Hh9 := Lib.hid h9
        clear h9
        go_wp2_with fail
        all_goals (go_meet; refine ⟨?_, HB7.out⟩; first | (rw [← HV.out]; done) | (rw [← HV.out]; simp <;> omega))
    · have HV : Hid (false = SH) := Lib.hid (by rw [← HSH.out]; exact cnt_f0 (by rw [isA_1]; exact nbeq h9) z0)
      have h9b := nbeq h9
      have h9n := nbne h9
      go_wp2_with fail
      all_goals (go_meet; refine ⟨?_, HB7.out⟩; first | (rw [← HV.out]; done) | (rw [← HV.out]; simp <;> omega))
  obtain ⟨rfl, hb⟩ := hcut
  have HB8 := Lib.hid hb
  clear hb c0 c7
  obtain ⟨c0, -, -, -, -, -, -, -, c8, -⟩ := K.cells _ HB8.out
  go_upto_region 15 with (fail)
  go_cut [153] from 146 to 154 (fun s u => s = .bool EB ∧ Below wb.heap.size wb u)
  case first =>
    by_cases h8 : d.act = 8
    · have HV : Hid (true = EB) := Lib.hid (by rw [← HEB.out, h8]; rfl)
      rw [h8] at c0
      have Hh8 := Lib.hid h8
      clear h8
      go_wp2_with fail
      all_goals (go_meet; refine ⟨?_, HB8.out⟩; first | (rw [← HV.out]; done) | (rw [← HV.out]; simp <;> omega))
    · by_cases h9 : d.act = 9
      · have HV : Hid (true = EB) := Lib.hid (by rw [← HEB.out, h9]; rfl)
        clear h8
        rw [h9] at c0
        have Hh9 := Lib.hid h9
        clear h9
        go_wp2_with fail
        all_goals (go_meet; refine ⟨?_, HB8.out⟩; first | (rw [← HV.out]; done) | (rw [← HV.out]; simp <;> omega))
      · have HV : Hid (false = EB) := Lib.hid (by rw [← HEB.out, nbeq h8, nbeq h9]; rfl)
        have h8b := nbeq h8
        have h8n := nbne h8
        have h9b := nbeq h9
        have h9n := nbne h9
        go_wp2_with fail
        all_goals (go_meet; refine ⟨?_, HB8.out⟩; first | (rw [← HV.out]; done) | (rw [← HV.out]; simp <;> omega))
  obtain ⟨rfl, hb⟩ := hcut
  have HB9 := Lib.hid hb
  clear hb c0 c8
  obtain ⟨c0, -, -, -, -, -, -, -, c8, -⟩ := K.cells _ HB9.out
  go_upto_if 153 with (fail)
  go_cut [8] from 154 to 162 (fun s u => s = .bool EP ∧ Below wb.heap.size wb u)
  case first =>
    cases EB with
    | true =>
      go_wp2_with fail
      all_goals (go_meet; refine ⟨?_, HB9.out⟩)
      all_goals (congr 1; rw [← HEP.out]; unfold cntB; rw [isA_2, HEB.out, if_pos rfl, Bool.eq_iff_iff]; simp only [Bool.and_eq_true, decide_eq_true_eq, Bool.false_eq_true, false_iff]; omega)
    | false =>
      go_wp2_with fail
      all_goals (go_meet; refine ⟨?_, HB9.out⟩)
      all_goals (congr 1; rw [← HEP.out]; unfold cntB; rw [isA_2, HEB.out, if_neg (by simp), Bool.eq_iff_iff]; simp only [beq_iff_eq, decide_eq_true_eq])
  obtain ⟨rfl, hb⟩ := hcut
  have HB10 := Lib.hid hb
  clear hb c0 c8
  clear HB3 HU HH HFL HSH HEP HUB HEB
  go_upto_region 17 with (fail)
  go_cut [179] from 162 to 180 (fun s u => s = .bool (!(U && H && FL && SH && EP)) ∧ Below wb.heap.size wb u)
  case first =>
    cases U with
    | false => go_wp2_with fail; go_meet; exact ⟨by simp, HB10.out⟩
    | true =>
    cases H with
    | false => go_wp2_with fail; go_meet; exact ⟨by simp, HB10.out⟩
    | true =>
    cases FL with
    | false => go_wp2_with fail; go_meet; exact ⟨by simp, HB10.out⟩
    | true =>
    cases SH with
    | false => go_wp2_with fail; go_meet; exact ⟨by simp, HB10.out⟩
    | true =>
    cases EP with
    | false => go_wp2_with fail; go_meet; exact ⟨by simp, HB10.out⟩
    | true => go_wp2_with fail; go_meet; exact ⟨by simp, HB10.out⟩
  obtain ⟨rfl, hb⟩ := hcut
  have HB11 := Lib.hid hb
  clear hb HB10
  by_cases hbad : (U && H && FL && SH && EP) = false
  · have HX : Hid (2 = E) := Lib.hid (by
      have h := HE3.out
      cases U with
      | false => rwa [if_pos rfl] at h
      | true =>
      rw [if_neg (by simp)] at h
      cases H with
      | false => rwa [if_pos rfl] at h
      | true =>
      rw [if_neg (by simp)] at h
      cases FL with
      | false => rwa [if_pos rfl] at h
      | true =>
      rw [if_neg (by simp)] at h
      cases SH with
      | false => rwa [if_pos rfl] at h
      | true =>
      rw [if_neg (by simp)] at h
      cases EP with
      | false => rwa [if_pos rfl] at h
      | true => cases hbad)
    have HF := Lib.hid (K.fin _ HB11.out)
    rw [hbad]
    clear HE3 hbad
    go_wp2
    go_ret
    exact ⟨ret_int1 HX.out, HF.out⟩
  obtain ⟨rfl, rfl, rfl, rfl, rfl⟩ := five_true hbad
  have HE4 := Lib.hid (show _ from by have := HE3.out; rw [if_neg (by simp), if_neg (by simp), if_neg (by simp), if_neg (by simp), if_neg (by simp)] at this; exact this)
  clear HE3 hbad
  obtain ⟨c0, c1, -, -, -, -, -, -, -, c9⟩ := K.cells _ HB11.out
  by_cases h4 : d.act = 4
  · have e1 : isA d [4] = true := by rw [isA_1, h4]; rfl
    have e2 : isA d [4, 8] = true := by rw [isA_2, h4]; rfl
    have e3 : isA d [8] = false := by rw [isA_1, h4]; rfl
    have h := HE4.out
    rw [e1, e2, e3] at h
    have HF := Lib.hid (K.fin _ HB11.out)
    rw [h4] at c0
    clear h4 e1 e2 e3 HE4 HB11
    by_cases hl6 : (600 : Int) < (d.bytes.length : Int)
    · have HX : Hid (6 = E) := Lib.hid (by rw [← h, if_pos (by rw [decide_eq_true hl6]; rfl)])
      clear h
      go_wp2
      go_ret
      exact ⟨ret_int1 HX.out, HF.out⟩
    · have HX : Hid (0 = E) := Lib.hid (by rw [← h, if_neg (by rw [decide_eq_false hl6]; simp), if_neg (by simp), if_neg (by simp)])
      clear h
      go_wp2
      go_ret
      exact ⟨ret_int1 HX.out, HF.out⟩
  have e1 : isA d [4] = false := by rw [isA_1]; simpa using h4
  have h41 : (d.act == 4) = false := by rw [beq_eq_false_iff_ne]; exact h4
  have h42 : (d.act != 4) = true := by rw [bne_iff_ne]; exact h4
  by_cases h8 : d.act = 8
  · have e2 : isA d [4, 8] = true := by rw [isA_2, h8]; rfl
    have e3 : isA d [8] = true := by rw [isA_1, h8]; rfl
    have h := HE4.out
    rw [e1, e2, e3, if_neg (by simp), if_neg (by simp), if_pos rfl] at h
    have HCE := Lib.hid h
    have HKT := Lib.hid (K.hk _ HB11.out)
    rw [h8] at c0
    clear h4 e1 e2 e3 HE4 h41 h42 h h8
    go_wp2_with fail
    refine HKT.out.mono ?_
    rintro e w12 ⟨hb12, hor⟩
    have hbb : Below wb.heap.size wb w12 := HB11.out.trans (hb12.mono HB11.out.size)
    have HBB := Lib.hid hbb
    clear hb12 HKT c0 c1 c9
    rcases hor with ⟨hk, rfl⟩ | ⟨hk, u, bs, lv, hu, hm, hbs, rfl⟩
    · have HX : Hid (takeUE d.bytes = E) := Lib.hid (by rw [← HCE.out, ckEntry_bad hk])
      have hk2 : (takeUE d.bytes == 0) = false := by rw [beq_eq_false_iff_ne]; exact hk
      have hk3 : (takeUE d.bytes != 0) = true := by rw [bne_iff_ne]; exact hk
      have HF : Hid (Below w.heap.size w (w12.alloc (.cells #[.string ⟨#[]⟩, .int .i64 0, .slice none 0 0] 43))) := Lib.hid ((K.fin _ hbb).alloc (K.fin _ hbb).size _)
      generalize takeUE d.bytes = KU at *
      clear hk HCE hbb
      go_wp2
      go_ret
      exact ⟨ret_int1 HX.out, HF.out⟩
    · have hce := HCE.out
      rw [ckEntry_ok hk hu] at hce
      have HCE2 := Lib.hid hce
      obtain ⟨la, lc, rfl, _⟩ := owns_shape hbs.own
      have HF : Hid (Below w.heap.size w (w12.alloc (.cells #[.string u.name, .int .i64 u.valid, .slice la bs.length lc] 43))) := Lib.hid ((K.fin _ hbb).alloc (K.fin _ hbb).size _)
      obtain ⟨-, c1, -, -, -, -, -, -, -, -⟩ := K.cells _ hbb
      have hNl := (Array.getElem?_eq_some_iff.1 (K.row _ hbb)).1
      clear hk hu hm hbs HCE hbb hce
      cases hn : (u.name.toList == d.user.toList) with
      | true =>
        have HX : Hid (0 = E) := Lib.hid (by rw [← HCE2.out, hn, if_pos rfl])
        clear HCE2
        go_wp2
        go_ret
        exact ⟨ret_int1 HX.out, HF.out⟩
      | false =>
        have HX : Hid (4 = E) := Lib.hid (by rw [← HCE2.out, hn, if_neg (by simp)])
        clear HCE2
        go_wp2
        go_ret
        exact ⟨ret_int1 HX.out, HF.out⟩
  · have e2 : isA d [4, 8] = false := by rw [isA_2]; simp [h4, h8]
    have e3 : isA d [8] = false := by rw [isA_1]; simpa using h8
    have h81 : (d.act == 8) = false := by rw [beq_eq_false_iff_ne]; exact h8
    have h := HE4.out
    rw [e1, e2, e3] at h
    have HF := Lib.hid (K.fin _ HB11.out)
    clear h4 h8 e1 e2 e3 HE4 HB11
    by_cases hl0 : (0 : Int) < (d.bytes.length : Int)
    · have HX : Hid (2 = E) := Lib.hid (by rw [← h, if_neg (by simp), if_pos (by rw [decide_eq_true hl0]; rfl)])
      clear h
      go_wp2
      go_ret
      exact ⟨ret_int1 HX.out, HF.out⟩
    · have HX : Hid (0 = E) := Lib.hid (by rw [← h, if_neg (by simp), if_neg (by rw [decide_eq_false hl0]; simp), if_neg (by simp)])
      clear h
      go_wp2
      go_ret
      exact ⟨ret_int1 HX.out, HF.out⟩
end Go.Proofs.YtjljbnilckkjnaaDoor
