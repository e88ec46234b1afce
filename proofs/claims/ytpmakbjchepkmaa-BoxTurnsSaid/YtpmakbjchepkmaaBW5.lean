/- Box: the document's Flag, where it lays flags. -/
import Derived.Test.YtpmakbjchepkmaaBW3
namespace Go.Proofs.Ytpmakbjchepkmaa
open Go Go.RowKit

set_option maxHeartbeats 4000000 in
set_option maxRecDepth 100000 in
theorem rflag_good0 (name : ByteArray) (valid next : Int) (sv : Value) (ps : List LV) (u : Int) (flags : UInt8) (w : World) (h : Lets w sv ps) (hck0 : chk valid next (ps.map (·.1)) = 0) (hf31 : flags.toNat < 32) :
    Calls Try.prog 19 #[boxV name valid next sv, .int .i64 u, .int .i64 ((0 : Nat) : Int), .int .u8 (flags.toNat : Int)] w (TurnR w (flagE valid next (ps.map (·.1)) u ((0 : Nat) : Int) flags) name valid next (flagL (ps.map (·.1)) u ((0 : Nat) : Int) flags)) := by
  have hb0 : Below w.heap.size w ((w.alloc (.cells #[.string name, .int .i64 valid, .int .i64 next, sv] 24)).alloc (.cells #[.string ⟨#[]⟩, .int .i64 0, .int .i64 0, .slice none 0 0] 24)) := ((Below.refl _ w).alloc (Nat.le_refl _) _).alloc (by simp) _
  have h0 := h.below hb0
  have hBx : BoxW ((w.alloc (.cells #[.string name, .int .i64 valid, .int .i64 next, sv] 24)).alloc (.cells #[.string ⟨#[]⟩, .int .i64 0, .int .i64 0, .slice none 0 0] 24)) w.heap.size name valid next sv :=
    (BoxW.new w name valid next sv 24).below ((Below.refl _ _).alloc (Nat.le_refl _) _) (by simp)
  have hBr : BoxW ((w.alloc (.cells #[.string name, .int .i64 valid, .int .i64 next, sv] 24)).alloc (.cells #[.string ⟨#[]⟩, .int .i64 0, .int .i64 0, .slice none 0 0] 24)) (w.heap.size + 1) ⟨#[]⟩ 0 0 (.slice none 0 0) := by
    have := BoxW.new (w.alloc (.cells #[.string name, .int .i64 valid, .int .i64 next, sv] 24)) ⟨#[]⟩ 0 0 (.slice none 0 0) 24
    simpa using this
  have hsz0 : ((w.alloc (.cells #[.string name, .int .i64 valid, .int .i64 next, sv] 24)).alloc (.cells #[.string ⟨#[]⟩, .int .i64 0, .int .i64 0, .slice none 0 0] 24)).heap.size = w.heap.size + 2 := by simp
  obtain ⟨_, _, h32, hright⟩ := chk_ok hck0
  rw [List.length_map] at h32
  have hlen : ps.length ≤ 9223372036854775807 := by omega
  have hck := refCheck name valid next sv ps _ h0 hlen
  rw [hck0] at hck
  have hX : flagE valid next (ps.map (·.1)) u ((0 : Nat) : Int) flags = if findU (ps.map (·.1)) u = (ps.map (·.1)).length then 9 else 0 := by
    unfold flagE
    rw [if_neg (by simp [hck0]), if_neg (by omega)]
  have HLT := Lib.hid (fun q (hq : q ∈ ps) g (hg : q.2.ownBlock = some g) (hn : q.1.bytes ≠ []) => (h.bytes q hq).lt g hg hn)
  have HRI := Lib.hid hright
  generalize hXE : flagE valid next (ps.map (·.1)) u ((0 : Nat) : Int) flags = X
  rw [hXE] at hX
  generalize hLE : flagL (ps.map (·.1)) u ((0 : Nat) : Int) flags = LL
  have HXX := Lib.hid hX
  have HLE := Lib.hid hLE
  clear hXE hLE
  have hfl : ¬ (31 : Int) < (flags.toNat : Int) := by omega
  obtain ⟨sa, sc, hsv, g1, o1, hg1, hc1⟩ := h.opened
  subst hsv
  unfold boxV at hck ⊢
  have HCK := Lib.hid hck
  have HBX := Lib.hid hBx
  have HBR := Lib.hid hBr
  have HB0 := Lib.hid hb0
  have HSZ := Lib.hid hsz0
  have HL := Lib.hid h
  have HC1 := Lib.hid hc1
  have HG1 := Lib.hid hg1
  have HF31 := Lib.hid hf31
  clear hck hBx hBr hb0 hsz0 h0 h hX hck0 hc1 hg1 hright hf31
  go_enter Try.func19, Try.ntmps19
  go_wp2_with fail
  refine HCK.out.mono ?_
  rintro e w1 ⟨rfl, hb1⟩
  have hB1 := HBX.out.below hb1 (by rw [HSZ.out]; omega)
  have hR1 := HBR.out.below hb1 (by rw [HSZ.out]; omega)
  have hbb := HB0.out.trans (hb1.mono HB0.out.size)
  have hz1 : w.heap.size + 2 ≤ w1.heap.size := by have := hb1.size; rw [HSZ.out] at this; exact this
  have HB1 := Lib.hid hB1
  have HR1 := Lib.hid hR1
  have HBB := Lib.hid hbb
  obtain ⟨c0, c1, c2, c3, f0, f1, f2, f3⟩ := hB1
  clear hb1 hbb hR1 HB0 HBX HBR HCK HSZ
  go_wp2_with fail
  clear c0 c1 c2 c3 f0 f1 f2 f3
  go_loopw [11] (fun i wr => ∃ k : Nat, k ≤ ps.length ∧ i = .int .i64 k ∧ (∀ q ∈ ps.take k, q.1.uid ≠ u) ∧ Below w1.heap.size w1 wr) (fun i _ => ps.length - (intOf i).toNat)
  case atStart => exact ⟨0, Nat.zero_le _, rfl, by simp, Below.refl _ _⟩
  case round =>
    obtain ⟨k, hk, rfl, hno, hb⟩ := hrel
    have HNO := Lib.hid hno
    have hbw := HBB.out.trans (hb.mono HBB.out.size)
    obtain ⟨c0, c1, c2, c3, f0, f1, f2, f3⟩ := HB1.out.below hb HB1.out.lt
    have HR2 := Lib.hid (HR1.out.below hb HR1.out.lt)
    have HBW := Lib.hid hbw
    have hz2 : w1.heap.size ≤ wr.heap.size := hb.size
    clear hno
    by_cases hlt : k < ps.length
    · have hpk := List.getElem?_eq_getElem hlt
      generalize ps[k] = q at hpk
      have hne : ps ≠ [] := fun e => by subst e; simp at hlt
      obtain ⟨rfl, hgl⟩ := HG1.out hne
      obtain ⟨p0, p1, p2⟩ := HC1.out k _ hpk
      have m0 := (hbw.cell (p := ⟨g1, o1 + k * 3, none⟩) hgl).trans p0
      have m1 := (hbw.cell (p := ⟨g1, o1 + k * 3 + 1, none⟩) hgl).trans p1
      have m2 := (hbw.cell (p := ⟨g1, o1 + k * 3 + 2, none⟩) hgl).trans p2
      have hk1 : (k : Int) < (ps.length : Int) := by omega
      have HQ := Lib.hid (show Byz wr q.2 q.1.bytes from (HL.out.bytes _ (List.mem_of_getElem? hpk)).below hbw)
      have HPK := Lib.hid hpk
      have HFX := Lib.hid (HRI.out.flags q.1 (List.mem_map.2 ⟨q, List.mem_of_getElem? hpk, rfl⟩))
      obtain ⟨⟨qu, qf, qb⟩, qv⟩ := q
      obtain ⟨⟨qa, qc, hqv⟩, _⟩ := id HQ.out
      simp only at m0 m1 m2 hqv
      subst hqv
      have hy3 : Below wr.heap.size wr (wr.alloc (.cells #[.int .i64 qu, .int .u8 (qf.toNat : Int), .slice qa qb.length qc] 44)) := (Below.refl _ _).alloc (Nat.le_refl _) _
      obtain ⟨W3, hW3⟩ : ∃ W3, W3 = wr.alloc (.cells #[.int .i64 qu, .int .u8 (qf.toNat : Int), .slice qa qb.length qc] 44) := ⟨_, rfl⟩
      have l0 : W3.cell? ⟨wr.heap.size, 0, none⟩ = some (.int .i64 qu) := by rw [hW3, cell_of_row _ _ _ _ _ _ (heap_alloc_last wr _)]; rfl
      have l1 : W3.cell? ⟨wr.heap.size, 1, none⟩ = some (.int .u8 (qf.toNat : Int)) := by rw [hW3, cell_of_row _ _ _ _ _ _ (heap_alloc_last wr _)]; rfl
      have l3 : W3.frozen? ⟨wr.heap.size, 1, none⟩ = false := by rw [hW3]; exact World.frozen?_alloc_new _ _ _ _
      have l2 : W3.cell? ⟨wr.heap.size, 2, none⟩ = some (.slice qa qb.length qc) := by rw [hW3, cell_of_row _ _ _ _ _ _ (heap_alloc_last wr _)]; rfl
      rw [← hW3] at hy3
      have HW3 := Lib.hid hW3
      have HY3 := Lib.hid hy3
      clear p0 p1 p2 hpk hne hW3 hy3
      by_cases hu : qu = u
      · have hu' : (qu != u) = false := by simpa using hu
        have HU := Lib.hid hu
        clear hu
        go_wp2_with (first | rw [← HW3.out])
        go_loop [13, 14] (fun is bit => ∃ j : Nat, j ≤ 5 ∧ is = .int .u8 (bitsL 0 qf.toNat flags.toNat j : Nat) ∧ bit = .int .u8 ((2 ^ j : Nat) : Int)) (fun _ bit => 64 - (intOf bit).toNat)
        case atStart => exact ⟨0, by omega, rfl, rfl⟩
        case round =>
          obtain ⟨j, hj, rfl, rfl⟩ := hrel
          have hcase : j = 0 ∨ j = 1 ∨ j = 2 ∨ j = 3 ∨ j = 4 ∨ j = 5 := by omega
          rcases hcase with rfl | rfl | rfl | rfl | rfl | rfl
          · simp only [Nat.reducePow]
            go_wp2
            all_goals
              go_round
              case rel =>
                refine ⟨1, by omega, ?_, rfl⟩
                first
                  | (refine bit_keep (j := 0) (b := 1) rfl ?_; (simp [bitL] <;> omega))
                  | (refine bit_add (j := 0) (b := 1) rfl (by decide) ?_; (simp [bitL] <;> omega))
                  | (exfalso; simp only [beq_iff_eq] at *; omega)
              case measure => simp [intOf]
          · simp only [Nat.reducePow]
            go_wp2
            all_goals
              go_round
              case rel =>
                refine ⟨2, by omega, ?_, rfl⟩
                first
                  | (refine bit_keep (j := 1) (b := 2) rfl ?_; (simp [bitL] <;> omega))
                  | (refine bit_add (j := 1) (b := 2) rfl (by decide) ?_; (simp [bitL] <;> omega))
                  | (exfalso; simp only [beq_iff_eq] at *; omega)
              case measure => simp [intOf]
          · simp only [Nat.reducePow]
            go_wp2
            all_goals
              go_round
              case rel =>
                refine ⟨3, by omega, ?_, rfl⟩
                first
                  | (refine bit_keep (j := 2) (b := 4) rfl ?_; (simp [bitL] <;> omega))
                  | (refine bit_add (j := 2) (b := 4) rfl (by decide) ?_; (simp [bitL] <;> omega))
                  | (exfalso; simp only [beq_iff_eq] at *; omega)
              case measure => simp [intOf]
          · simp only [Nat.reducePow]
            go_wp2
            all_goals
              go_round
              case rel =>
                refine ⟨4, by omega, ?_, rfl⟩
                first
                  | (refine bit_keep (j := 3) (b := 8) rfl ?_; (simp [bitL] <;> omega))
                  | (refine bit_add (j := 3) (b := 8) rfl (by decide) ?_; (simp [bitL] <;> omega))
                  | (exfalso; simp only [beq_iff_eq] at *; omega)
              case measure => simp [intOf]
          · simp only [Nat.reducePow]
            go_wp2
            all_goals
              go_round
              case rel =>
                refine ⟨5, by omega, ?_, rfl⟩
                first
                  | (refine bit_keep (j := 4) (b := 16) rfl ?_; (simp [bitL] <;> omega))
                  | (refine bit_add (j := 4) (b := 16) rfl (by decide) ?_; (simp [bitL] <;> omega))
                  | (exfalso; simp only [beq_iff_eq] at *; omega)
              case measure => simp [intOf]
          · have hput := putU_flag (u := u) (how := ((0 : Nat) : Int)) (flags := flags) (bv := .slice qa qb.length qc) HRI.out.rise HPK.out HU.out
            rw [lay_bits (how := 0) (by omega) qf flags HFX.out HF31.out]
            simp only [Nat.reducePow]
            simp only at hput
            generalize layF ((0 : Nat) : Int) qf flags = F at hput ⊢
            have HPUT := Lib.hid hput
            have hy4 : Below wr.heap.size wr (W3.setCell ⟨wr.heap.size, 1, none⟩ (.int .u8 (F.toNat : Int))) := HY3.out.setCell (Nat.le_refl _) _
            obtain ⟨W4, hW4⟩ : ∃ W4, W4 = W3.setCell ⟨wr.heap.size, 1, none⟩ (.int .u8 (F.toNat : Int)) := ⟨_, rfl⟩
            have n0 : W4.cell? ⟨wr.heap.size, 0, none⟩ = some (.int .i64 qu) := by rw [hW4]; exact (World.cell?_setCell_other _ _ _ _ (by simp)).trans l0
            have n1 : W4.cell? ⟨wr.heap.size, 1, none⟩ = some (.int .u8 (F.toNat : Int)) := by rw [hW4]; exact World.cell?_setCell_same _ _ _ l1
            have n2 : W4.cell? ⟨wr.heap.size, 2, none⟩ = some (.slice qa qb.length qc) := by rw [hW4]; exact (World.cell?_setCell_other _ _ _ _ (by simp)).trans l2
            rw [← hW4] at hy4
            have hy5 := chain_alloc (.cells #[.int .i64 qu, .int .u8 (F.toNat : Int), .slice qa qb.length qc] 44) hy4
            have hlit := lit_letter W4 ⟨qu, F, qb⟩ (.slice qa qb.length qc) (HQ.out.below hy5)
            have hlw := HBW.out.trans (hy5.mono HBW.out.size)
            have HWI := Lib.hid (with_any name valid next (.slice (some ⟨g1, o1, none⟩) ps.length sc) _ ps [((⟨qu, F, qb⟩ : Letr), Value.slice qa qb.length qc)] u _ (HL.out.below hlw) hlit (by omega) (by simp))
            have b4 := HB1.out.below (hb.trans (hy4.mono hb.size)) HB1.out.lt
            have HR5 := Lib.hid (HR2.out.below hy5 HR2.out.lt)
            have HLW := Lib.hid hlw
            have hsz5 : (W4.alloc (.cells #[.int .i64 qu, .int .u8 (F.toNat : Int), .slice qa qb.length qc] 44)).heap.size = W4.heap.size + 1 := World.size_alloc ..
            have HS5 := Lib.hid (show w.heap.size + 1 < W4.heap.size ∧ w.heap.size ≤ W4.heap.size from ⟨by have := HR2.out.lt; have := hy4.size; omega, by have := hy4.size; omega⟩)
            have HW4 := Lib.hid hW4
            unfold boxV at HWI
            obtain ⟨v0, v1, v2, v3, _⟩ := b4
            clear hput hW4 hy4 hy5 hlit hlw hsz5 hb hbw
            go_wp2_with (first | rw [← HW4.out])
            refine HWI.out.mono ?_
            rintro e w6 ⟨a, c, rfl, hl6, hb6, hg6⟩
            unfold boxV
            generalize hP : putU u [((⟨qu, F, qb⟩ : Letr), Value.slice qa qb.length qc)] ps = P at *
            obtain ⟨hq1, hq2⟩ := HPUT.out
            (try rw [hP] at hq1)
            have hy7 : Below w6.heap.size w6 (w6.alloc (.cells #[.string name, .int .i64 valid, .int .i64 next, .slice a P.length c] 24)) := (Below.refl _ w6).alloc (Nat.le_refl _) _
            have hx7 := BoxW.new w6 name valid next (.slice a P.length c) 24
            obtain ⟨W7, hW7⟩ : ∃ W7, W7 = w6.alloc (.cells #[.string name, .int .i64 valid, .int .i64 next, .slice a P.length c] 24) := ⟨_, rfl⟩
            rw [← hW7] at hy7 hx7
            have hb7 := hb6.trans (hy7.mono hb6.size)
            have hR7 := HR5.out.below hb7 HR5.out.lt
            obtain ⟨W8, hW8, hb8, hf8⟩ := hR7.put4 name valid next (.slice a P.length c)
            have hB7 := HLW.out.trans (hb7.mono HLW.out.size)
            have hl8 : Lets W8 (.slice a P.length c) P := by
              refine Lets.fr (b := w.heap.size + 1) (hl6.below hy7) ⟨fun _ e => by have := hg6 _ e; have := HS5.out; simp only [World.size_alloc] at *; omega, fun q hq hn e => ?_⟩ hf8
              rw [← hP] at hq
              rcases putU_mem hq with hq | hq
              · rw [List.mem_singleton] at hq
                subst hq
                have := HLT.out _ (List.mem_of_getElem? HPK.out) _ e hn; omega
              · have := HLT.out q hq _ e hn; omega
            have HEND := Lib.hid (show TurnR w X name valid next LL (.returned (.tuple #[.agg #[.string name, .int .i64 valid, .int .i64 next, .slice a P.length c], .int .i64 0])) W8 from by
              rw [HXX.out, if_neg hq2, ← HLE.out]
              exact ⟨hB7.trans (hf8.below hB7.size (fun k e => by omega)), fun h => absurd rfl h, fun _ => ⟨a, c, P, rfl, hl8, hq1⟩⟩)
            have HW7 := Lib.hid hW7
            have HW8 := Lib.hid hW8
            obtain ⟨k0, k1, k2, k3, _⟩ := hb8
            obtain ⟨r0, r1, r2, r3, s0, s1, s2, s3⟩ := hR7
            obtain ⟨t0, t1, t2, t3, _⟩ := hx7
            clear hP hq1 hq2 hy7 hW7 hb7 hW8 hf8 hB7 hl8 hl6 hb6 hg6 n0 n1 n2 v0 v1 v2 v3 l0 l1 l2 l3 m0 m1 m2 c0 c1 c2 c3 HWI HPUT
            go_wp2_with (first | rw [← HW7.out])
            rw [← HW8.out]
            exact bodyPost_ret (v := .tuple #[.agg #[.string name, .int .i64 valid, .int .i64 next, .slice a P.length c], .int .i64 0]) (by simp [results, Try.results19, go_sem, k0, k1, k2, k3]) rfl HEND.out
      · have hu' : (qu != u) = true := by simpa using hu
        have HU := Lib.hid hu
        clear hu
        have HY4 := Lib.hid (hb.trans (HY3.out.mono hb.size))
        clear hb hbw
        go_wp2_with (first | rw [← HW3.out])
        go_roundw
        case rel =>
          refine ⟨k + 1, by omega, by go_num, fun q hq => ?_, HY4.out⟩
          rw [List.take_add_one, HPK.out, Option.toList_some] at hq
          rcases List.mem_append.1 hq with hq | hq
          · exact HNO.out q hq
          · rw [List.mem_singleton] at hq; subst hq; exact HU.out
        case measure => simp [intOf]; omega
    · have hk2 : k = ps.length := by omega
      have hno2 := HNO.out
      rw [hk2, List.take_length] at hno2
      have hfu : findU (ps.map (·.1)) u = (ps.map (·.1)).length := by
        have h1 : findU (ps.map (·.1)) u ≤ (ps.map (·.1)).length := List.findIdx_le_length
        have h2 : ¬ findU (ps.map (·.1)) u < (ps.map (·.1)).length := fun hl => by
          obtain ⟨x, hx, hxu⟩ := List.findIdx_lt_length.1 hl
          obtain ⟨q, hq, rfl⟩ := List.mem_map.1 hx
          exact hno2 q hq (by simpa using hxu)
        omega
      obtain ⟨W4, hW4, hb4, hf4⟩ := HR2.out.put4 ⟨#[]⟩ 0 0 (.slice none 0 0)
      have HW4 := Lib.hid hW4
      have HB4 := Lib.hid (hbw.trans (hf4.below hbw.size (fun k e => by omega)))
      have HFU := Lib.hid hfu
      obtain ⟨k0, k1, k2, k3, _⟩ := hb4
      obtain ⟨r0, r1, r2, r3, s0, s1, s2, s3⟩ := HR2.out
      clear hW4 hf4 hb hbw hno2 hfu hk2
      go_wp2
      rw [← HW4.out]
      exact bodyPost_ret (v := .tuple #[boxV0, .int .i64 9]) (by simp [results, Try.results19, go_sem, k0, k1, k2, k3, boxV0, boxV]) rfl (TurnR.bad (HXX.out.trans (if_pos HFU.out)) (by decide) HB4.out)
end Go.Proofs.Ytpmakbjchepkmaa
namespace Go.Proofs.Ytpmakbjchepkmaa
open Go Go.RowKit

set_option maxHeartbeats 4000000 in
set_option maxRecDepth 100000 in
theorem rflag_good1 (name : ByteArray) (valid next : Int) (sv : Value) (ps : List LV) (u : Int) (flags : UInt8) (w : World) (h : Lets w sv ps) (hck0 : chk valid next (ps.map (·.1)) = 0) (hf31 : flags.toNat < 32) :
    Calls Try.prog 19 #[boxV name valid next sv, .int .i64 u, .int .i64 ((1 : Nat) : Int), .int .u8 (flags.toNat : Int)] w (TurnR w (flagE valid next (ps.map (·.1)) u ((1 : Nat) : Int) flags) name valid next (flagL (ps.map (·.1)) u ((1 : Nat) : Int) flags)) := by
  have hb0 : Below w.heap.size w ((w.alloc (.cells #[.string name, .int .i64 valid, .int .i64 next, sv] 24)).alloc (.cells #[.string ⟨#[]⟩, .int .i64 0, .int .i64 0, .slice none 0 0] 24)) := ((Below.refl _ w).alloc (Nat.le_refl _) _).alloc (by simp) _
  have h0 := h.below hb0
  have hBx : BoxW ((w.alloc (.cells #[.string name, .int .i64 valid, .int .i64 next, sv] 24)).alloc (.cells #[.string ⟨#[]⟩, .int .i64 0, .int .i64 0, .slice none 0 0] 24)) w.heap.size name valid next sv :=
    (BoxW.new w name valid next sv 24).below ((Below.refl _ _).alloc (Nat.le_refl _) _) (by simp)
  have hBr : BoxW ((w.alloc (.cells #[.string name, .int .i64 valid, .int .i64 next, sv] 24)).alloc (.cells #[.string ⟨#[]⟩, .int .i64 0, .int .i64 0, .slice none 0 0] 24)) (w.heap.size + 1) ⟨#[]⟩ 0 0 (.slice none 0 0) := by
    have := BoxW.new (w.alloc (.cells #[.string name, .int .i64 valid, .int .i64 next, sv] 24)) ⟨#[]⟩ 0 0 (.slice none 0 0) 24
    simpa using this
  have hsz0 : ((w.alloc (.cells #[.string name, .int .i64 valid, .int .i64 next, sv] 24)).alloc (.cells #[.string ⟨#[]⟩, .int .i64 0, .int .i64 0, .slice none 0 0] 24)).heap.size = w.heap.size + 2 := by simp
  obtain ⟨_, _, h32, hright⟩ := chk_ok hck0
  rw [List.length_map] at h32
  have hlen : ps.length ≤ 9223372036854775807 := by omega
  have hck := refCheck name valid next sv ps _ h0 hlen
  rw [hck0] at hck
  have hX : flagE valid next (ps.map (·.1)) u ((1 : Nat) : Int) flags = if findU (ps.map (·.1)) u = (ps.map (·.1)).length then 9 else 0 := by
    unfold flagE
    rw [if_neg (by simp [hck0]), if_neg (by omega)]
  have HLT := Lib.hid (fun q (hq : q ∈ ps) g (hg : q.2.ownBlock = some g) (hn : q.1.bytes ≠ []) => (h.bytes q hq).lt g hg hn)
  have HRI := Lib.hid hright
  generalize hXE : flagE valid next (ps.map (·.1)) u ((1 : Nat) : Int) flags = X
  rw [hXE] at hX
  generalize hLE : flagL (ps.map (·.1)) u ((1 : Nat) : Int) flags = LL
  have HXX := Lib.hid hX
  have HLE := Lib.hid hLE
  clear hXE hLE
  have hfl : ¬ (31 : Int) < (flags.toNat : Int) := by omega
  obtain ⟨sa, sc, hsv, g1, o1, hg1, hc1⟩ := h.opened
  subst hsv
  unfold boxV at hck ⊢
  have HCK := Lib.hid hck
  have HBX := Lib.hid hBx
  have HBR := Lib.hid hBr
  have HB0 := Lib.hid hb0
  have HSZ := Lib.hid hsz0
  have HL := Lib.hid h
  have HC1 := Lib.hid hc1
  have HG1 := Lib.hid hg1
  have HF31 := Lib.hid hf31
  clear hck hBx hBr hb0 hsz0 h0 h hX hck0 hc1 hg1 hright hf31
  go_enter Try.func19, Try.ntmps19
  go_wp2_with fail
  refine HCK.out.mono ?_
  rintro e w1 ⟨rfl, hb1⟩
  have hB1 := HBX.out.below hb1 (by rw [HSZ.out]; omega)
  have hR1 := HBR.out.below hb1 (by rw [HSZ.out]; omega)
  have hbb := HB0.out.trans (hb1.mono HB0.out.size)
  have hz1 : w.heap.size + 2 ≤ w1.heap.size := by have := hb1.size; rw [HSZ.out] at this; exact this
  have HB1 := Lib.hid hB1
  have HR1 := Lib.hid hR1
  have HBB := Lib.hid hbb
  obtain ⟨c0, c1, c2, c3, f0, f1, f2, f3⟩ := hB1
  clear hb1 hbb hR1 HB0 HBX HBR HCK HSZ
  go_wp2_with fail
  clear c0 c1 c2 c3 f0 f1 f2 f3
  go_loopw [11] (fun i wr => ∃ k : Nat, k ≤ ps.length ∧ i = .int .i64 k ∧ (∀ q ∈ ps.take k, q.1.uid ≠ u) ∧ Below w1.heap.size w1 wr) (fun i _ => ps.length - (intOf i).toNat)
  case atStart => exact ⟨0, Nat.zero_le _, rfl, by simp, Below.refl _ _⟩
  case round =>
    obtain ⟨k, hk, rfl, hno, hb⟩ := hrel
    have HNO := Lib.hid hno
    have hbw := HBB.out.trans (hb.mono HBB.out.size)
    obtain ⟨c0, c1, c2, c3, f0, f1, f2, f3⟩ := HB1.out.below hb HB1.out.lt
    have HR2 := Lib.hid (HR1.out.below hb HR1.out.lt)
    have HBW := Lib.hid hbw
    have hz2 : w1.heap.size ≤ wr.heap.size := hb.size
    clear hno
    by_cases hlt : k < ps.length
    · have hpk := List.getElem?_eq_getElem hlt
      generalize ps[k] = q at hpk
      have hne : ps ≠ [] := fun e => by subst e; simp at hlt
      obtain ⟨rfl, hgl⟩ := HG1.out hne
      obtain ⟨p0, p1, p2⟩ := HC1.out k _ hpk
      have m0 := (hbw.cell (p := ⟨g1, o1 + k * 3, none⟩) hgl).trans p0
      have m1 := (hbw.cell (p := ⟨g1, o1 + k * 3 + 1, none⟩) hgl).trans p1
      have m2 := (hbw.cell (p := ⟨g1, o1 + k * 3 + 2, none⟩) hgl).trans p2
      have hk1 : (k : Int) < (ps.length : Int) := by omega
      have HQ := Lib.hid (show Byz wr q.2 q.1.bytes from (HL.out.bytes _ (List.mem_of_getElem? hpk)).below hbw)
      have HPK := Lib.hid hpk
      have HFX := Lib.hid (HRI.out.flags q.1 (List.mem_map.2 ⟨q, List.mem_of_getElem? hpk, rfl⟩))
      obtain ⟨⟨qu, qf, qb⟩, qv⟩ := q
      obtain ⟨⟨qa, qc, hqv⟩, _⟩ := id HQ.out
      simp only at m0 m1 m2 hqv
      subst hqv
      have hy3 : Below wr.heap.size wr (wr.alloc (.cells #[.int .i64 qu, .int .u8 (qf.toNat : Int), .slice qa qb.length qc] 44)) := (Below.refl _ _).alloc (Nat.le_refl _) _
      obtain ⟨W3, hW3⟩ : ∃ W3, W3 = wr.alloc (.cells #[.int .i64 qu, .int .u8 (qf.toNat : Int), .slice qa qb.length qc] 44) := ⟨_, rfl⟩
      have l0 : W3.cell? ⟨wr.heap.size, 0, none⟩ = some (.int .i64 qu) := by rw [hW3, cell_of_row _ _ _ _ _ _ (heap_alloc_last wr _)]; rfl
      have l1 : W3.cell? ⟨wr.heap.size, 1, none⟩ = some (.int .u8 (qf.toNat : Int)) := by rw [hW3, cell_of_row _ _ _ _ _ _ (heap_alloc_last wr _)]; rfl
      have l3 : W3.frozen? ⟨wr.heap.size, 1, none⟩ = false := by rw [hW3]; exact World.frozen?_alloc_new _ _ _ _
      have l2 : W3.cell? ⟨wr.heap.size, 2, none⟩ = some (.slice qa qb.length qc) := by rw [hW3, cell_of_row _ _ _ _ _ _ (heap_alloc_last wr _)]; rfl
      rw [← hW3] at hy3
      have HW3 := Lib.hid hW3
      have HY3 := Lib.hid hy3
      clear p0 p1 p2 hpk hne hW3 hy3
      by_cases hu : qu = u
      · have hu' : (qu != u) = false := by simpa using hu
        have HU := Lib.hid hu
        clear hu
        go_wp2_with (first | rw [← HW3.out])
        go_loop [13, 14] (fun is bit => ∃ j : Nat, j ≤ 5 ∧ is = .int .u8 (bitsL 1 qf.toNat flags.toNat j : Nat) ∧ bit = .int .u8 ((2 ^ j : Nat) : Int)) (fun _ bit => 64 - (intOf bit).toNat)
        case atStart => exact ⟨0, by omega, rfl, rfl⟩
        case round =>
          obtain ⟨j, hj, rfl, rfl⟩ := hrel
          have hcase : j = 0 ∨ j = 1 ∨ j = 2 ∨ j = 3 ∨ j = 4 ∨ j = 5 := by omega
          rcases hcase with rfl | rfl | rfl | rfl | rfl | rfl
          · simp only [Nat.reducePow]
            go_wp2
            all_goals
              go_round
              case rel =>
                refine ⟨1, by omega, ?_, rfl⟩
                first
                  | (refine bit_keep (j := 0) (b := 1) rfl ?_; (simp [bitL] <;> omega))
                  | (refine bit_add (j := 0) (b := 1) rfl (by decide) ?_; (simp [bitL] <;> omega))
                  | (exfalso; simp only [beq_iff_eq] at *; omega)
              case measure => simp [intOf]
          · simp only [Nat.reducePow]
            go_wp2
            all_goals
              go_round
              case rel =>
                refine ⟨2, by omega, ?_, rfl⟩
                first
                  | (refine bit_keep (j := 1) (b := 2) rfl ?_; (simp [bitL] <;> omega))
                  | (refine bit_add (j := 1) (b := 2) rfl (by decide) ?_; (simp [bitL] <;> omega))
                  | (exfalso; simp only [beq_iff_eq] at *; omega)
              case measure => simp [intOf]
          · simp only [Nat.reducePow]
            go_wp2
            all_goals
              go_round
              case rel =>
                refine ⟨3, by omega, ?_, rfl⟩
                first
                  | (refine bit_keep (j := 2) (b := 4) rfl ?_; (simp [bitL] <;> omega))
                  | (refine bit_add (j := 2) (b := 4) rfl (by decide) ?_; (simp [bitL] <;> omega))
                  | (exfalso; simp only [beq_iff_eq] at *; omega)
              case measure => simp [intOf]
          · simp only [Nat.reducePow]
            go_wp2
            all_goals
              go_round
              case rel =>
                refine ⟨4, by omega, ?_, rfl⟩
                first
                  | (refine bit_keep (j := 3) (b := 8) rfl ?_; (simp [bitL] <;> omega))
                  | (refine bit_add (j := 3) (b := 8) rfl (by decide) ?_; (simp [bitL] <;> omega))
                  | (exfalso; simp only [beq_iff_eq] at *; omega)
              case measure => simp [intOf]
          · simp only [Nat.reducePow]
            go_wp2
            all_goals
              go_round
              case rel =>
                refine ⟨5, by omega, ?_, rfl⟩
                first
                  | (refine bit_keep (j := 4) (b := 16) rfl ?_; (simp [bitL] <;> omega))
                  | (refine bit_add (j := 4) (b := 16) rfl (by decide) ?_; (simp [bitL] <;> omega))
                  | (exfalso; simp only [beq_iff_eq] at *; omega)
              case measure => simp [intOf]
          · have hput := putU_flag (u := u) (how := ((1 : Nat) : Int)) (flags := flags) (bv := .slice qa qb.length qc) HRI.out.rise HPK.out HU.out
            rw [lay_bits (how := 1) (by omega) qf flags HFX.out HF31.out]
            simp only [Nat.reducePow]
            simp only at hput
            generalize layF ((1 : Nat) : Int) qf flags = F at hput ⊢
            have HPUT := Lib.hid hput
            have hy4 : Below wr.heap.size wr (W3.setCell ⟨wr.heap.size, 1, none⟩ (.int .u8 (F.toNat : Int))) := HY3.out.setCell (Nat.le_refl _) _
            obtain ⟨W4, hW4⟩ : ∃ W4, W4 = W3.setCell ⟨wr.heap.size, 1, none⟩ (.int .u8 (F.toNat : Int)) := ⟨_, rfl⟩
            have n0 : W4.cell? ⟨wr.heap.size, 0, none⟩ = some (.int .i64 qu) := by rw [hW4]; exact (World.cell?_setCell_other _ _ _ _ (by simp)).trans l0
            have n1 : W4.cell? ⟨wr.heap.size, 1, none⟩ = some (.int .u8 (F.toNat : Int)) := by rw [hW4]; exact World.cell?_setCell_same _ _ _ l1
            have n2 : W4.cell? ⟨wr.heap.size, 2, none⟩ = some (.slice qa qb.length qc) := by rw [hW4]; exact (World.cell?_setCell_other _ _ _ _ (by simp)).trans l2
            rw [← hW4] at hy4
            have hy5 := chain_alloc (.cells #[.int .i64 qu, .int .u8 (F.toNat : Int), .slice qa qb.length qc] 44) hy4
            have hlit := lit_letter W4 ⟨qu, F, qb⟩ (.slice qa qb.length qc) (HQ.out.below hy5)
            have hlw := HBW.out.trans (hy5.mono HBW.out.size)
            have HWI := Lib.hid (with_any name valid next (.slice (some ⟨g1, o1, none⟩) ps.length sc) _ ps [((⟨qu, F, qb⟩ : Letr), Value.slice qa qb.length qc)] u _ (HL.out.below hlw) hlit (by omega) (by simp))
            have b4 := HB1.out.below (hb.trans (hy4.mono hb.size)) HB1.out.lt
            have HR5 := Lib.hid (HR2.out.below hy5 HR2.out.lt)
            have HLW := Lib.hid hlw
            have hsz5 : (W4.alloc (.cells #[.int .i64 qu, .int .u8 (F.toNat : Int), .slice qa qb.length qc] 44)).heap.size = W4.heap.size + 1 := World.size_alloc ..
            have HS5 := Lib.hid (show w.heap.size + 1 < W4.heap.size ∧ w.heap.size ≤ W4.heap.size from ⟨by have := HR2.out.lt; have := hy4.size; omega, by have := hy4.size; omega⟩)
            have HW4 := Lib.hid hW4
            unfold boxV at HWI
            obtain ⟨v0, v1, v2, v3, _⟩ := b4
            clear hput hW4 hy4 hy5 hlit hlw hsz5 hb hbw
            go_wp2_with (first | rw [← HW4.out])
            refine HWI.out.mono ?_
            rintro e w6 ⟨a, c, rfl, hl6, hb6, hg6⟩
            unfold boxV
            generalize hP : putU u [((⟨qu, F, qb⟩ : Letr), Value.slice qa qb.length qc)] ps = P at *
            obtain ⟨hq1, hq2⟩ := HPUT.out
            (try rw [hP] at hq1)
            have hy7 : Below w6.heap.size w6 (w6.alloc (.cells #[.string name, .int .i64 valid, .int .i64 next, .slice a P.length c] 24)) := (Below.refl _ w6).alloc (Nat.le_refl _) _
            have hx7 := BoxW.new w6 name valid next (.slice a P.length c) 24
            obtain ⟨W7, hW7⟩ : ∃ W7, W7 = w6.alloc (.cells #[.string name, .int .i64 valid, .int .i64 next, .slice a P.length c] 24) := ⟨_, rfl⟩
            rw [← hW7] at hy7 hx7
            have hb7 := hb6.trans (hy7.mono hb6.size)
            have hR7 := HR5.out.below hb7 HR5.out.lt
            obtain ⟨W8, hW8, hb8, hf8⟩ := hR7.put4 name valid next (.slice a P.length c)
            have hB7 := HLW.out.trans (hb7.mono HLW.out.size)
            have hl8 : Lets W8 (.slice a P.length c) P := by
              refine Lets.fr (b := w.heap.size + 1) (hl6.below hy7) ⟨fun _ e => by have := hg6 _ e; have := HS5.out; simp only [World.size_alloc] at *; omega, fun q hq hn e => ?_⟩ hf8
              rw [← hP] at hq
              rcases putU_mem hq with hq | hq
              · rw [List.mem_singleton] at hq
                subst hq
                have := HLT.out _ (List.mem_of_getElem? HPK.out) _ e hn; omega
              · have := HLT.out q hq _ e hn; omega
            have HEND := Lib.hid (show TurnR w X name valid next LL (.returned (.tuple #[.agg #[.string name, .int .i64 valid, .int .i64 next, .slice a P.length c], .int .i64 0])) W8 from by
              rw [HXX.out, if_neg hq2, ← HLE.out]
              exact ⟨hB7.trans (hf8.below hB7.size (fun k e => by omega)), fun h => absurd rfl h, fun _ => ⟨a, c, P, rfl, hl8, hq1⟩⟩)
            have HW7 := Lib.hid hW7
            have HW8 := Lib.hid hW8
            obtain ⟨k0, k1, k2, k3, _⟩ := hb8
            obtain ⟨r0, r1, r2, r3, s0, s1, s2, s3⟩ := hR7
            obtain ⟨t0, t1, t2, t3, _⟩ := hx7
            clear hP hq1 hq2 hy7 hW7 hb7 hW8 hf8 hB7 hl8 hl6 hb6 hg6 n0 n1 n2 v0 v1 v2 v3 l0 l1 l2 l3 m0 m1 m2 c0 c1 c2 c3 HWI HPUT
            go_wp2_with (first | rw [← HW7.out])
            rw [← HW8.out]
            exact bodyPost_ret (v := .tuple #[.agg #[.string name, .int .i64 valid, .int .i64 next, .slice a P.length c], .int .i64 0]) (by simp [results, Try.results19, go_sem, k0, k1, k2, k3]) rfl HEND.out
      · have hu' : (qu != u) = true := by simpa using hu
        have HU := Lib.hid hu
        clear hu
        have HY4 := Lib.hid (hb.trans (HY3.out.mono hb.size))
        clear hb hbw
        go_wp2_with (first | rw [← HW3.out])
        go_roundw
        case rel =>
          refine ⟨k + 1, by omega, by go_num, fun q hq => ?_, HY4.out⟩
          rw [List.take_add_one, HPK.out, Option.toList_some] at hq
          rcases List.mem_append.1 hq with hq | hq
          · exact HNO.out q hq
          · rw [List.mem_singleton] at hq; subst hq; exact HU.out
        case measure => simp [intOf]; omega
    · have hk2 : k = ps.length := by omega
      have hno2 := HNO.out
      rw [hk2, List.take_length] at hno2
      have hfu : findU (ps.map (·.1)) u = (ps.map (·.1)).length := by
        have h1 : findU (ps.map (·.1)) u ≤ (ps.map (·.1)).length := List.findIdx_le_length
        have h2 : ¬ findU (ps.map (·.1)) u < (ps.map (·.1)).length := fun hl => by
          obtain ⟨x, hx, hxu⟩ := List.findIdx_lt_length.1 hl
          obtain ⟨q, hq, rfl⟩ := List.mem_map.1 hx
          exact hno2 q hq (by simpa using hxu)
        omega
      obtain ⟨W4, hW4, hb4, hf4⟩ := HR2.out.put4 ⟨#[]⟩ 0 0 (.slice none 0 0)
      have HW4 := Lib.hid hW4
      have HB4 := Lib.hid (hbw.trans (hf4.below hbw.size (fun k e => by omega)))
      have HFU := Lib.hid hfu
      obtain ⟨k0, k1, k2, k3, _⟩ := hb4
      obtain ⟨r0, r1, r2, r3, s0, s1, s2, s3⟩ := HR2.out
      clear hW4 hf4 hb hbw hno2 hfu hk2
      go_wp2
      rw [← HW4.out]
      exact bodyPost_ret (v := .tuple #[boxV0, .int .i64 9]) (by simp [results, Try.results19, go_sem, k0, k1, k2, k3, boxV0, boxV]) rfl (TurnR.bad (HXX.out.trans (if_pos HFU.out)) (by decide) HB4.out)
end Go.Proofs.Ytpmakbjchepkmaa
namespace Go.Proofs.Ytpmakbjchepkmaa
open Go Go.RowKit

set_option maxHeartbeats 4000000 in
set_option maxRecDepth 100000 in
theorem rflag_good2 (name : ByteArray) (valid next : Int) (sv : Value) (ps : List LV) (u : Int) (flags : UInt8) (w : World) (h : Lets w sv ps) (hck0 : chk valid next (ps.map (·.1)) = 0) (hf31 : flags.toNat < 32) :
    Calls Try.prog 19 #[boxV name valid next sv, .int .i64 u, .int .i64 ((2 : Nat) : Int), .int .u8 (flags.toNat : Int)] w (TurnR w (flagE valid next (ps.map (·.1)) u ((2 : Nat) : Int) flags) name valid next (flagL (ps.map (·.1)) u ((2 : Nat) : Int) flags)) := by
  have hb0 : Below w.heap.size w ((w.alloc (.cells #[.string name, .int .i64 valid, .int .i64 next, sv] 24)).alloc (.cells #[.string ⟨#[]⟩, .int .i64 0, .int .i64 0, .slice none 0 0] 24)) := ((Below.refl _ w).alloc (Nat.le_refl _) _).alloc (by simp) _
  have h0 := h.below hb0
  have hBx : BoxW ((w.alloc (.cells #[.string name, .int .i64 valid, .int .i64 next, sv] 24)).alloc (.cells #[.string ⟨#[]⟩, .int .i64 0, .int .i64 0, .slice none 0 0] 24)) w.heap.size name valid next sv :=
    (BoxW.new w name valid next sv 24).below ((Below.refl _ _).alloc (Nat.le_refl _) _) (by simp)
  have hBr : BoxW ((w.alloc (.cells #[.string name, .int .i64 valid, .int .i64 next, sv] 24)).alloc (.cells #[.string ⟨#[]⟩, .int .i64 0, .int .i64 0, .slice none 0 0] 24)) (w.heap.size + 1) ⟨#[]⟩ 0 0 (.slice none 0 0) := by
    have := BoxW.new (w.alloc (.cells #[.string name, .int .i64 valid, .int .i64 next, sv] 24)) ⟨#[]⟩ 0 0 (.slice none 0 0) 24
    simpa using this
  have hsz0 : ((w.alloc (.cells #[.string name, .int .i64 valid, .int .i64 next, sv] 24)).alloc (.cells #[.string ⟨#[]⟩, .int .i64 0, .int .i64 0, .slice none 0 0] 24)).heap.size = w.heap.size + 2 := by simp
  obtain ⟨_, _, h32, hright⟩ := chk_ok hck0
  rw [List.length_map] at h32
  have hlen : ps.length ≤ 9223372036854775807 := by omega
  have hck := refCheck name valid next sv ps _ h0 hlen
  rw [hck0] at hck
  have hX : flagE valid next (ps.map (·.1)) u ((2 : Nat) : Int) flags = if findU (ps.map (·.1)) u = (ps.map (·.1)).length then 9 else 0 := by
    unfold flagE
    rw [if_neg (by simp [hck0]), if_neg (by omega)]
  have HLT := Lib.hid (fun q (hq : q ∈ ps) g (hg : q.2.ownBlock = some g) (hn : q.1.bytes ≠ []) => (h.bytes q hq).lt g hg hn)
  have HRI := Lib.hid hright
  generalize hXE : flagE valid next (ps.map (·.1)) u ((2 : Nat) : Int) flags = X
  rw [hXE] at hX
  generalize hLE : flagL (ps.map (·.1)) u ((2 : Nat) : Int) flags = LL
  have HXX := Lib.hid hX
  have HLE := Lib.hid hLE
  clear hXE hLE
  have hfl : ¬ (31 : Int) < (flags.toNat : Int) := by omega
  obtain ⟨sa, sc, hsv, g1, o1, hg1, hc1⟩ := h.opened
  subst hsv
  unfold boxV at hck ⊢
  have HCK := Lib.hid hck
  have HBX := Lib.hid hBx
  have HBR := Lib.hid hBr
  have HB0 := Lib.hid hb0
  have HSZ := Lib.hid hsz0
  have HL := Lib.hid h
  have HC1 := Lib.hid hc1
  have HG1 := Lib.hid hg1
  have HF31 := Lib.hid hf31
  clear hck hBx hBr hb0 hsz0 h0 h hX hck0 hc1 hg1 hright hf31
  go_enter Try.func19, Try.ntmps19
  go_wp2_with fail
  refine HCK.out.mono ?_
  rintro e w1 ⟨rfl, hb1⟩
  have hB1 := HBX.out.below hb1 (by rw [HSZ.out]; omega)
  have hR1 := HBR.out.below hb1 (by rw [HSZ.out]; omega)
  have hbb := HB0.out.trans (hb1.mono HB0.out.size)
  have hz1 : w.heap.size + 2 ≤ w1.heap.size := by have := hb1.size; rw [HSZ.out] at this; exact this
  have HB1 := Lib.hid hB1
  have HR1 := Lib.hid hR1
  have HBB := Lib.hid hbb
  obtain ⟨c0, c1, c2, c3, f0, f1, f2, f3⟩ := hB1
  clear hb1 hbb hR1 HB0 HBX HBR HCK HSZ
  go_wp2_with fail
  clear c0 c1 c2 c3 f0 f1 f2 f3
  go_loopw [11] (fun i wr => ∃ k : Nat, k ≤ ps.length ∧ i = .int .i64 k ∧ (∀ q ∈ ps.take k, q.1.uid ≠ u) ∧ Below w1.heap.size w1 wr) (fun i _ => ps.length - (intOf i).toNat)
  case atStart => exact ⟨0, Nat.zero_le _, rfl, by simp, Below.refl _ _⟩
  case round =>
    obtain ⟨k, hk, rfl, hno, hb⟩ := hrel
    have HNO := Lib.hid hno
    have hbw := HBB.out.trans (hb.mono HBB.out.size)
    obtain ⟨c0, c1, c2, c3, f0, f1, f2, f3⟩ := HB1.out.below hb HB1.out.lt
    have HR2 := Lib.hid (HR1.out.below hb HR1.out.lt)
    have HBW := Lib.hid hbw
    have hz2 : w1.heap.size ≤ wr.heap.size := hb.size
    clear hno
    by_cases hlt : k < ps.length
    · have hpk := List.getElem?_eq_getElem hlt
      generalize ps[k] = q at hpk
      have hne : ps ≠ [] := fun e => by subst e; simp at hlt
      obtain ⟨rfl, hgl⟩ := HG1.out hne
      obtain ⟨p0, p1, p2⟩ := HC1.out k _ hpk
      have m0 := (hbw.cell (p := ⟨g1, o1 + k * 3, none⟩) hgl).trans p0
      have m1 := (hbw.cell (p := ⟨g1, o1 + k * 3 + 1, none⟩) hgl).trans p1
      have m2 := (hbw.cell (p := ⟨g1, o1 + k * 3 + 2, none⟩) hgl).trans p2
      have hk1 : (k : Int) < (ps.length : Int) := by omega
      have HQ := Lib.hid (show Byz wr q.2 q.1.bytes from (HL.out.bytes _ (List.mem_of_getElem? hpk)).below hbw)
      have HPK := Lib.hid hpk
      have HFX := Lib.hid (HRI.out.flags q.1 (List.mem_map.2 ⟨q, List.mem_of_getElem? hpk, rfl⟩))
      obtain ⟨⟨qu, qf, qb⟩, qv⟩ := q
      obtain ⟨⟨qa, qc, hqv⟩, _⟩ := id HQ.out
      simp only at m0 m1 m2 hqv
      subst hqv
      have hy3 : Below wr.heap.size wr (wr.alloc (.cells #[.int .i64 qu, .int .u8 (qf.toNat : Int), .slice qa qb.length qc] 44)) := (Below.refl _ _).alloc (Nat.le_refl _) _
      obtain ⟨W3, hW3⟩ : ∃ W3, W3 = wr.alloc (.cells #[.int .i64 qu, .int .u8 (qf.toNat : Int), .slice qa qb.length qc] 44) := ⟨_, rfl⟩
      have l0 : W3.cell? ⟨wr.heap.size, 0, none⟩ = some (.int .i64 qu) := by rw [hW3, cell_of_row _ _ _ _ _ _ (heap_alloc_last wr _)]; rfl
      have l1 : W3.cell? ⟨wr.heap.size, 1, none⟩ = some (.int .u8 (qf.toNat : Int)) := by rw [hW3, cell_of_row _ _ _ _ _ _ (heap_alloc_last wr _)]; rfl
      have l3 : W3.frozen? ⟨wr.heap.size, 1, none⟩ = false := by rw [hW3]; exact World.frozen?_alloc_new _ _ _ _
      have l2 : W3.cell? ⟨wr.heap.size, 2, none⟩ = some (.slice qa qb.length qc) := by rw [hW3, cell_of_row _ _ _ _ _ _ (heap_alloc_last wr _)]; rfl
      rw [← hW3] at hy3
      have HW3 := Lib.hid hW3
      have HY3 := Lib.hid hy3
      clear p0 p1 p2 hpk hne hW3 hy3
      by_cases hu : qu = u
      · have hu' : (qu != u) = false := by simpa using hu
        have HU := Lib.hid hu
        clear hu
        go_wp2_with (first | rw [← HW3.out])
        go_loop [13, 14] (fun is bit => ∃ j : Nat, j ≤ 5 ∧ is = .int .u8 (bitsL 2 qf.toNat flags.toNat j : Nat) ∧ bit = .int .u8 ((2 ^ j : Nat) : Int)) (fun _ bit => 64 - (intOf bit).toNat)
        case atStart => exact ⟨0, by omega, rfl, rfl⟩
        case round =>
          obtain ⟨j, hj, rfl, rfl⟩ := hrel
          have hcase : j = 0 ∨ j = 1 ∨ j = 2 ∨ j = 3 ∨ j = 4 ∨ j = 5 := by omega
          rcases hcase with rfl | rfl | rfl | rfl | rfl | rfl
          · simp only [Nat.reducePow]
            go_wp2
            all_goals
              go_round
              case rel =>
                refine ⟨1, by omega, ?_, rfl⟩
                (try simp only [Bool.not_eq_true', Bool.not_eq_false', beq_eq_false_iff_ne, beq_iff_eq, ne_eq] at *)
                first
                  | (refine bit_keep (j := 0) (b := 1) rfl ?_; (simp [bitL] <;> omega))
                  | (refine bit_add (j := 0) (b := 1) rfl (by decide) ?_; (simp [bitL] <;> omega))
                  | (exfalso; simp only [beq_iff_eq] at *; omega)
              case measure => simp [intOf]
          · simp only [Nat.reducePow]
            go_wp2
            all_goals
              go_round
              case rel =>
                refine ⟨2, by omega, ?_, rfl⟩
                (try simp only [Bool.not_eq_true', Bool.not_eq_false', beq_eq_false_iff_ne, beq_iff_eq, ne_eq] at *)
                first
                  | (refine bit_keep (j := 1) (b := 2) rfl ?_; (simp [bitL] <;> omega))
                  | (refine bit_add (j := 1) (b := 2) rfl (by decide) ?_; (simp [bitL] <;> omega))
                  | (exfalso; simp only [beq_iff_eq] at *; omega)
              case measure => simp [intOf]
          · simp only [Nat.reducePow]
            go_wp2
            all_goals
              go_round
              case rel =>
                refine ⟨3, by omega, ?_, rfl⟩
                (try simp only [Bool.not_eq_true', Bool.not_eq_false', beq_eq_false_iff_ne, beq_iff_eq, ne_eq] at *)
                first
                  | (refine bit_keep (j := 2) (b := 4) rfl ?_; (simp [bitL] <;> omega))
                  | (refine bit_add (j := 2) (b := 4) rfl (by decide) ?_; (simp [bitL] <;> omega))
                  | (exfalso; simp only [beq_iff_eq] at *; omega)
              case measure => simp [intOf]
          · simp only [Nat.reducePow]
            go_wp2
            all_goals
              go_round
              case rel =>
                refine ⟨4, by omega, ?_, rfl⟩
                (try simp only [Bool.not_eq_true', Bool.not_eq_false', beq_eq_false_iff_ne, beq_iff_eq, ne_eq] at *)
                first
                  | (refine bit_keep (j := 3) (b := 8) rfl ?_; (simp [bitL] <;> omega))
                  | (refine bit_add (j := 3) (b := 8) rfl (by decide) ?_; (simp [bitL] <;> omega))
                  | (exfalso; simp only [beq_iff_eq] at *; omega)
              case measure => simp [intOf]
          · simp only [Nat.reducePow]
            go_wp2
            all_goals
              go_round
              case rel =>
                refine ⟨5, by omega, ?_, rfl⟩
                (try simp only [Bool.not_eq_true', Bool.not_eq_false', beq_eq_false_iff_ne, beq_iff_eq, ne_eq] at *)
                first
                  | (refine bit_keep (j := 4) (b := 16) rfl ?_; (simp [bitL] <;> omega))
                  | (refine bit_add (j := 4) (b := 16) rfl (by decide) ?_; (simp [bitL] <;> omega))
                  | (exfalso; simp only [beq_iff_eq] at *; omega)
              case measure => simp [intOf]
          · have hput := putU_flag (u := u) (how := ((2 : Nat) : Int)) (flags := flags) (bv := .slice qa qb.length qc) HRI.out.rise HPK.out HU.out
            rw [lay_bits (how := 2) (by omega) qf flags HFX.out HF31.out]
            simp only [Nat.reducePow]
            simp only at hput
            generalize layF ((2 : Nat) : Int) qf flags = F at hput ⊢
            have HPUT := Lib.hid hput
            have hy4 : Below wr.heap.size wr (W3.setCell ⟨wr.heap.size, 1, none⟩ (.int .u8 (F.toNat : Int))) := HY3.out.setCell (Nat.le_refl _) _
            obtain ⟨W4, hW4⟩ : ∃ W4, W4 = W3.setCell ⟨wr.heap.size, 1, none⟩ (.int .u8 (F.toNat : Int)) := ⟨_, rfl⟩
            have n0 : W4.cell? ⟨wr.heap.size, 0, none⟩ = some (.int .i64 qu) := by rw [hW4]; exact (World.cell?_setCell_other _ _ _ _ (by simp)).trans l0
            have n1 : W4.cell? ⟨wr.heap.size, 1, none⟩ = some (.int .u8 (F.toNat : Int)) := by rw [hW4]; exact World.cell?_setCell_same _ _ _ l1
            have n2 : W4.cell? ⟨wr.heap.size, 2, none⟩ = some (.slice qa qb.length qc) := by rw [hW4]; exact (World.cell?_setCell_other _ _ _ _ (by simp)).trans l2
            rw [← hW4] at hy4
            have hy5 := chain_alloc (.cells #[.int .i64 qu, .int .u8 (F.toNat : Int), .slice qa qb.length qc] 44) hy4
            have hlit := lit_letter W4 ⟨qu, F, qb⟩ (.slice qa qb.length qc) (HQ.out.below hy5)
            have hlw := HBW.out.trans (hy5.mono HBW.out.size)
            have HWI := Lib.hid (with_any name valid next (.slice (some ⟨g1, o1, none⟩) ps.length sc) _ ps [((⟨qu, F, qb⟩ : Letr), Value.slice qa qb.length qc)] u _ (HL.out.below hlw) hlit (by omega) (by simp))
            have b4 := HB1.out.below (hb.trans (hy4.mono hb.size)) HB1.out.lt
            have HR5 := Lib.hid (HR2.out.below hy5 HR2.out.lt)
            have HLW := Lib.hid hlw
            have hsz5 : (W4.alloc (.cells #[.int .i64 qu, .int .u8 (F.toNat : Int), .slice qa qb.length qc] 44)).heap.size = W4.heap.size + 1 := World.size_alloc ..
            have HS5 := Lib.hid (show w.heap.size + 1 < W4.heap.size ∧ w.heap.size ≤ W4.heap.size from ⟨by have := HR2.out.lt; have := hy4.size; omega, by have := hy4.size; omega⟩)
            have HW4 := Lib.hid hW4
            unfold boxV at HWI
            obtain ⟨v0, v1, v2, v3, _⟩ := b4
            clear hput hW4 hy4 hy5 hlit hlw hsz5 hb hbw
            go_wp2_with (first | rw [← HW4.out])
            refine HWI.out.mono ?_
            rintro e w6 ⟨a, c, rfl, hl6, hb6, hg6⟩
            unfold boxV
            generalize hP : putU u [((⟨qu, F, qb⟩ : Letr), Value.slice qa qb.length qc)] ps = P at *
            obtain ⟨hq1, hq2⟩ := HPUT.out
            (try rw [hP] at hq1)
            have hy7 : Below w6.heap.size w6 (w6.alloc (.cells #[.string name, .int .i64 valid, .int .i64 next, .slice a P.length c] 24)) := (Below.refl _ w6).alloc (Nat.le_refl _) _
            have hx7 := BoxW.new w6 name valid next (.slice a P.length c) 24
            obtain ⟨W7, hW7⟩ : ∃ W7, W7 = w6.alloc (.cells #[.string name, .int .i64 valid, .int .i64 next, .slice a P.length c] 24) := ⟨_, rfl⟩
            rw [← hW7] at hy7 hx7
            have hb7 := hb6.trans (hy7.mono hb6.size)
            have hR7 := HR5.out.below hb7 HR5.out.lt
            obtain ⟨W8, hW8, hb8, hf8⟩ := hR7.put4 name valid next (.slice a P.length c)
            have hB7 := HLW.out.trans (hb7.mono HLW.out.size)
            have hl8 : Lets W8 (.slice a P.length c) P := by
              refine Lets.fr (b := w.heap.size + 1) (hl6.below hy7) ⟨fun _ e => by have := hg6 _ e; have := HS5.out; simp only [World.size_alloc] at *; omega, fun q hq hn e => ?_⟩ hf8
              rw [← hP] at hq
              rcases putU_mem hq with hq | hq
              · rw [List.mem_singleton] at hq
                subst hq
                have := HLT.out _ (List.mem_of_getElem? HPK.out) _ e hn; omega
              · have := HLT.out q hq _ e hn; omega
            have HEND := Lib.hid (show TurnR w X name valid next LL (.returned (.tuple #[.agg #[.string name, .int .i64 valid, .int .i64 next, .slice a P.length c], .int .i64 0])) W8 from by
              rw [HXX.out, if_neg hq2, ← HLE.out]
              exact ⟨hB7.trans (hf8.below hB7.size (fun k e => by omega)), fun h => absurd rfl h, fun _ => ⟨a, c, P, rfl, hl8, hq1⟩⟩)
            have HW7 := Lib.hid hW7
            have HW8 := Lib.hid hW8
            obtain ⟨k0, k1, k2, k3, _⟩ := hb8
            obtain ⟨r0, r1, r2, r3, s0, s1, s2, s3⟩ := hR7
            obtain ⟨t0, t1, t2, t3, _⟩ := hx7
            clear hP hq1 hq2 hy7 hW7 hb7 hW8 hf8 hB7 hl8 hl6 hb6 hg6 n0 n1 n2 v0 v1 v2 v3 l0 l1 l2 l3 m0 m1 m2 c0 c1 c2 c3 HWI HPUT
            go_wp2_with (first | rw [← HW7.out])
            rw [← HW8.out]
            exact bodyPost_ret (v := .tuple #[.agg #[.string name, .int .i64 valid, .int .i64 next, .slice a P.length c], .int .i64 0]) (by simp [results, Try.results19, go_sem, k0, k1, k2, k3]) rfl HEND.out
      · have hu' : (qu != u) = true := by simpa using hu
        have HU := Lib.hid hu
        clear hu
        have HY4 := Lib.hid (hb.trans (HY3.out.mono hb.size))
        clear hb hbw
        go_wp2_with (first | rw [← HW3.out])
        go_roundw
        case rel =>
          refine ⟨k + 1, by omega, by go_num, fun q hq => ?_, HY4.out⟩
          rw [List.take_add_one, HPK.out, Option.toList_some] at hq
          rcases List.mem_append.1 hq with hq | hq
          · exact HNO.out q hq
          · rw [List.mem_singleton] at hq; subst hq; exact HU.out
        case measure => simp [intOf]; omega
    · have hk2 : k = ps.length := by omega
      have hno2 := HNO.out
      rw [hk2, List.take_length] at hno2
      have hfu : findU (ps.map (·.1)) u = (ps.map (·.1)).length := by
        have h1 : findU (ps.map (·.1)) u ≤ (ps.map (·.1)).length := List.findIdx_le_length
        have h2 : ¬ findU (ps.map (·.1)) u < (ps.map (·.1)).length := fun hl => by
          obtain ⟨x, hx, hxu⟩ := List.findIdx_lt_length.1 hl
          obtain ⟨q, hq, rfl⟩ := List.mem_map.1 hx
          exact hno2 q hq (by simpa using hxu)
        omega
      obtain ⟨W4, hW4, hb4, hf4⟩ := HR2.out.put4 ⟨#[]⟩ 0 0 (.slice none 0 0)
      have HW4 := Lib.hid hW4
      have HB4 := Lib.hid (hbw.trans (hf4.below hbw.size (fun k e => by omega)))
      have HFU := Lib.hid hfu
      obtain ⟨k0, k1, k2, k3, _⟩ := hb4
      obtain ⟨r0, r1, r2, r3, s0, s1, s2, s3⟩ := HR2.out
      clear hW4 hf4 hb hbw hno2 hfu hk2
      go_wp2
      rw [← HW4.out]
      exact bodyPost_ret (v := .tuple #[boxV0, .int .i64 9]) (by simp [results, Try.results19, go_sem, k0, k1, k2, k3, boxV0, boxV]) rfl (TurnR.bad (HXX.out.trans (if_pos HFU.out)) (by decide) HB4.out)
end Go.Proofs.Ytpmakbjchepkmaa
namespace Go.Proofs.Ytpmakbjchepkmaa
open Go Go.RowKit
theorem rflag_good (name : ByteArray) (valid next : Int) (sv : Value) (ps : List LV) (u : Int) (how : Nat) (flags : UInt8) (w : World) (h : Lets w sv ps) (hck0 : chk valid next (ps.map (·.1)) = 0) (hh : how = 0 ∨ how = 1 ∨ how = 2) (hf31 : flags.toNat < 32) :
    Calls Try.prog 19 #[boxV name valid next sv, .int .i64 u, .int .i64 (how : Int), .int .u8 (flags.toNat : Int)] w (TurnR w (flagE valid next (ps.map (·.1)) u (how : Int) flags) name valid next (flagL (ps.map (·.1)) u (how : Int) flags)) := by
  rcases hh with rfl | rfl | rfl
  · exact rflag_good0 name valid next sv ps u flags w h hck0 hf31
  · exact rflag_good1 name valid next sv ps u flags w h hck0 hf31
  · exact rflag_good2 name valid next sv ps u flags w h hck0 hf31
end Go.Proofs.Ytpmakbjchepkmaa
