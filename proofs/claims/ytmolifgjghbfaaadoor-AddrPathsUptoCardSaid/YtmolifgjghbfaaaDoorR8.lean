/- The reference's Path. -/
import Derived.Test.YtmolifgjghbfaaaDoorC11
import Derived.StillTailTactics
namespace Go.Proofs.YtmolifgjghbfaaaDoor
open Go.RowKit

theorem head_get (s : ByteArray) (b : UInt8) : s.data.toList.head? = some b ↔ ∃ h : 0 < s.size, s[0]'h = b := by
  constructor
  · intro h
    have h0 : 0 < s.size := by
      rw [Lib.size_eq]
      cases hh : s.data.toList with
      | nil => rw [hh] at h; cases h
      | cons c t => simp
    refine ⟨h0, ?_⟩
    have hl := list_at s 0 h0
    rw [List.drop_zero] at hl
    rw [hl] at h
    exact Option.some.inj h
  · rintro ⟨h0, rfl⟩
    have hl := list_at s 0 h0
    rw [List.drop_zero] at hl
    rw [hl]; rfl
theorem two_lt (s : ByteArray) (h2 : 2 ≤ s.size) : ((s.extract 0 2).toList == [60, 62]) = (decide ((s[0]'(by omega)).toNat = 60) && decide ((s[1]'(by omega)).toNat = 62)) := by
  have e : (s.extract 0 2).toList = [s[0]'(by omega), s[1]'(by omega)] := by
    rw [Lib.toList_data, Lib.extract_eq]
    have l0 := list_at s 0 (by omega)
    have l1 := list_at s 1 (by omega)
    rw [List.drop_zero] at l0
    rw [List.drop_zero, l0, l1]; rfl
  rw [e, Bool.eq_iff_iff, beq_iff_eq, Bool.and_eq_true, decide_eq_true_eq, decide_eq_true_eq]
  constructor
  · intro h
    injection h with h1 h2
    injection h2 with h2 _
    exact ⟨by rw [h1]; rfl, by rw [h2]; rfl⟩
  · rintro ⟨h1, h2⟩
    rw [show s[0]'(by omega) = 60 from UInt8.toNat_inj.1 h1, show s[1]'(by omega) = 62 from UInt8.toNat_inj.1 h2]

set_option maxHeartbeats 4000000 in
set_option maxRecDepth 100000 in
theorem refPath (s : ByteArray) (w : World) (hT : Tabs w) (hz : s.size ≤ 1048576) :
    Calls Tryd.prog 15 #[.string s] w fun e w' => e = .returned (resP (pathF s.data.toList)) ∧ Below w.heap.size w w' := by
  have t0 := Two.new w 23 noStr noStr
  have B0 := (Below.refl _ w).alloc (Nat.le_refl _) (.cells #[noStr, noStr] 23)
  obtain ⟨r0, r1, fr0, fr1⟩ := id t0
  unfold noStr at r0 r1
  generalize hF : pathF s.data.toList = F
  by_cases hempty : ∃ h2 : 2 ≤ s.size, (s[0]'(by omega)).toNat = 60 ∧ (s[1]'(by omega)).toNat = 62
  · obtain ⟨h2, e0, e1⟩ := hempty
    have h22 := two_lt s h2
    rw [decide_eq_true e0, decide_eq_true e1, Bool.and_true] at h22
    have hp : F = ([], [], s.data.toList.drop 2, 0) := by
      rw [← hF]
      unfold pathF
      rw [if_pos ((head_get s 60).2 ⟨by omega, UInt8.toNat_inj.1 e0⟩)]
      have hl1 := list_at s 1 (by omega)
      rw [path_empty _ (by rw [hl1]; show some _ = _; rw [show s[1]'(by omega) = 62 from UInt8.toNat_inj.1 e1])]
      rw [List.drop_drop]
    have hex : s.extract 2 s.size = ⟨(s.data.toList.drop 2).toArray⟩ := by
      rw [Lib.extract_eq]
      congr 2
      rw [List.take_of_length_le]
      rw [List.length_drop, ← Lib.size_eq]; omega
    have HP := Lib.hid hp
    have q1 : (2 : Int) ≤ (s.size : Int) := by omega
    clear hF hp e0 e1
    go_enter Tryd.func15, Tryd.ntmps15
    go_wp2_with fail
    go_region
    go_wp2_with fail
    exact bodyPost_ret (v := .tuple #[.agg #[.string ⟨#[]⟩, .string ⟨#[]⟩], .string ⟨(s.data.toList.drop 2).toArray⟩, .int .i64 0]) (by simp [results, Tryd.results15, go_sem, r0, r1]) rfl ⟨by rw [HP.out]; rfl, B0.drew⟩
  · have hno : s.size < 2 ∨ ∃ h2 : 2 ≤ s.size, ((s.extract 0 2).toList == [60, 62]) = false := by
      by_cases h2 : 2 ≤ s.size
      · refine Or.inr ⟨h2, ?_⟩
        rw [two_lt s h2]
        by_cases e0 : (s[0]'(by omega)).toNat = 60
        · have e1 : ¬ (s[1]'(by omega)).toNat = 62 := fun e1 => hempty ⟨h2, e0, e1⟩
          rw [decide_eq_false e1, Bool.and_false]
        · rw [decide_eq_false e0, Bool.false_and]
      · exact Or.inl (by omega)
    by_cases h60 : s.data.toList.head? = some 60
    · obtain ⟨h0, hg0⟩ := (head_get s 60).1 h60
      have b60 : (((s[0]'h0).toNat : Int) == 60) = true := by rw [hg0]; rfl
      have hFt : pathT (s.data.toList.drop 1) = F := by rw [← hF]; unfold pathF; rw [if_pos h60]
      have ht62 : (s.data.toList.drop 1).head? ≠ some 62 := by
        intro h
        rcases Nat.lt_or_ge 1 s.size with h1 | h1
        · have hl1 := list_at s 1 h1
          rw [hl1] at h
          have := Option.some.inj h
          exact hempty ⟨by omega, by rw [hg0]; rfl, by rw [this]; rfl⟩
        · rw [List.drop_eq_nil_of_le (by rw [← Lib.size_eq]; exact h1)] at h; cases h
      have htl : ∀ m, (s.data.toList.drop 1)[m]? = s.data.toList[m + 1]? := by intro m; rw [List.getElem?_drop]; congr 1; omega
      have HFT := Lib.hid hFt
      have H62 := Lib.hid ht62
      have HTL := Lib.hid htl
      clear hF hempty h60 hg0 hFt ht62 htl
      have hloop : True := trivial
      rcases hno with hlt | ⟨h2, hx⟩
      · have hs1 : ¬ 2 ≤ s.size := by omega
        go_enter Tryd.func15, Tryd.ntmps15
        go_wp2_with fail
        go_loopw [5] (fun iv wr => ∃ i : Nat, iv = .int .i64 i ∧ 1 ≤ i ∧ i ≤ s.size ∧ Below w.heap.size w wr ∧ Two wr w.heap.size noStr noStr ∧ w.heap.size < wr.heap.size ∧ ∀ j, j + 1 < i → s.data.toList[j + 1]? = some 62 → (parseF ⟨((s.data.toList.drop 1).take j).toArray⟩).2.2.2 ≠ 0) (fun iv _ => s.size - (intOf iv).toNat)
        case atStart => exact ⟨1, rfl, Nat.le_refl _, by omega, B0, t0, by simp, fun j hj => by omega⟩
        case round =>
          obtain ⟨i, rfl, hi1, hi2, hB, hTw, hzz, hall⟩ := hrel
          by_cases hi : i < s.size
          · exfalso; omega
          · have hans : F = ([], [], [], 4) := by
              rw [← HFT.out]
              refine path_none _ H62.out fun m hm => ?_
              rw [HTL.out] at hm
              have hml : m + 1 < s.data.toList.length := by
                rcases Nat.lt_or_ge (m + 1) s.data.toList.length with h | h
                · exact h
                · rw [List.getElem?_eq_none h] at hm; cases hm
              exact hall m (by rw [← Lib.size_eq] at hml; omega) hm
            have HA := Lib.hid hans
            obtain ⟨r0, r1, fr0, fr1⟩ := hTw
            unfold noStr at r0 r1
            clear hall hans
            go_wp2
            exact bodyPost_ret (v := .tuple #[.agg #[.string ⟨#[]⟩, .string ⟨#[]⟩], .string ⟨#[]⟩, .int .i64 4]) (by simp [results, Tryd.results15, go_sem, r0, r1]) rfl ⟨by rw [HA.out]; rfl, (hB.setCell (by simp) _).setCell (by simp) _⟩
      · go_enter Tryd.func15, Tryd.ntmps15
        go_wp2_with fail
        go_loopw [5] (fun iv wr => ∃ i : Nat, iv = .int .i64 i ∧ 1 ≤ i ∧ i ≤ s.size ∧ Below w.heap.size w wr ∧ Two wr w.heap.size noStr noStr ∧ w.heap.size < wr.heap.size ∧ ∀ j, j + 1 < i → s.data.toList[j + 1]? = some 62 → (parseF ⟨((s.data.toList.drop 1).take j).toArray⟩).2.2.2 ≠ 0) (fun iv _ => s.size - (intOf iv).toNat)
        case atStart => exact ⟨1, rfl, Nat.le_refl _, by omega, B0, t0, by simp, fun j hj => by omega⟩
        case round =>
          obtain ⟨i, rfl, hi1, hi2, hB, hTw, hzz, hall⟩ := hrel
          by_cases hi : i < s.size
          · have hgi : s.data.toList[i]? = some (s[i]'hi) := by
              have hp' : i < s.data.toList.length := by rw [← Lib.size_eq]; exact hi
              rw [List.getElem?_eq_getElem hp']; rfl
            by_cases h62 : (s[i]'hi).toNat = 62
            · have b62 : (((s[i]'hi).toNat : Int) == 62) = true := by rw [beq_iff_eq]; omega
              have hex : s.extract 1 i = ⟨((s.data.toList.drop 1).take (i - 1)).toArray⟩ := Lib.extract_eq s 1 i
              have hR := refParse (s.extract 1 i) wr (hT.below hB (Nat.le_refl _)) (by rw [ByteArray.size_extract]; omega)
              unfold resA at hR
              have hpat := path_at (s.data.toList.drop 1) (i - 1) (by rw [HTL.out, show i - 1 + 1 = i by omega, hgi]; rw [show s[i]'hi = 62 from UInt8.toNat_inj.1 h62])
              rw [← hex] at hpat
              have hnext : (parseF (s.extract 1 i)).2.2.2 ≠ 0 → ∀ j, j + 1 < i + 1 → s.data.toList[j + 1]? = some 62 → (parseF ⟨((s.data.toList.drop 1).take j).toArray⟩).2.2.2 ≠ 0 := by
                intro hne j hj hj2
                by_cases hji : j + 1 = i
                · have : j = i - 1 := by omega
                  rw [this, ← hex]; exact hne
                · exact hall j (by omega) hj2
              generalize parseF (s.extract 1 i) = G at *
              have q1 : (1 : Int) ≤ (i : Int) := by omega
              have q2 : (i : Int) ≤ (s.size : Int) := by omega
              have q3 : (i : Int) + 1 ≤ (s.size : Int) := by omega
              have q4 : ((i : Int) + 1).toNat = i + 1 := by omega
              have q5 : IntKind.i64.wrap ((i : Int) + 1) = (i : Int) + 1 := wrap_small _ (by omega) (by omega)
              have q6 : i + 1 ≤ s.size := by omega
              have HN := Lib.hid hnext
              have HP := Lib.hid hpat
              clear hex hnext hpat hall hgi h62
              by_cases hg : G.2.2.2 = 0
              · have hpe := HP.out hg
                rw [HFT.out] at hpe
                rw [hg] at hR
                have hrest : s.extract (i + 1) s.size = ⟨((s.data.toList.drop 1).drop (i - 1 + 1)).toArray⟩ := by
                  rw [Lib.extract_eq, List.drop_drop]
                  congr 2
                  rw [show 1 + (i - 1 + 1) = i + 1 by omega, List.take_of_length_le]
                  rw [List.length_drop, ← Lib.size_eq]; omega
                have HPE := Lib.hid hpe
                have HR := Lib.hid hrest
                clear hg hpe hrest
                go_wp2_with fail
                refine hR.mono ?_
                rintro e wn ⟨rfl, hbn⟩
                have hzn := hbn.size
                have hBn := (hB.trans (hbn.mono hB.size)).alloc (hB.trans (hbn.mono hB.size)).size (.cells #[.string ⟨G.1.toArray⟩, .string ⟨G.2.1.toArray⟩] 23)
                have tn := ((hTw.below hbn hzz).alloc (by omega) (.cells #[.string ⟨G.1.toArray⟩, .string ⟨G.2.1.toArray⟩] 23))
                have vn := Two.new wn 23 (.string ⟨G.1.toArray⟩) (.string ⟨G.2.1.toArray⟩)
                obtain ⟨r0, r1, fr0, fr1⟩ := tn
                have tw := hTw.below hbn hzz
                obtain ⟨x0, x1, x2, x3⟩ := id tw
                have hBw := hB.trans (hbn.mono hB.size)
                unfold noStr at x0 x1
                have q7 : 0 ≤ (i : Int) + 1 := by omega
                obtain ⟨v0, v1, v2, v3⟩ := vn
                unfold noStr at r0 r1
                clear hbn
                have hzx : w.heap.size < wn.heap.size := by omega
                go_wp2_with fail
                go_region
                all_goals go_wp2_with fail
                obtain ⟨y0, y1, _, _⟩ := (((tw.set0 (.string ⟨G.1.toArray⟩)).set1 (.string ⟨G.2.1.toArray⟩)).alloc (by simp; omega) (.cells #[.string ⟨G.1.toArray⟩, .string ⟨G.2.1.toArray⟩] 23)).drew
                exact bodyPost_ret (v := .tuple #[.agg #[.string ⟨G.1.toArray⟩, .string ⟨G.2.1.toArray⟩], .string (s.extract (i + 1) s.size), .int .i64 0]) (by simp [results, Tryd.results15, go_sem, y0, y1]) rfl ⟨by rw [HPE.out, HR.out]; rfl, (((hBw.setCell (by simp) _).setCell (by simp) _).alloc (by simp; omega) _).drew⟩
              · have ng : ((G.2.2.2 : Int) == 0) = false := by rw [beq_eq_false_iff_ne]; omega
                have HN2 := Lib.hid (HN.out hg)
                clear hg
                go_wp2_with fail
                refine hR.mono ?_
                rintro e wn ⟨rfl, hbn⟩
                have hzn := hbn.size
                have hBn := Lib.hid ((hB.trans (hbn.mono hB.size)).alloc (hB.trans (hbn.mono hB.size)).size (.cells #[.string ⟨G.1.toArray⟩, .string ⟨G.2.1.toArray⟩] 23))
                have tn := Lib.hid ((hTw.below hbn hzz).alloc (by omega) (.cells #[.string ⟨G.1.toArray⟩, .string ⟨G.2.1.toArray⟩] 23))
                clear hbn hR
                go_wp2
                go_roundw
                case rel => exact ⟨i + 1, by go_num, by omega, by omega, hBn.out, tn.out, by simp; omega, HN2.out⟩
                case measure => simp [intOf]; omega
            · have b62 : (((s[i]'hi).toNat : Int) == 62) = false := by rw [beq_eq_false_iff_ne]; omega
              have hnext : ∀ j, j + 1 < i + 1 → s.data.toList[j + 1]? = some 62 → (parseF ⟨((s.data.toList.drop 1).take j).toArray⟩).2.2.2 ≠ 0 := by
                intro j hj hj2
                by_cases hji : j + 1 = i
                · exfalso
                  rw [hji, hgi] at hj2
                  exact h62 (by rw [Option.some.inj hj2]; rfl)
                · exact hall j (by omega) hj2
              have HN := Lib.hid hnext
              clear hnext hall hgi h62
              go_wp2
              go_roundw
              case rel => exact ⟨i + 1, by go_num, by omega, by omega, hB, hTw, hzz, HN.out⟩
              case measure => simp [intOf]; omega
          · have hans : F = ([], [], [], 4) := by
              rw [← HFT.out]
              refine path_none _ H62.out fun m hm => ?_
              rw [HTL.out] at hm
              have hml : m + 1 < s.data.toList.length := by
                rcases Nat.lt_or_ge (m + 1) s.data.toList.length with h | h
                · exact h
                · rw [List.getElem?_eq_none h] at hm; cases hm
              exact hall m (by rw [← Lib.size_eq] at hml; omega) hm
            have HA := Lib.hid hans
            obtain ⟨r0, r1, fr0, fr1⟩ := hTw
            unfold noStr at r0 r1
            clear hall hans
            go_wp2
            exact bodyPost_ret (v := .tuple #[.agg #[.string ⟨#[]⟩, .string ⟨#[]⟩], .string ⟨#[]⟩, .int .i64 4]) (by simp [results, Tryd.results15, go_sem, r0, r1]) rfl ⟨by rw [HA.out]; rfl, (hB.setCell (by simp) _).setCell (by simp) _⟩
    · have hF4 : F = ([], [], [], 4) := by rw [← hF]; unfold pathF; rw [if_neg h60]
      have HF := Lib.hid hF4
      have hh : ∀ h : 0 < s.size, ((s[0]'h).toNat : Int) ≠ 60 := by
        intro h h1
        exact h60 ((head_get s 60).2 ⟨h, UInt8.toNat_inj.1 (by show (s[0]'h).toNat = 60; omega)⟩)
      clear hF hempty h60 hF4
      rcases hno with hlt | ⟨h2, hx⟩
      · clear hh
        go_enter Tryd.func15, Tryd.ntmps15
        go_wp2_with fail
        go_loopw [5] (fun iv wr => iv = .int .i64 1 ∧ wr = w.alloc (.cells #[noStr, noStr] 23)) (fun _ _ => 0)
        case atStart => exact ⟨rfl, rfl⟩
        case round =>
          obtain ⟨rfl, rfl⟩ := hrel
          go_wp2
          exact bodyPost_ret (v := .tuple #[.agg #[.string ⟨#[]⟩, .string ⟨#[]⟩], .string ⟨#[]⟩, .int .i64 4]) (by simp [results, Tryd.results15, go_sem, r0, r1]) rfl ⟨by rw [HF.out]; rfl, by first | exact B0 | exact (B0.setCell (by simp) _).setCell (by simp) _⟩
      · have b60 : (((s[0]'(by omega)).toNat : Int) == 60) = false := by rw [beq_eq_false_iff_ne]; exact hh _
        clear hh
        go_enter Tryd.func15, Tryd.ntmps15
        go_wp2_with fail
        go_loopw [5] (fun iv wr => iv = .int .i64 1 ∧ wr = w.alloc (.cells #[noStr, noStr] 23)) (fun _ _ => 0)
        case atStart => exact ⟨rfl, rfl⟩
        case round =>
          obtain ⟨rfl, rfl⟩ := hrel
          go_wp2
          exact bodyPost_ret (v := .tuple #[.agg #[.string ⟨#[]⟩, .string ⟨#[]⟩], .string ⟨#[]⟩, .int .i64 4]) (by simp [results, Tryd.results15, go_sem, r0, r1]) rfl ⟨by rw [HF.out]; rfl, by first | exact B0 | exact (B0.setCell (by simp) _).setCell (by simp) _⟩
end Go.Proofs.YtmolifgjghbfaaaDoor
