/- Disk: what the law's sure tells of the two. -/
import Derived.Test.YtohmofhpbmhhjaaE10
namespace Go.Proofs.Ytohmofhpbmhhjaa
open Go Go.RowKit

theorem cv_byt {w : World} {v : Value} {l : List UInt8} (h : Byt w v l) : (convert 29 9 v).run Try.prog w = .ok (.string ⟨l.toArray⟩) w :=
  run_byt_string w _ _ 5 Try.underlying29 Try.underlying5 Try.underlying9 h
theorem cv_nil (w : World) : (convert 29 9 (.slice none 0 0)).run Try.prog w = .ok (.string ⟨([] : List UInt8).toArray⟩) w := cv_byt (Byt.nil w)
theorem s_reads64 {s : St} (h : s.Ok) {i : Nat} (hi : i < s.sure.length) : (s.reads i).length = 64 := by
  unfold St.reads
  split
  · rename_i x hx
    exact (h.writes x (by have := List.mem_of_find?_eq_some hx; simpa using this)).2
  · rw [List.getD, List.getElem?_eq_getElem hi]
    exact h.pages _ (List.getElem_mem hi)
set_option maxRecDepth 100000 in
set_option maxHeartbeats 4000000 in
theorem lawsure_any {w0 w : World} {D S c F : Nat} {s : St} (H : TwoE (fun _ => False) w0 w D S c F s s) :
    Calls Try.prog 22 #[.pointer (some ⟨D, 0, none⟩), .pointer (some ⟨F, 0, none⟩)] w fun e w' => e = .returned (.bool true) ∧ Below w.heap.size w w' := by
  have hfew := H.ok.1.few
  have hpg := H.ok.1.pages
  have HPG := Lib.hid hpg
  have HOK := Lib.hid H.ok.1
  have h0 : Hid (TwoE (fun _ => False) w0 w D S c F s s ∧ Below w.heap.size w w) := ⟨H, Below.refl _ _⟩
  clear hpg H
  go_enter Try.func22, Try.ntmps22
  go_wp2_with fail
  go_loopw [5] (fun iv wr => ∃ i : Int, iv = .int .i64 i ∧ -1 ≤ i ∧ i ≤ (s.sure.length : Int) + 1 ∧ Hid (TwoE (fun _ => False) w0 wr D S c F s s ∧ Below w.heap.size w wr)) (fun iv _ => ((s.sure.length : Int) + 1 - intOf iv).toNat)
  case atStart => exact ⟨-1, rfl, by omega, by omega, h0⟩
  case round =>
    clear h0
    obtain ⟨i, rfl, hi1, hi2, hH⟩ := hrel
    obtain ⟨pg, pc, la, lc, c0, _⟩ := hH.out.1.cells
    by_cases hgo : i ≤ (s.sure.length : Int)
    · have HS := Lib.hid (two_sure hH.out.1 i)
      by_cases hin : 0 ≤ i ∧ i < (s.sure.length : Int)
      · have hlt : i.toNat < s.sure.length := by omega
        have hpl : (s.sure.getD i.toNat []).length = 64 := by rw [List.getD, List.getElem?_eq_getElem hlt]; exact HPG.out _ (List.getElem_mem hlt)
        have HPL := Lib.hid hpl
        have HRL := Lib.hid (s_reads64 HOK.out hlt)
        have HIN := Lib.hid hin
        clear hpl hlt hin
        cases hd : s.down
        · have HD := Lib.hid hd
          clear hd
          go_wp2_with fail
          refine HS.out.mono ?_
          intro e w1 hT
          unfold SureR at hT
          rw [if_pos HIN.out] at hT
          obtain ⟨b1, rfl, hb1, _, hB1⟩ := hT
          have hy1 := told_byt HPL.out hb1
          have H1 := Lib.hid (hH.out.1.below hB1)
          have HB1 := Lib.hid hB1
          have HS1 := Lib.hid (two_rsure H1.out i)
          have Y1 := Lib.hid hy1
          clear hB1 HS hb1 hy1
          go_wp2_with fail
          refine HS1.out.mono ?_
          intro e w2 hT
          unfold RSureR at hT
          rw [if_pos HIN.out] at hT
          obtain ⟨v2, rfl, hy2, _, hB2⟩ := hT
          have H2 := Lib.hid (H1.out.below hB2)
          have HB2 := Lib.hid (HB1.out.trans (hB2.mono HB1.out.size))
          have HS2 := Lib.hid (two_read H2.out i)
          have Y1b := Lib.hid (Y1.out.below hB2)
          have Y2 := Lib.hid hy2
          clear hB2 HS1 HB1 hy2 Y1
          go_wp2_with fail
          refine HS2.out.mono ?_
          intro e w3 hT
          unfold ReadR at hT
          rw [if_neg (by rw [HD.out]; simp), if_pos HIN.out] at hT
          obtain ⟨b3, rfl, hb3, _, hB3⟩ := hT
          have hy3 := told_byt HRL.out hb3
          have H3 := Lib.hid (H2.out.below hB3)
          have HB3 := Lib.hid (HB2.out.trans (hB3.mono HB2.out.size))
          have HS3 := Lib.hid (two_rread H3.out i)
          have Y1c := Lib.hid (Y1b.out.below hB3)
          have Y2b := Lib.hid (Y2.out.below hB3)
          have Y3 := Lib.hid hy3
          clear hB3 HS2 HB2 Y1b Y2 hb3 hy3
          go_wp2_with fail
          refine HS3.out.mono ?_
          intro e w4 hT
          unfold RReadR at hT
          rw [if_neg (by rw [HD.out]; simp), if_pos HIN.out] at hT
          obtain ⟨v4, rfl, hy4, _, hB4⟩ := hT
          have HE := Lib.hid (And.intro (H3.out.below hB4) (hH.out.2.trans ((HB3.out.trans (hB4.mono HB3.out.size)).mono hH.out.2.size)))
          have k1 := cv_byt (Y1c.out.below hB4)
          have k2 := cv_byt (Y2b.out.below hB4)
          have k3 := cv_byt (Y3.out.below hB4)
          have k4 := cv_byt hy4
          clear hB4 HS3 HB3 H1 H2 H3 hH Y1c Y2b Y3 hy4
          generalize s.sure.getD i.toNat [] = P at *
          generalize s.reads i.toNat = R at *
          go_wp2
          go_roundw
          case rel => exact ⟨i + 1, by go_num, by omega, by omega, HE⟩
          case measure => simp [intOf]; omega
        · have HD := Lib.hid hd
          clear hd
          go_wp2_with fail
          refine HS.out.mono ?_
          intro e w1 hT
          unfold SureR at hT
          rw [if_pos HIN.out] at hT
          obtain ⟨b1, rfl, hb1, _, hB1⟩ := hT
          have hy1 := told_byt HPL.out hb1
          have H1 := Lib.hid (hH.out.1.below hB1)
          have HB1 := Lib.hid hB1
          have HS1 := Lib.hid (two_rsure H1.out i)
          have Y1 := Lib.hid hy1
          clear hB1 HS hb1 hy1
          go_wp2_with fail
          refine HS1.out.mono ?_
          intro e w2 hT
          unfold RSureR at hT
          rw [if_pos HIN.out] at hT
          obtain ⟨v2, rfl, hy2, _, hB2⟩ := hT
          have H2 := Lib.hid (H1.out.below hB2)
          have HB2 := Lib.hid (HB1.out.trans (hB2.mono HB1.out.size))
          have HS2 := Lib.hid (two_read H2.out i)
          have Y1b := Lib.hid (Y1.out.below hB2)
          have Y2 := Lib.hid hy2
          clear hB2 HS1 HB1 hy2 Y1
          go_wp2_with fail
          refine HS2.out.mono ?_
          intro e w3 hT
          unfold ReadR at hT
          rw [if_pos HD.out] at hT
          obtain ⟨rfl, hB3⟩ := hT
          have H3 := Lib.hid (H2.out.below hB3)
          have HB3 := Lib.hid (HB2.out.trans (hB3.mono HB2.out.size))
          have HS3 := Lib.hid (two_rread H3.out i)
          have Y1c := Lib.hid (Y1b.out.below hB3)
          have Y2b := Lib.hid (Y2.out.below hB3)
          clear hB3 HS2 HB2 Y1b Y2
          go_wp2_with fail
          refine HS3.out.mono ?_
          intro e w4 hT
          unfold RReadR at hT
          rw [if_pos HD.out] at hT
          obtain ⟨rfl, hB4⟩ := hT
          have HE := Lib.hid (And.intro (H3.out.below hB4) (hH.out.2.trans ((HB3.out.trans (hB4.mono HB3.out.size)).mono hH.out.2.size)))
          have k1 := cv_byt (Y1c.out.below hB4)
          have k2 := cv_byt (Y2b.out.below hB4)
          have k0 := cv_nil w4
          clear hB4 HS3 HB3 H1 H2 H3 hH Y1c Y2b
          generalize s.sure.getD i.toNat [] = P at *
          go_wp2
          go_roundw
          case rel => exact ⟨i + 1, by go_num, by omega, by omega, HE⟩
          case measure => simp [intOf]; omega
      · have HIN := Lib.hid hin
        clear hin
        cases hd : s.down
        · have HD := Lib.hid hd
          clear hd
          go_wp2_with fail
          refine HS.out.mono ?_
          intro e w1 hT
          unfold SureR at hT
          rw [if_neg HIN.out] at hT
          obtain ⟨rfl, hB1⟩ := hT
          have H1 := Lib.hid (hH.out.1.below hB1)
          have HB1 := Lib.hid hB1
          have HS1 := Lib.hid (two_rsure H1.out i)
          clear hB1 HS
          go_wp2_with fail
          refine HS1.out.mono ?_
          intro e w2 hT
          unfold RSureR at hT
          rw [if_neg HIN.out] at hT
          obtain ⟨rfl, hB2⟩ := hT
          have H2 := Lib.hid (H1.out.below hB2)
          have HB2 := Lib.hid (HB1.out.trans (hB2.mono HB1.out.size))
          have HS2 := Lib.hid (two_read H2.out i)
          clear hB2 HS1 HB1
          go_wp2_with fail
          refine HS2.out.mono ?_
          intro e w3 hT
          unfold ReadR at hT
          rw [if_neg (by rw [HD.out]; simp), if_neg HIN.out] at hT
          obtain ⟨rfl, hB3⟩ := hT
          have H3 := Lib.hid (H2.out.below hB3)
          have HB3 := Lib.hid (HB2.out.trans (hB3.mono HB2.out.size))
          have HS3 := Lib.hid (two_rread H3.out i)
          clear hB3 HS2 HB2
          go_wp2_with fail
          refine HS3.out.mono ?_
          intro e w4 hT
          unfold RReadR at hT
          rw [if_neg (by rw [HD.out]; simp), if_neg HIN.out] at hT
          obtain ⟨rfl, hB4⟩ := hT
          have HE := Lib.hid (And.intro (H3.out.below hB4) (hH.out.2.trans ((HB3.out.trans (hB4.mono HB3.out.size)).mono hH.out.2.size)))
          have k0 := cv_nil w4
          clear hB4 HS3 HB3 H1 H2 H3 hH
          go_wp2
          go_roundw
          case rel => exact ⟨i + 1, by go_num, by omega, by omega, HE⟩
          case measure => simp [intOf]; omega
        · have HD := Lib.hid hd
          clear hd
          go_wp2_with fail
          refine HS.out.mono ?_
          intro e w1 hT
          unfold SureR at hT
          rw [if_neg HIN.out] at hT
          obtain ⟨rfl, hB1⟩ := hT
          have H1 := Lib.hid (hH.out.1.below hB1)
          have HB1 := Lib.hid hB1
          have HS1 := Lib.hid (two_rsure H1.out i)
          clear hB1 HS
          go_wp2_with fail
          refine HS1.out.mono ?_
          intro e w2 hT
          unfold RSureR at hT
          rw [if_neg HIN.out] at hT
          obtain ⟨rfl, hB2⟩ := hT
          have H2 := Lib.hid (H1.out.below hB2)
          have HB2 := Lib.hid (HB1.out.trans (hB2.mono HB1.out.size))
          have HS2 := Lib.hid (two_read H2.out i)
          clear hB2 HS1 HB1
          go_wp2_with fail
          refine HS2.out.mono ?_
          intro e w3 hT
          unfold ReadR at hT
          rw [if_pos HD.out] at hT
          obtain ⟨rfl, hB3⟩ := hT
          have H3 := Lib.hid (H2.out.below hB3)
          have HB3 := Lib.hid (HB2.out.trans (hB3.mono HB2.out.size))
          have HS3 := Lib.hid (two_rread H3.out i)
          clear hB3 HS2 HB2
          go_wp2_with fail
          refine HS3.out.mono ?_
          intro e w4 hT
          unfold RReadR at hT
          rw [if_pos HD.out] at hT
          obtain ⟨rfl, hB4⟩ := hT
          have HE := Lib.hid (And.intro (H3.out.below hB4) (hH.out.2.trans ((HB3.out.trans (hB4.mono HB3.out.size)).mono hH.out.2.size)))
          have k0 := cv_nil w4
          clear hB4 HS3 HB3 H1 H2 H3 hH
          go_wp2
          go_roundw
          case rel => exact ⟨i + 1, by go_num, by omega, by omega, HE⟩
          case measure => simp [intOf]; omega
    · have hE := Lib.hid hH.out.2
      clear hH
      go_wp2
      go_ret
      exact ⟨rfl, hE.out⟩
end Go.Proofs.Ytohmofhpbmhhjaa
