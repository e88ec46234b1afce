/- Disk: DiskCuts. -/
import Derived.Test.YtohmofhpbmhhjaaD14
namespace Go.Proofs.Ytohmofhpbmhhjaa
open Go Go.RowKit

structure CutRel (n done i : Nat) (s : St) : Prop where
  len : s.sure.length = 4
  wl : s.waits.length ≤ i
  age : s.age = 0
  z : n = 0 → s.cut = 0 ∧ s.down = false
  p : 0 < n → (s.down = false ∧ s.cut + done = n ∧ 0 < s.cut) ∨ (s.down = true ∧ done + 1 = n)
  db : done ≤ 2 * i
theorem go_off {s : St} (hd : s.down = false) (hc : s.cut ≠ 1) : s.go.2 = false ∧ s.go.1.down = false ∧ s.go.1.cut = s.cut - 1 ∧ s.go.1.sure = s.sure ∧ s.go.1.waits = s.waits ∧ s.go.1.age = s.age := by
  unfold St.go
  by_cases h : s.cut = 0
  · rw [if_pos h]; exact ⟨rfl, hd, by simp only; omega, rfl, rfl, rfl⟩
  · rw [if_neg h]; exact ⟨by simpa using hc, by simpa using hc, rfl, rfl, rfl, rfl⟩
theorem go_on {s : St} (hc : s.cut = 1) : s.go.2 = true ∧ s.go.1.down = true ∧ s.go.1.cut = 0 ∧ s.go.1.sure = s.sure ∧ s.go.1.waits = s.waits ∧ s.go.1.age = s.age := by
  unfold St.go
  rw [if_neg (by omega)]
  exact ⟨by simpa using hc, by simpa using hc, by simp only; omega, rfl, rfl, rfl⟩
theorem wr_ok {s : St} (hd : s.down = false) (hc : s.cut ≠ 1) (i : Int) (h0 : 0 ≤ i) (h1 : i < (s.sure.length : Int)) (l : List UInt8) (hl : l.length ≤ 64) :
    ∃ s', s.wrote i l = (s', 0) ∧ s'.down = false ∧ s'.cut = s.cut - 1 ∧ s'.sure = s.sure ∧ s'.waits.length = s.waits.length + 1 ∧ s'.age = s.age := by
  obtain ⟨g1, g2, g3, g4, g5, g6⟩ := go_off hd hc
  refine ⟨{ s.go.1 with waits := s.go.1.waits ++ [(i.toNat, pad l)] }, ?_, g2, g3, g4, by simp [g5], g6⟩
  unfold St.wrote
  rw [if_neg (by simp [hd]), if_neg (by simp; omega), if_neg (by omega), if_neg (by simp [g1])]
theorem wr_cut {s : St} (hd : s.down = false) (hc : s.cut = 1) (i : Int) (h0 : 0 ≤ i) (h1 : i < (s.sure.length : Int)) (l : List UInt8) (hl : l.length ≤ 64) :
    ∃ s', s.wrote i l = (s', 7) ∧ s'.down = true ∧ s'.cut = 0 ∧ s'.sure = s.sure ∧ s'.waits = s.waits ∧ s'.age = s.age := by
  obtain ⟨g1, g2, g3, g4, g5, g6⟩ := go_on hc
  refine ⟨s.go.1, ?_, g2, g3, g4, g5, g6⟩
  unfold St.wrote
  rw [if_neg (by simp [hd]), if_neg (by simp; omega), if_neg (by omega), if_pos g1]
theorem wr_down {s : St} (hd : s.down = true) (i : Int) (l : List UInt8) : s.wrote i l = (s, 7) := by
  unfold St.wrote
  rw [if_pos hd]
theorem fl_ok {s : St} (hd : s.down = false) (hc : s.cut ≠ 1) : ∃ s', s.flushed = (s', 0) ∧ s'.down = false ∧ s'.cut = s.cut - 1 ∧ s'.sure.length = s.sure.length ∧ s'.waits.length = 0 ∧ s'.age = s.age := by
  obtain ⟨g1, g2, g3, g4, g5, g6⟩ := go_off hd hc
  refine ⟨{ s.go.1 with sure := laid s.sure s.waits, waits := [] }, ?_, g2, g3, laid_len _ _, rfl, g6⟩
  unfold St.flushed
  rw [if_neg (by simp [hd]), if_neg (by simp [g1])]
theorem fl_cut {s : St} (hd : s.down = false) (hc : s.cut = 1) : ∃ s', s.flushed = (s', 7) ∧ s'.down = true ∧ s'.cut = 0 ∧ s'.sure = s.sure ∧ s'.waits = s.waits ∧ s'.age = s.age := by
  obtain ⟨g1, g2, g3, g4, g5, g6⟩ := go_on hc
  refine ⟨s.go.1, ?_, g2, g3, g4, g5, g6⟩
  unfold St.flushed
  rw [if_neg (by simp [hd]), if_pos g1]
theorem lit_byt' (w : World) (z : Int) (h0 : 0 ≤ z) (h1 : z < 256) : Byt (w.alloc (.cells #[.int .u8 z] 5)) (.slice (some ⟨w.heap.size, 0, none⟩) 1 1) [UInt8.ofNat z.toNat] := by
  have := lit_byt w (UInt8.ofNat z.toNat) (0, 0)
  rw [show ((UInt8.ofNat z.toNat).toNat : Int) = z by rw [UInt8.toNat_ofNat']; omega] at this
  exact this

set_option maxHeartbeats 4000000 in
theorem walk_cuts (n m : Nat) (hn : n < 256) (hm : m < 256) (w : World) :
    Calls Try.prog 6 #[.int .u8 (n : Int), .int .u8 (m : Int)] w fun e w' => e = .returned (.bool true) ∧ Below w.heap.size w w' := by
  have hnew : Calls Try.prog 10 #[.int .i64 4] w fun e w' => e = .returned (.tuple #[.pointer (some ⟨w.heap.size + 1, 0, none⟩), .int .i64 0]) ∧ Has w w' (w.heap.size + 1) w.heap.size 4 (St.new 4) := has_new 4 w w (Below.refl _ _) (by decide) (by decide)
  have HN := Lib.hid hnew
  clear hnew
  go_enter Try.func6, Try.ntmps6
  go_wp2_with fail
  refine HN.out.mono ?_
  rintro e w1 ⟨rfl, h1⟩
  have hc := has_cut h1 (n : Int) (by omega)
  rw [show (St.new 4).cutE (n : Int) = 0 by unfold St.cutE; rw [if_neg (by simp [St.new]), if_neg (by omega)], show (St.new 4).cutS (n : Int) = { St.new 4 with cut := n } by unfold St.cutS; rw [if_neg (by simp [St.new]), if_neg (by omega), Int.toNat_natCast]] at hc
  have HC := Lib.hid hc
  generalize w.heap.size + 1 = D at *
  generalize hS : w.heap.size = S at HC
  clear hc h1
  go_wp2_with fail
  refine HC.out.mono ?_
  rintro e w2 ⟨rfl, h2⟩
  have H2 := Lib.hid h2
  clear h2
  go_wp2_with fail
  clear HC
  go_loopw [7, 8] (fun dv iv wr => ∃ (done i : Nat) (s : St), dv = .int .i64 (done : Int) ∧ iv = .int .i64 (i : Int) ∧ i ≤ m ∧ Hid (CutRel n done i s) ∧ Hid (Has w wr D S 4 s)) (fun _ iv _ => m - (intOf iv).toNat)
  case atStart => exact ⟨0, 0, _, rfl, rfl, Nat.zero_le _, ⟨by simp [St.new], by simp [St.new], rfl, fun h => ⟨by simp [h], rfl⟩, fun h => Or.inl ⟨rfl, by simp, by simpa using h⟩, by omega⟩, H2.out⟩
  case round =>
    obtain ⟨done, i, s, rfl, rfl, hi, hR, hH⟩ := hrel
    by_cases hlt : i < m
    · have hbyte : Byt (wr.alloc (.cells #[.int .u8 (i : Int)] 5)) (.slice (some ⟨wr.heap.size, 0, none⟩) 1 1) [UInt8.ofNat (i : Int).toNat] := lit_byt' wr (i : Int) (by omega) (by omega)
      have hidx : 0 ≤ (i : Int) % 4 ∧ (i : Int) % 4 < (s.sure.length : Int) := by have := hR.out.len; omega
      have hw := has_write_new hH.out (w := wr.alloc (.cells #[.int .u8 (i : Int)] 5)) ((Below.refl _ _).alloc (Nat.le_refl _) _) ((i : Int) % 4) _ _ hbyte (fun g hg => by simp [Value.ownBlock] at hg; omega) (by have := hR.out.wl; omega)
      have hdb := hR.out.db
      clear hbyte
      have hlen := hR.out.len
      have hwl := hR.out.wl
      have hage := hR.out.age
      have hpn := hR.out.p
      have hzn := hR.out.z
      have hl1 : ([UInt8.ofNat (i : Int).toNat] : List UInt8).length ≤ 64 := by simp
      cases hd : s.down
      · by_cases hc1 : s.cut = 1
        · -- the power goes at the write
          have hn0 : 0 < n := by
            rcases Nat.eq_zero_or_pos n with h0 | h0
            · have := (hzn h0).1; omega
            · exact h0
          have hdn : done + 1 = n := by
            rcases hpn hn0 with h0 | h0
            · omega
            · rw [hd] at h0; cases h0.1
          obtain ⟨s', q0, q1, q2, q3, q4, q5⟩ := wr_cut hd hc1 _ hidx.1 hidx.2 _ hl1
          rw [q0] at hw
          have hrel : CutRel n done (i + 1) s' := ⟨by rw [q3]; exact hlen, by rw [q4]; omega, by rw [q5]; exact hage, fun h => by omega, fun _ => Or.inr ⟨q1, hdn⟩, by omega⟩
          have REL := Lib.hid hrel
          have Q1 := Lib.hid q1
          have HW := Lib.hid hw
          have hn0' : (0 : Int) < (n : Int) := by omega
          have hge : (n : Int) - 1 ≤ (done : Int) := by omega
          clear hw hd hpn hzn hc1 q0 q1 q2 q3 q4 q5 hrel hlen hwl hage hl1 hdn
          go_wp2_with fail
          refine HW.out.mono ?_
          rintro e w3 ⟨rfl, h3⟩
          have hdq := has_down h3
          rw [Q1.out] at hdq
          have HDN := Lib.hid hdq
          have HH := Lib.hid h3
          clear hdq h3
          go_wp2_with fail
          all_goals
            refine HDN.out.mono ?_
            rintro e w' ⟨rfl, rfl⟩
            go_wp2
            go_roundw
            case rel => exact ⟨done, i + 1, _, rfl, by go_num, by omega, REL.out, HH.out⟩
            case measure => simp [intOf]; omega
        · obtain ⟨s', q0, q1, q2, q3, q4, q5⟩ := wr_ok hd hc1 _ hidx.1 hidx.2 _ hl1
          rw [q0] at hw
          by_cases h3 : i % 3 = 2
          · have h3b : ((i : Int) % 3 == 2) = true := by rw [beq_iff_eq]; omega
            by_cases hc2 : s'.cut = 1
            · -- the power goes at the flush
              have hn0 : 0 < n := by
                rcases Nat.eq_zero_or_pos n with h0 | h0
                · have := (hzn h0).1; omega
                · exact h0
              have hdn : done + 2 = n := by
                rcases hpn hn0 with h0 | h0
                · omega
                · rw [hd] at h0; cases h0.1
              obtain ⟨t, r0, r1, r2, r3, r4, r5⟩ := fl_cut q1 hc2
              have hrel : CutRel n (done + 1) (i + 1) t := ⟨by rw [r3, q3]; exact hlen, by rw [r4, q4]; omega, by rw [r5, q5]; exact hage, fun h => by omega, fun _ => Or.inr ⟨r1, by omega⟩, by omega⟩
              have REL := Lib.hid hrel
              have R0 := Lib.hid r0
              have R1 := Lib.hid r1
              have HW := Lib.hid hw
              have hn0' : (0 : Int) < (n : Int) := by omega
              have hge : (n : Int) - 1 ≤ (done : Int) + 1 := by omega
              clear hw hd hpn hzn hc1 hc2 q0 q1 q2 q3 q4 q5 r0 r1 r2 r3 r4 r5 hrel hlen hwl hage hl1 hdn h3
              go_wp2_with fail
              refine HW.out.mono ?_
              rintro e w3 ⟨rfl, g3⟩
              have hf := has_flush g3
              rw [R0.out] at hf
              have HF := Lib.hid hf
              clear hf g3
              go_wp2_with fail
              refine HF.out.mono ?_
              rintro e w4 ⟨rfl, g4⟩
              have hdq := has_down g4
              rw [R1.out] at hdq
              have HDN := Lib.hid hdq
              have HH := Lib.hid g4
              clear hdq g4
              go_wp2_with fail
              refine HDN.out.mono ?_
              rintro e w' ⟨rfl, rfl⟩
              go_wp2
              go_roundw
              case rel => exact ⟨done + 1, i + 1, _, by go_num, by go_num, by omega, REL.out, HH.out⟩
              case measure => simp [intOf]; omega
            · -- both are done
              obtain ⟨t, r0, r1, r2, r3, r4, r5⟩ := fl_ok q1 hc2
              have hrel : CutRel n (done + 2) (i + 1) t := ⟨by rw [r3, q3]; exact hlen, by omega, by rw [r5, q5]; exact hage, fun h => ⟨by have := (hzn h).1; omega, r1⟩, fun h => Or.inl (by
                rcases hpn h with h0 | h0
                · exact ⟨r1, by omega, by omega⟩
                · rw [hd] at h0; cases h0.1), by omega⟩
              have REL := Lib.hid hrel
              have R0 := Lib.hid r0
              have R1 := Lib.hid r1
              have HW := Lib.hid hw
              clear hw hd hpn hzn hc1 hc2 q0 q1 q2 q3 q4 q5 r0 r1 r2 r3 r4 r5 hrel hlen hwl hage hl1 h3
              go_wp2_with fail
              refine HW.out.mono ?_
              rintro e w3 ⟨rfl, g3⟩
              have hf := has_flush g3
              rw [R0.out] at hf
              have HF := Lib.hid hf
              clear hf g3
              go_wp2_with fail
              refine HF.out.mono ?_
              rintro e w4 ⟨rfl, g4⟩
              have hdq := has_down g4
              rw [R1.out] at hdq
              have HDN := Lib.hid hdq
              have HH := Lib.hid g4
              clear hdq g4
              go_wp2_with fail
              all_goals
                refine HDN.out.mono ?_
                rintro e w' ⟨rfl, rfl⟩
                go_wp2
                go_roundw
                case rel => exact ⟨done + 2, i + 1, _, by go_num, by go_num, by omega, REL.out, HH.out⟩
                case measure => simp [intOf]; omega
          · have h3b : ((i : Int) % 3 == 2) = false := by rw [beq_eq_false_iff_ne]; omega
            have hrel : CutRel n (done + 1) (i + 1) s' := ⟨by rw [q3]; exact hlen, by rw [q4]; omega, by rw [q5]; exact hage, fun h => ⟨by have := (hzn h).1; omega, q1⟩, fun h => Or.inl (by
              rcases hpn h with h0 | h0
              · exact ⟨q1, by omega, by omega⟩
              · rw [hd] at h0; cases h0.1), by omega⟩
            have REL := Lib.hid hrel
            have Q1 := Lib.hid q1
            have HW := Lib.hid hw
            clear hw hd hpn hzn hc1 q0 q1 q2 q3 q4 q5 hrel hlen hwl hage hl1 h3
            go_wp2_with fail
            refine HW.out.mono ?_
            rintro e w3 ⟨rfl, g3⟩
            have hdq := has_down g3
            rw [Q1.out] at hdq
            have HDN := Lib.hid hdq
            have HH := Lib.hid g3
            clear hdq g3
            go_wp2_with fail
            all_goals
              refine HDN.out.mono ?_
              rintro e w' ⟨rfl, rfl⟩
              go_wp2
              go_roundw
              case rel => exact ⟨done + 1, i + 1, _, by go_num, by go_num, by omega, REL.out, HH.out⟩
              case measure => simp [intOf]; omega
      · have hn0 : 0 < n := by
          rcases Nat.eq_zero_or_pos n with h0 | h0
          · have := (hzn h0).2; rw [hd] at this; cases this
          · exact h0
        have hdn : done + 1 = n := by
          rcases hpn hn0 with h0 | h0
          · rw [hd] at h0; cases h0.1
          · exact h0.2
        rw [wr_down hd] at hw
        have hrel : CutRel n done (i + 1) s := ⟨hlen, by omega, hage, fun h => by omega, fun _ => Or.inr ⟨hd, hdn⟩, by omega⟩
        have REL := Lib.hid hrel
        have HW := Lib.hid hw
        have HD := Lib.hid hd
        have hn0' : (0 : Int) < (n : Int) := by omega
        have hge : (n : Int) - 1 ≤ (done : Int) := by omega
        clear hw hd hpn hzn hrel hlen hwl hage hl1 hdn
        go_wp2_with fail
        refine HW.out.mono ?_
        rintro e w3 ⟨rfl, h3⟩
        have hdq := has_down h3
        rw [HD.out] at hdq
        have HDN := Lib.hid hdq
        have HH := Lib.hid h3
        clear hdq h3
        go_wp2_with fail
        all_goals
          refine HDN.out.mono ?_
          rintro e w' ⟨rfl, rfl⟩
          go_wp2
          go_roundw
          case rel => exact ⟨done, i + 1, _, rfl, by go_num, by omega, REL.out, HH.out⟩
          case measure => simp [intOf]; omega
    · have hend : n = 0 ∨ done + 1 ≤ n := by
        rcases Nat.eq_zero_or_pos n with h0 | h0
        · exact Or.inl h0
        · rcases hR.out.p h0 with h1 | h1
          · exact Or.inr (by omega)
          · exact Or.inr (by omega)
      have hage := hR.out.age
      have hb := hH.out.bel
      have HL := Lib.hid (live_any wr)
      have HAGE := Lib.hid hage
      have HH := Lib.hid hH.out
      clear hR hage hb hH
      go_wp2_with fail
      refine HL.out.mono ?_
      rintro e w3 ⟨rfl, b3⟩
      have h3 := HH.out.below b3
      have hc := has_crash h3 (by rw [HAGE.out]; decide) (.slice none 0 0) [] 0 0 ⟨none, 0, rfl, fun j hj => by simp at hj⟩ (fun g hg _ => by simp [Value.ownBlock] at hg) (by simp)
      have HCR := Lib.hid hc
      clear hc h3 b3 HH HL
      rcases hend with hz | hz
      · subst hz
        go_wp2_with fail
        refine HCR.out.mono ?_
        rintro e w4 ⟨rfl, h4⟩
        have hdq : Calls Try.prog _ _ w4 fun e w' => e = .returned (.bool false) ∧ w4 = w' := has_down h4
        have hwq : Calls Try.prog _ _ w4 fun e w' => e = .returned (.int .i64 0) ∧ w4 = w' := has_waits h4
        have HDN := Lib.hid hdq
        have HWQ := Lib.hid hwq
        have HB := Lib.hid h4.bel
        clear hdq hwq h4 HCR
        go_wp2_with fail
        refine HDN.out.mono ?_
        rintro e w' ⟨rfl, rfl⟩
        go_wp2_with fail
        refine HWQ.out.mono ?_
        rintro e w' ⟨rfl, rfl⟩
        go_wp2
        go_ret
        exact ⟨rfl, HB.out⟩
      · have hzn : ((n : Int) == 0) = false := by rw [beq_eq_false_iff_ne]; omega
        have hle : (done : Int) ≤ (n : Int) - 1 := by omega
        go_wp2_with fail
        refine HCR.out.mono ?_
        rintro e w4 ⟨rfl, h4⟩
        have hdq : Calls Try.prog _ _ w4 fun e w' => e = .returned (.bool false) ∧ w4 = w' := has_down h4
        have hwq : Calls Try.prog _ _ w4 fun e w' => e = .returned (.int .i64 0) ∧ w4 = w' := has_waits h4
        have HDN := Lib.hid hdq
        have HWQ := Lib.hid hwq
        have HB := Lib.hid h4.bel
        clear hdq hwq h4 HCR
        go_wp2_with fail
        refine HDN.out.mono ?_
        rintro e w' ⟨rfl, rfl⟩
        go_wp2_with fail
        refine HWQ.out.mono ?_
        rintro e w' ⟨rfl, rfl⟩
        go_wp2
        go_ret
        exact ⟨rfl, HB.out⟩
end Go.Proofs.Ytohmofhpbmhhjaa
