import Derived.Test.YtdohgmbchmcemaaDoorW12
import Derived.Test.YtdohgmbchmcemaaDoorW4
namespace Go.Proofs.YtdohgmbchmcemaaDoor
open Go.RowKit

theorem unqGo_nil (acc : List UInt8) (pl : Nat) (esc : Bool) : unqGo [] acc pl esc = ([], pl, 3) := rfl
theorem unqGo_cons (p r k : Nat) (t : List (Nat × Nat × Nat)) (acc : List UInt8) (pl : Nat) (esc : Bool) :
    unqGo ((p, r, k) :: t) acc pl esc = if quotesR p r k esc = false then ([], pl, 4)
    else if p = 0 then unqGo t acc (pl + 1) esc
    else if esc = true ∨ (r ≠ 34 ∧ r ≠ 92) then unqGo t (acc ++ Lib.encodeRune (r : Int)) (pl + 1) false
    else if r = 92 then unqGo t acc (pl + 1) true
    else if 1024 < acc.length then ([], 0, 6) else (acc, p + 1, 0) := rfl

set_option maxHeartbeats 4000000 in
set_option maxRecDepth 100000 in
theorem refUnquote (s : ByteArray) (w : World) (hT : Tabs w) (hs : s.size ≤ 4398046511104) :
    Calls Tryd.prog 25 #[.string s] w fun e w' => e = .returned (res3 (unqF s)) ∧ Below w.heap.size w w' := by
  unfold unqF
  have hc := letters_any s w hT hs
  rw [letV_length] at hc
  generalize hF : unqGo (lets s 0) [] 0 false = F
  have HF := Lib.hid hF
  have hnl0 : (lets s 0).length ≤ s.size := by
    have h1 := lets_length s s.size 0
    have h2 : lets s 0 = letsF s s.size 0 := by unfold lets; rw [Nat.sub_zero]
    rw [← h2] at h1; exact h1
  generalize hLL : lets s 0 = L at *
  have HL := Lib.hid hLL
  generalize hn : L.length = n at *
  have HN := Lib.hid hn
  clear hF hLL hn
  go_enter Tryd.func25, Tryd.ntmps25
  go_wp2_with fail
  refine hc.mono ?_
  rintro e w1 ⟨v, rfl, hown, hb⟩
  obtain ⟨va, cap, rfl⟩ := own_shape hown
  have HOWN := Lib.hid hown
  clear hown hc
  go_wp2
  go_loopw [6, 7, 8] (fun ov bv iv wr => ∃ (i pos : Nat) (acc : List UInt8), iv = .int .i64 i ∧ bv = .int .i64 pos ∧ i ≤ pos ∧ i ≤ n ∧ pos ≤ s.size ∧ (i = 0 ↔ pos = 0) ∧ ov = .string ⟨acc.toArray⟩ ∧ acc.length ≤ pos ∧ L.drop i = lets s pos ∧ unqGo (lets s pos) acc i false = F ∧ Below w1.heap.size w1 wr) (fun _ _ iv _ => n - (intOf iv).toNat)
  case atStart => exact ⟨0, 0, [], rfl, rfl, Nat.le_refl _, Nat.zero_le _, Nat.zero_le _, Iff.rfl, rfl, by simp, by rw [List.drop_zero]; exact HL.out.symm, by rw [HL.out]; exact HF.out, Below.refl _ _⟩
  case round =>
    obtain ⟨i, pos, acc, rfl, rfl, hip, hiln, hple, hi0, rfl, hal, hdr, hgo, hbi⟩ := hrel
    by_cases hp : pos < s.size
    · obtain ⟨r, k, hd⟩ : ∃ r k, Utf8.decode s pos = (r, k) := ⟨_, _, rfl⟩
      have hwd := dec_le s pos hp
      rw [lets_cons s pos hp] at hdr hgo
      rw [hd] at hwd hdr hgo
      simp only at hwd hdr hgo
      obtain ⟨hin, hx, hdr2⟩ := drop_cons hdr
      have hin' : i < n := by have := HN.out; omega
      obtain ⟨g, cap', hv, hg, hcells⟩ := own_cells HOWN.out (by omega)
      injection hv with hva hvn hvc
      subst hva hvc
      have hci0 : w1.cell? ⟨g, i, none⟩ = some (lv s (pos, r, k)) := by
        rw [hcells i hin']
        exact letV_at s i _ (by rw [HL.out]; exact hx)
      have hci := (hbi.cell (p := ⟨g, i, none⟩) hg).trans hci0
      have hpl := refPlain s pos r k hp hd wr (hT.below (hb.trans (hbi.mono hb.size)) (Nat.le_refl _))
      have e34 := letter_eq s pos r k 34 hp hd (by omega)
      have e92 := letter_eq s pos r k 92 hp hd (by omega)
      have hts := ext_size s pos k hwd.2.2
      have henc := letter_enc s pos r k hp hd
      have hlead := lead_byte s pos r k hp hd
      unfold lv at hci hpl
      simp only at hci hpl
      generalize s.extract pos (pos + k) = t at *
      have HD2 := Lib.hid hdr2
      have hz := hbi.size
      have e34' : (t.toList == [34]) = decide (r = 34) := e34
      have e92' : (t.toList == [92]) = decide (r = 92) := e92
      have htl : t.data.toList.length = t.size := (Lib.size_eq t).symm
      have HX := Lib.hid hx
      have HCS := Lib.hid hcells
      clear hdr hx hdr2 hcells hci0 hin hvn e34 e92
      rw [unqGo_cons] at hgo
      by_cases hi : i = 0
      · have hpos0 := hi0.1 hi
        have hb0 : ((i : Int) == 0) = true := by rw [beq_iff_eq]; omega
        by_cases h34 : r = 34
        · have hq : quotesR pos r k false = true := by unfold quotesR; rw [if_pos hpos0]; simp [h34]
          have hpt : plainR r k = true := by rw [h34]; rfl
          have hk1 : k = 1 := (hlead.1 (by omega)).2
          rw [hq, if_neg (by simp), if_pos hpos0] at hgo
          rw [hpt] at hpl
          have g34 : (t.toList == [34]) = true := by rw [e34']; exact decide_eq_true h34
          have HG := Lib.hid hgo
          clear hq hpt hgo e34' e92' h34 hlead henc hi hd
          go_wp2_with fail
          refine hpl.mono ?_
          rintro e w2 ⟨rfl, hb3⟩
          have hci2 := (hb3.cell (p := ⟨g, i, none⟩) (by simp; omega)).trans hci
          have hb4 := hbi.trans (hb3.mono hz)
          clear hci hbi hb3 hpl
          go_wp2
          go_roundw
          case rel => exact ⟨i + 1, pos + k, acc, by go_num, by first | rfl | (congr 1; omega), by omega, by omega, hwd.2.2, by omega, rfl, by omega, HD2.out, HG.out, hb4⟩
          case measure => simp [intOf]; omega
        · have hq : quotesR pos r k false = false := by unfold quotesR; rw [if_pos hpos0]; simp [h34]
          rw [hq, if_pos rfl] at hgo
          have g34 : (t.toList == [34]) = false := by rw [e34']; exact decide_eq_false h34
          have HG := Lib.hid hgo
          clear hq hgo e34' e92' h34 hlead henc hi hd
          go_wp2
          go_ret3
          exact ⟨ret_res3 HG.out, hb.trans (hbi.mono hb.size)⟩
      · have hpos0 : ¬ pos = 0 := fun h => hi (hi0.2 h)
        have hb0 : ((i : Int) == 0) = false := by rw [beq_eq_false_iff_ne]; omega
        have hqq : quotesR pos r k false = plainR r k := by unfold quotesR; rw [if_neg hpos0, if_neg (by simp)]
        rw [hqq] at hgo
        cases hq : plainR r k with
        | false =>
          rw [hq] at hpl hgo
          rw [if_pos rfl] at hgo
          have HG := Lib.hid hgo
          clear hgo hq hqq e34' e92' hlead henc hi hd
          go_wp2_with fail
          refine hpl.mono ?_
          rintro e w2 ⟨rfl, hb3⟩
          have hci2 := (hb3.cell (p := ⟨g, i, none⟩) (by simp; omega)).trans hci
          have hb4 := hbi.trans (hb3.mono hz)
          clear hci hbi hb3 hpl
          go_wp2
          go_ret3
          exact ⟨ret_res3 HG.out, hb.trans (hb4.mono hb.size)⟩
        | true =>
          have hE := henc (plain_width hq)
          rw [hq] at hpl hgo
          rw [if_neg (by simp), if_neg hpos0] at hgo
          have HE := Lib.hid hE
          have HTL := Lib.hid htl
          clear hE htl hq hqq henc hd
          by_cases h34 : r = 34
          · have hk1 : k = 1 := (hlead.1 (by omega)).2
            rw [if_neg (by simp [h34]), if_neg (by omega)] at hgo
            have g34 : (t.toList == [34]) = true := by rw [e34']; exact decide_eq_true h34
            clear e34' e92' h34 hlead
            by_cases h1024 : 1024 < acc.length
            · rw [if_pos h1024] at hgo
              have HG := Lib.hid hgo
              clear hgo hi
              go_wp2_with fail
              refine hpl.mono ?_
              rintro e w2 ⟨rfl, hb3⟩
              have hci2 := (hb3.cell (p := ⟨g, i, none⟩) (by simp; omega)).trans hci
              have hb4 := hbi.trans (hb3.mono hz)
              clear hci hbi hb3 hpl
              go_wp2
              go_ret3
              exact ⟨ret_res3 HG.out, hb.trans (hb4.mono hb.size)⟩
            · rw [if_neg h1024] at hgo
              have HG := Lib.hid hgo
              clear hgo hi
              go_wp2_with fail
              refine hpl.mono ?_
              rintro e w2 ⟨rfl, hb3⟩
              have hci2 := (hb3.cell (p := ⟨g, i, none⟩) (by simp; omega)).trans hci
              have hb4 := hbi.trans (hb3.mono hz)
              clear hci hbi hb3 hpl
              go_wp2
              go_ret3
              refine ⟨?_, hb.trans (hb4.mono hb.size)⟩
              rw [← HG.out]
              unfold res3
              simp only
              congr 4 <;> omega
          · have g34 : (t.toList == [34]) = false := by rw [e34']; exact decide_eq_false h34
            by_cases h92 : r = 92
            · have hk1 : k = 1 := (hlead.1 (by omega)).2
              have g92 : (t.toList == [92]) = true := by rw [e92']; exact decide_eq_true h92
              rw [if_neg (by simp [h92]), if_pos h92] at hgo
              clear e34' e92' h34 h92 hlead
              subst hk1
              by_cases hp2 : pos + 1 < s.size
              · obtain ⟨r2, k2, hd2⟩ : ∃ r2 k2, Utf8.decode s (pos + 1) = (r2, k2) := ⟨_, _, rfl⟩
                have hwd2 := dec_le s (pos + 1) hp2
                have hdr2 := HD2.out
                rw [lets_cons s (pos + 1) hp2] at hgo hdr2
                rw [hd2] at hwd2 hgo hdr2
                simp only at hwd2 hgo hdr2
                obtain ⟨hin2, hx2, hdr3⟩ := drop_cons hdr2
                have hin2' : i + 1 < n := by have := HN.out; omega
                have hcj0 : w1.cell? ⟨g, i + 1, none⟩ = some (lv s (pos + 1, r2, k2)) := by
                  rw [HCS.out (i + 1) hin2']
                  exact letV_at s (i + 1) _ (by rw [HL.out]; exact hx2)
                have hcj := (hbi.cell (p := ⟨g, i + 1, none⟩) hg).trans hcj0
                have f34 : ((s.extract (pos + 1) (pos + 1 + k2)).toList == [34]) = decide (r2 = 34) := letter_eq s (pos + 1) r2 k2 34 hp2 hd2 (by omega)
                have f92 : ((s.extract (pos + 1) (pos + 1 + k2)).toList == [92]) = decide (r2 = 92) := letter_eq s (pos + 1) r2 k2 92 hp2 hd2 (by omega)
                have hts2 := ext_size s (pos + 1) k2 hwd2.2.2
                have henc2 := letter_enc s (pos + 1) r2 k2 hp2 hd2
                have hlead2 := lead_byte s (pos + 1) r2 k2 hp2 hd2
                unfold lv at hcj
                simp only at hcj
                generalize s.extract (pos + 1) (pos + 1 + k2) = t2 at *
                have htl2 : t2.data.toList.length = t2.size := (Lib.size_eq t2).symm
                have HTL2 := Lib.hid htl2
                have hlast : ((i : Int) + 1 == (n : Int)) = false := by rw [beq_eq_false_iff_ne]; omega
                have HD3 := Lib.hid hdr3
                rw [unqGo_cons] at hgo
                clear hd2 hdr2 hx2 hin2 hdr3 hcj0 htl2 hi
                have hq2 : quotesR (pos + 1) r2 k2 true = (decide (r2 = 34) || decide (r2 = 92)) := by unfold quotesR; rw [if_neg (by omega), if_pos rfl]
                rw [hq2] at hgo
                by_cases q34 : r2 = 34
                · have hk2 : k2 = 1 := (hlead2.1 (by omega)).2
                  rw [if_neg (by simp [q34]), if_neg (by omega), if_pos (Or.inl rfl)] at hgo
                  have e2 := henc2 (by omega)
                  rw [← e2] at hgo
                  have G34 : (t2.toList == [34]) = true := by rw [f34]; exact decide_eq_true q34
                  have HG := Lib.hid hgo
                  clear hgo f34 f92 q34 hlead2 hq2 henc2 e2
                  go_wp2_with fail
                  refine hpl.mono ?_
                  rintro e w2 ⟨rfl, hb3⟩
                  have hci2 := (hb3.cell (p := ⟨g, i, none⟩) (by simp; omega)).trans hci
                  have hcj2 := (hb3.cell (p := ⟨g, i + 1, none⟩) (by simp; omega)).trans hcj
                  have hb4 := hbi.trans (hb3.mono hz)
                  clear hci hcj hbi hb3 hpl
                  have hsum : acc.length + t2.size ≤ 9223372036854775807 := by omega
                  go_wp2
                  go_roundw
                  case rel =>
                    refine ⟨i + 2, pos + 2, acc ++ t2.data.toList, by first | rfl | (congr 1; omega), by first | rfl | (congr 1; omega), by omega, by omega, by omega, by omega, ?_, ?_, ?_, ?_, hb4⟩
                    · first | rfl | simp only [app_str]
                    · rw [List.length_append, HTL2.out]; omega
                    · have := HD3.out
                      rw [show i + 1 + 1 = i + 2 by omega, show pos + 1 + k2 = pos + 2 by omega] at this
                      exact this
                    · have := HG.out
                      rw [show i + 1 + 1 = i + 2 by omega, show pos + 1 + k2 = pos + 2 by omega] at this
                      exact this
                  case measure => simp [intOf]; omega
                · have G34 : (t2.toList == [34]) = false := by rw [f34]; exact decide_eq_false q34
                  by_cases q92 : r2 = 92
                  · have hk2 : k2 = 1 := (hlead2.1 (by omega)).2
                    rw [if_neg (by simp [q92]), if_neg (by omega), if_pos (Or.inl rfl)] at hgo
                    have e2 := henc2 (by omega)
                    rw [← e2] at hgo
                    have G92 : (t2.toList == [92]) = true := by rw [f92]; exact decide_eq_true q92
                    have HG := Lib.hid hgo
                    clear hgo f34 f92 q34 q92 hlead2 hq2 henc2 e2
                    go_wp2_with fail
                    refine hpl.mono ?_
                    rintro e w2 ⟨rfl, hb3⟩
                    have hci2 := (hb3.cell (p := ⟨g, i, none⟩) (by simp; omega)).trans hci
                    have hcj2 := (hb3.cell (p := ⟨g, i + 1, none⟩) (by simp; omega)).trans hcj
                    have hb4 := hbi.trans (hb3.mono hz)
                    clear hci hcj hbi hb3 hpl
                    have hsum : acc.length + t2.size ≤ 9223372036854775807 := by omega
                    go_wp2
                    go_roundw
                    case rel =>
                      refine ⟨i + 2, pos + 2, acc ++ t2.data.toList, by first | rfl | (congr 1; omega), by first | rfl | (congr 1; omega), by omega, by omega, by omega, by omega, ?_, ?_, ?_, ?_, hb4⟩
                      · first | rfl | simp only [app_str]
                      · rw [List.length_append, HTL2.out]; omega
                      · have := HD3.out
                        rw [show i + 1 + 1 = i + 2 by omega, show pos + 1 + k2 = pos + 2 by omega] at this
                        exact this
                      · have := HG.out
                        rw [show i + 1 + 1 = i + 2 by omega, show pos + 1 + k2 = pos + 2 by omega] at this
                        exact this
                    case measure => simp [intOf]; omega
                  · have G92 : (t2.toList == [92]) = false := by rw [f92]; exact decide_eq_false q92
                    rw [if_pos (by simp [q34, q92])] at hgo
                    have HG := Lib.hid hgo
                    clear hgo f34 f92 q34 q92 hlead2 hq2 henc2
                    go_wp2_with fail
                    refine hpl.mono ?_
                    rintro e w2 ⟨rfl, hb3⟩
                    have hci2 := (hb3.cell (p := ⟨g, i, none⟩) (by simp; omega)).trans hci
                    have hcj2 := (hb3.cell (p := ⟨g, i + 1, none⟩) (by simp; omega)).trans hcj
                    have hb4 := hbi.trans (hb3.mono hz)
                    clear hci hcj hbi hb3 hpl
                    go_wp2
                    go_ret3
                    exact ⟨ret_res3 HG.out, hb.trans (hb4.mono hb.size)⟩
              · have hdr2 := HD2.out
                rw [lets_nil s (pos + 1) hp2] at hgo hdr2
                have hlen := drop_nil hdr2
                have hlast : ((i : Int) + 1 == (n : Int)) = true := by rw [beq_iff_eq]; have := HN.out; omega
                rw [unqGo_nil] at hgo
                have HG := Lib.hid hgo
                clear hgo hdr2 hlen hi
                go_wp2_with fail
                refine hpl.mono ?_
                rintro e w2 ⟨rfl, hb3⟩
                have hci2 := (hb3.cell (p := ⟨g, i, none⟩) (by simp; omega)).trans hci
                have hb4 := hbi.trans (hb3.mono hz)
                clear hci hbi hb3 hpl
                go_wp2
                go_ret3
                exact ⟨ret_res3 HG.out, hb.trans (hb4.mono hb.size)⟩
            · have g92 : (t.toList == [92]) = false := by rw [e92']; exact decide_eq_false h92
              rw [if_pos (Or.inr ⟨h34, h92⟩)] at hgo
              have HG := Lib.hid hgo
              clear hgo e34' e92' h34 h92 hlead hi
              go_wp2_with fail
              refine hpl.mono ?_
              rintro e w2 ⟨rfl, hb3⟩
              have hci2 := (hb3.cell (p := ⟨g, i, none⟩) (by simp; omega)).trans hci
              have hb4 := hbi.trans (hb3.mono hz)
              clear hci hbi hb3 hpl
              have hsum : acc.length + t.size ≤ 9223372036854775807 := by omega
              go_wp2
              go_roundw
              case rel =>
                refine ⟨i + 1, pos + k, acc ++ t.data.toList, by go_num, by first | rfl | (congr 1; omega), by omega, by omega, hwd.2.2, by omega, ?_, ?_, HD2.out, ?_, hb4⟩
                · first | rfl | simp only [app_str]
                · rw [List.length_append, HTL.out]; omega
                · have := HG.out
                  rw [HE.out]
                  exact this
              case measure => simp [intOf]; omega
    · rw [lets_nil s pos hp] at hdr hgo
      have hni := drop_nil hdr
      have hni' : ¬ i < n := by have := HN.out; omega
      obtain rfl : i = n := by have := HN.out; omega
      rw [unqGo_nil] at hgo
      have HG := Lib.hid hgo
      clear hdr hgo
      go_wp2
      go_ret3
      exact ⟨ret_res3 HG.out, hb.trans (hbi.mono hb.size)⟩
end Go.Proofs.YtdohgmbchmcemaaDoor
