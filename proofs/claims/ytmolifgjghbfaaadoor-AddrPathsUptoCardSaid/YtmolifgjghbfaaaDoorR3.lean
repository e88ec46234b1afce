/- The reference's domain. -/
import Derived.Test.YtmolifgjghbfaaaDoorR2
namespace Go.Proofs.YtmolifgjghbfaaaDoor
open Go.RowKit

def domRes (s : ByteArray) (at' : Nat) : Int := if (readF (s.data.toList.drop at') 6 0 at').1 = 9 then ((readF (s.data.toList.drop at') 6 0 at').2 : Int) else if (readF (s.data.toList.drop at') 6 0 at').1 = 7 then ((lets s 0).length : Int) else -1
def resQ (s : ByteArray) (q : Nat × Nat) : Int := if q.1 = 9 then (q.2 : Int) else if q.1 = 7 then ((lets s 0).length : Int) else -1
def Prev (w : World) (g pos far : Nat) : Prop := far ≠ 6 → 1 ≤ pos ∧ ∃ u : ByteArray, w.cell? ⟨g, pos - 1, none⟩ = some (.string u) ∧ (u.toList == [45]) = decide (far = 8)
theorem Prev.of {w : World} {g pos r far : Nat} {s t : ByteArray} (L : LetterAt s w g pos t r) (h : (r = 45) ↔ (far = 8)) : Prev w g (pos + 1) far := by
  intro _
  refine ⟨by omega, t, L.cell, ?_⟩
  have := L.is 45 (by omega)
  rw [show (t.toList == [45]) = decide (r = 45) from this, Bool.eq_iff_iff]
  simpa using h
theorem resQ9 (s : ByteArray) (p : Nat) : resQ s (9, p) = p := rfl
theorem ret_i {a b : Int} (h : a = b) : Ending.returned (.int .i64 a) = .returned (.int .i64 b) := by rw [h]

set_option maxHeartbeats 4000000 in
set_option maxRecDepth 100000 in
theorem refDomain (s : ByteArray) (g cap at' : Nat) (w : World) (hs : s.size ≤ 4398046511104) (hc : Cells s w g) (hr : Run s at') :
    Calls Tryd.prog 23 #[.slice (some ⟨g, 0, none⟩) (lets s 0).length cap, .int .i64 at'] w fun e w' => e = .returned (.int .i64 (domRes s at')) ∧ w = w' := by
  have hQ : domRes s at' = resQ s (readF (s.data.toList.drop at') 6 0 at') := rfl
  rw [hQ]
  generalize hF : readF (s.data.toList.drop at') 6 0 at' = F
  have HF := Lib.hid hF
  have hn := lets_len0 s
  generalize hL : (lets s 0).length = n at *
  have HL := Lib.hid hL
  have hat := hr.1
  have hat2 := hr.2.2
  have HC := Lib.hid hc
  have HR := Lib.hid hr
  rw [hL] at hat2
  clear hF hQ hc hr hL
  go_enter Tryd.func23, Tryd.ntmps23
  go_wp2
  go_loop [5, 6, 7] (fun lv iv _fv => ∃ (len pos far : Nat), lv = .int .i64 len ∧ iv = .int .i64 pos ∧ Run s pos ∧ len ≤ pos ∧ (far = 6 ∧ len = 0 ∨ (far = 7 ∨ far = 8) ∧ 0 < len) ∧ Prev w g pos far ∧ readF (s.data.toList.drop pos) far len pos = F) (fun _ iv _ => s.size - (intOf iv).toNat)
  case atStart => exact ⟨0, at', 6, rfl, rfl, HR.out, Nat.zero_le _, Or.inl ⟨rfl, rfl⟩, fun h => absurd rfl h, HF.out⟩
  case round =>
    obtain ⟨len, pos, far, rfl, rfl, hrun, hlp, hst, hprev, hgo⟩ := hrel
    have hpz := hrun.1
    by_cases hp : pos < s.size
    · obtain ⟨t, r, L⟩ := letter_at s w g pos HC.out hrun hp
      have hlt := L.lt
      rw [HL.out] at hlt
      have hcell := L.cell
      have hone := fun W => refOne_letter s W w g pos t ⟨#[45]⟩ r L (by decide) (by decide)
      rw [any_minus] at hone
      have e46 : (t.toList == [46]) = decide (r = 46) := L.is 46 (by omega)
      have e45 : (t.toList == [45]) = decide (r = 45) := L.is 45 (by omega)
      have hbyte : r < 128 → (s[pos]'hp).toNat = r := by
        intro h
        have h1 := L.byte
        rw [get_lt s pos hp, L.same h] at h1
        exact h1.symm
      have hhigh : 128 ≤ r → 128 ≤ (s[pos]'hp).toNat := by
        intro h
        have h1 := L.byte
        rw [get_lt s pos hp] at h1
        have := L.high h; omega
      rw [list_at s pos hp, readF_cons] at hgo
      have hkey : nextF far len (s[pos]'hp).toNat = nextLabelF far len r := by
        by_cases h : r < 128
        · rw [hbyte h, next_dom far len r (by omega)]
        · rw [next_high _ _ _ (by have := hhigh (by omega); omega), ← next_dom far len r (by omega), next_high _ _ _ (by omega)]
      rw [hkey] at hgo
      have hst' : far = 6 ∨ far = 7 ∨ far = 8 := by omega
      by_cases h9 : nextLabelF far len r = 9
      · rw [if_pos h9] at hgo
        have hans : resQ s F = (pos : Int) := by rw [← hgo]; rfl
        have HA := Lib.hid hans
        -- the reference tells this place
        by_cases h46 : r = 46
        · have g46 : (t.toList == [46]) = true := by rw [e46]; exact decide_eq_true h46
          rcases hst with ⟨hf6, hl0⟩ | ⟨hf, hl1⟩
          · subst hl0
            clear hone hgo hans hprev e46 e45 hbyte hhigh hkey h9 h46 hst' L hrun hf6
            go_wp2
            go_ret
            exact ⟨ret_i HA.out.symm, rfl⟩
          · have hf8 : far = 8 := by
              rcases hf with rfl | rfl
              · exfalso
                rw [h46] at h9
                revert h9
                unfold nextLabelF
                rw [if_neg (by intro h; exact absurd h.1 (by decide)), if_neg (by omega), if_pos ⟨rfl, rfl⟩]
                omega
              · rfl
            obtain ⟨hp1, u, hu, hu2⟩ := hprev (by omega)
            rw [decide_eq_true hf8] at hu2
            have hl2 : ((len : Int) == 0) = false := by rw [beq_eq_false_iff_ne]; omega
            have q1 : (0 : Int) ≤ (pos : Int) - 1 := by omega
            have q2 : ((pos : Int) - 1).toNat = pos - 1 := by omega
            clear hone hgo hans hprev e46 e45 hbyte hhigh hkey h9 h46 hst' L hrun hf hf8
            go_wp2
            go_ret
            exact ⟨ret_i HA.out.symm, rfl⟩
        · have g46 : (t.toList == [46]) = false := by rw [e46]; exact decide_eq_false h46
          cases ho : (decide (r < 128) && (alnumR r || decide (r = 45))) with
          | false =>
            rw [ho] at hone
            clear hgo hans hprev e46 e45 hbyte hhigh hkey h9 h46 hst' L hrun hst ho
            go_wp2_with (go_at_call 22; refine (hone _).mono ?_; rintro e w' ⟨rfl, rfl⟩)
            go_ret
            exact ⟨ret_i HA.out.symm, rfl⟩
          | true =>
            rw [ho] at hone
            by_cases h45 : r = 45
            · have g45 : (t.toList == [45]) = true := by rw [e45]; exact decide_eq_true h45
              rcases hst with ⟨hf6, hl0⟩ | ⟨hf, hl1⟩
              · subst hl0
                clear hgo hans hprev e46 e45 hbyte hhigh hkey h9 h46 hst' L hrun hf6 ho h45
                go_wp2_with (go_at_call 22; refine (hone _).mono ?_; rintro e w' ⟨rfl, rfl⟩)
                go_ret
                exact ⟨ret_i HA.out.symm, rfl⟩
              · have hlen : 62 ≤ len := by
                  rcases Nat.lt_or_ge len 62 with h | h
                  · exfalso
                    rw [h45] at h9
                    revert h9
                    unfold nextLabelF
                    rw [if_neg (by intro h; exact absurd h.1 (by decide)), if_pos ⟨rfl, by omega, h⟩]
                    omega
                  · exact h
                have hl2 : ((len : Int) == 0) = false := by rw [beq_eq_false_iff_ne]; omega
                clear hgo hans hprev e46 e45 hbyte hhigh hkey h9 h46 hst' L hrun hf ho h45
                by_cases h63 : 63 ≤ len
                · go_wp2_with (go_at_call 22; refine (hone _).mono ?_; rintro e w' ⟨rfl, rfl⟩)
                  go_ret
                  exact ⟨ret_i HA.out.symm, rfl⟩
                · go_wp2_with (go_at_call 22; refine (hone _).mono ?_; rintro e w' ⟨rfl, rfl⟩)
                  go_ret
                  exact ⟨ret_i HA.out.symm, rfl⟩
            · have g45 : (t.toList == [45]) = false := by rw [e45]; exact decide_eq_false h45
              have hal : alnumR r = true := by
                rw [decide_eq_false h45, Bool.or_false, Bool.and_eq_true] at ho
                exact ho.2
              have hlen : 63 ≤ len := by
                rcases Nat.lt_or_ge len 63 with h | h
                · exfalso
                  revert h9
                  unfold nextLabelF
                  rw [if_pos ⟨hal, h⟩]
                  omega
                · exact h
              have hl2 : ((len : Int) == 0) = false := by rw [beq_eq_false_iff_ne]; omega
              clear hgo hans hprev e46 e45 hbyte hhigh hkey h9 h46 hst' L hrun hst ho h45 hal
              go_wp2_with (go_at_call 22; refine (hone _).mono ?_; rintro e w' ⟨rfl, rfl⟩)
              go_ret
              exact ⟨ret_i HA.out.symm, rfl⟩
      · rw [if_neg h9] at hgo
        have hlow : r < 128 := by
          rcases label_ok far len r h9 with h | h | h
          · have := alnum_low h; omega
          · omega
          · omega
        have hrun2 := (L.low hlow).2.1
        have HRUN := Lib.hid hrun2
        by_cases h46 : r = 46
        · have g46 : (t.toList == [46]) = true := by rw [e46]; exact decide_eq_true h46
          have hf7 : far = 7 := by
            rcases Nat.lt_or_ge far 7 with h | h
            · exfalso
              apply h9
              rw [h46]
              unfold nextLabelF
              rw [if_neg (by intro h; exact absurd h.1 (by decide)), if_neg (by omega), if_neg (by omega)]
            · rcases hst' with h1 | h1 | h1
              · omega
              · exact h1
              · exfalso
                apply h9
                rw [h46]
                unfold nextLabelF
                rw [if_neg (by intro h; exact absurd h.1 (by decide)), if_neg (by omega), if_neg (by omega)]
          have hnx : nextLabelF far len r = 6 := by
            rw [h46, hf7]
            unfold nextLabelF
            rw [if_neg (by intro h; exact absurd h.1 (by decide)), if_neg (by omega), if_pos ⟨rfl, rfl⟩]
          rw [hnx, lenF_local (by omega)] at hgo
          have hl1 : 0 < len := by omega
          obtain ⟨hp1, u, hu, hu2⟩ := hprev (by omega)
          rw [decide_eq_false (show ¬ far = 8 by omega)] at hu2
          have hl2 : ((len : Int) == 0) = false := by rw [beq_eq_false_iff_ne]; omega
          have q1 : (0 : Int) ≤ (pos : Int) - 1 := by omega
          have q2 : ((pos : Int) - 1).toNat = pos - 1 := by omega
          have HG := Lib.hid hgo
          clear hone hgo hprev e46 e45 hbyte hhigh hkey h9 h46 hst' L hrun hst hf7 hnx hrun2
          go_wp2
          go_round
          case rel => exact ⟨0, pos + 1, 6, rfl, by go_num, HRUN.out, by omega, Or.inl ⟨rfl, rfl⟩, fun h => absurd rfl h, HG.out⟩
          case measure => simp [intOf]; omega
        · have g46 : (t.toList == [46]) = false := by rw [e46]; exact decide_eq_false h46
          by_cases h45 : r = 45
          · have g45 : (t.toList == [45]) = true := by rw [e45]; exact decide_eq_true h45
            have hcond : far ≠ 6 ∧ len < 62 := by
              refine Decidable.byContradiction fun h => h9 ?_
              rw [h45]
              unfold nextLabelF
              rw [if_neg (by intro h; exact absurd h.1 (by decide)), if_neg (by intro h2; exact h ⟨h2.2.1, h2.2.2⟩), if_neg (by omega)]
            have hnx : nextLabelF far len r = 8 := by
              rw [h45]
              unfold nextLabelF
              rw [if_neg (by intro h; exact absurd h.1 (by decide)), if_pos ⟨rfl, hcond.1, hcond.2⟩]
            rw [hnx, show lenF 8 len = len + 1 from rfl] at hgo
            have ho : (decide (r < 128) && (alnumR r || decide (r = 45))) = true := by rw [h45]; rfl
            rw [ho] at hone
            have hl1 : 0 < len := by omega
            have hl2 : ((len : Int) == 0) = false := by rw [beq_eq_false_iff_ne]; omega
            have hl3 := hcond.2
            have HP := Lib.hid (Prev.of (far := 8) L (by simp [h45]))
            have HG := Lib.hid hgo
            clear hgo hprev e46 e45 hbyte hhigh hkey h9 h46 hst' L hrun hst hnx hrun2 ho h45 hcond
            go_wp2_with (go_at_call 22; refine (hone _).mono ?_; rintro e w' ⟨rfl, rfl⟩)
            go_round
            case rel => exact ⟨len + 1, pos + 1, 8, by go_num, by go_num, HRUN.out, by omega, Or.inr ⟨Or.inr rfl, by omega⟩, HP.out, HG.out⟩
            case measure => simp [intOf]; omega
          · have g45 : (t.toList == [45]) = false := by rw [e45]; exact decide_eq_false h45
            have hal : alnumR r = true := by
              rcases label_ok far len r h9 with h | h | h
              · exact h
              · exact absurd h h45
              · exact absurd h h46
            have hlen : len < 63 := by
              refine Decidable.byContradiction fun h => h9 ?_
              unfold nextLabelF
              rw [if_neg (by omega), if_neg (by omega), if_neg (by omega)]
            have hnx : nextLabelF far len r = 7 := by unfold nextLabelF; rw [if_pos ⟨hal, hlen⟩]
            rw [hnx, show lenF 7 len = len + 1 from rfl] at hgo
            have ho : (decide (r < 128) && (alnumR r || decide (r = 45))) = true := by rw [decide_eq_true hlow, hal]; rfl
            rw [ho] at hone
            have HP := Lib.hid (Prev.of (far := 7) L (by simp [h45]))
            have HG := Lib.hid hgo
            have hl0 : len = 0 ∨ 0 < len := by omega
            clear hgo hprev e46 e45 hbyte hhigh hkey h9 h46 hst' L hrun hst hnx hrun2 ho h45 hal
            rcases hl0 with hl0 | hl0
            · have hl2 : ((len : Int) == 0) = true := by rw [beq_iff_eq]; omega
              clear hl0
              by_cases h62 : 62 ≤ len
              · go_wp2_with (go_at_call 22; refine (hone _).mono ?_; rintro e w' ⟨rfl, rfl⟩)
                go_round
                case rel => exact ⟨len + 1, pos + 1, 7, by go_num, by go_num, HRUN.out, by omega, Or.inr ⟨Or.inl rfl, by omega⟩, HP.out, HG.out⟩
                case measure => simp [intOf]; omega
              · go_wp2_with (go_at_call 22; refine (hone _).mono ?_; rintro e w' ⟨rfl, rfl⟩)
                go_round
                case rel => exact ⟨len + 1, pos + 1, 7, by go_num, by go_num, HRUN.out, by omega, Or.inr ⟨Or.inl rfl, by omega⟩, HP.out, HG.out⟩
                case measure => simp [intOf]; omega
            · have hl2 : ((len : Int) == 0) = false := by rw [beq_eq_false_iff_ne]; omega
              by_cases h62 : 62 ≤ len
              · go_wp2_with (go_at_call 22; refine (hone _).mono ?_; rintro e w' ⟨rfl, rfl⟩)
                go_round
                case rel => exact ⟨len + 1, pos + 1, 7, by go_num, by go_num, HRUN.out, by omega, Or.inr ⟨Or.inl rfl, by omega⟩, HP.out, HG.out⟩
                case measure => simp [intOf]; omega
              · go_wp2_with (go_at_call 22; refine (hone _).mono ?_; rintro e w' ⟨rfl, rfl⟩)
                go_round
                case rel => exact ⟨len + 1, pos + 1, 7, by go_num, by go_num, HRUN.out, by omega, Or.inr ⟨Or.inl rfl, by omega⟩, HP.out, HG.out⟩
                case measure => simp [intOf]; omega
    · have hfull := run_full s pos hrun hp
      rw [HL.out] at hfull
      have hdn : s.data.toList.drop pos = [] := List.drop_eq_nil_of_le (by rw [← Lib.size_eq]; omega)
      rw [hdn] at hgo
      have hpn : pos = n := by omega
      subst hpn
      have hq : F = (far, pos) := hgo.symm
      rcases hst with ⟨hf6, hl0⟩ | ⟨hf, hl1⟩
      · subst hl0
        have hans : resQ s F = -1 := by rw [hq, hf6]; rfl
        have HA := Lib.hid hans
        clear hgo hq hans hprev hrun hfull hdn hf6
        go_wp2
        go_ret
        exact ⟨ret_i HA.out.symm, rfl⟩
      · obtain ⟨hp1, u, hu, hu2⟩ := hprev (by omega)
        have hl2 : ((len : Int) == 0) = false := by rw [beq_eq_false_iff_ne]; omega
        have q1 : (0 : Int) ≤ (pos : Int) - 1 := by omega
        have q2 : ((pos : Int) - 1).toNat = pos - 1 := by omega
        rcases hf with hf | hf
        · have hans : resQ s F = (pos : Int) := by rw [hq, hf]; unfold resQ; rw [if_neg (by simp), if_pos rfl, HL.out]
          rw [decide_eq_false (show ¬ far = 8 by omega)] at hu2
          have HA := Lib.hid hans
          clear hgo hq hans hprev hrun hfull hdn hf
          go_wp2
          go_ret
          exact ⟨ret_i HA.out.symm, rfl⟩
        · have hans : resQ s F = -1 := by rw [hq, hf]; rfl
          rw [decide_eq_true hf] at hu2
          have HA := Lib.hid hans
          clear hgo hq hans hprev hrun hfull hdn hf
          go_wp2
          go_ret
          exact ⟨ret_i HA.out.symm, rfl⟩
end Go.Proofs.YtmolifgjghbfaaaDoor
