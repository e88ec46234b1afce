/- The reference's Parse. -/
import Derived.Test.YtmolifgjghbfaaaDoorR4
namespace Go.Proofs.YtmolifgjghbfaaaDoor
open Go.RowKit

set_option maxHeartbeats 1000000 in
set_option maxRecDepth 100000 in
theorem refParse_none (s : ByteArray) (w : World) (hT : Tabs w) (hs : s.size ≤ 4398046511104) (h0 : s.size = 0) :
    Calls Tryd.prog 10 #[.string s] w fun e w' => e = .returned (resA (parseF s)) ∧ Below w.heap.size w w' := by
  generalize hF : parseF s = F
  unfold parseF at hF
  have HF := Lib.hid hF
  have hn := lets_len0 s
  generalize hL : (lets s 0).length = n at *
  have HL := Lib.hid hL
  clear hF hL
  go_enter Tryd.func10, Tryd.ntmps10
  go_wp2_with fail
  refine (letters_any s _ (hT.below ((Below.refl _ w).alloc (Nat.le_refl _) _) (Nat.le_refl _)) hs).mono ?_
  rintro e w1 ⟨v, rfl, hown, hb⟩
  have t1 := (Two.new w 23 noStr noStr).below hb (by simp)
  have hz1 := hb.size
  simp at hz1
  have hB := ((Below.refl _ w).alloc (Nat.le_refl _) _).trans (hb.mono (by simp))
  have HT1 := Lib.hid t1
  rw [letV_length] at hown
  obtain ⟨va, cap, rfl⟩ := own_shape hown
  obtain ⟨r0, r1, fr0, fr1⟩ := t1
  unfold noStr at r0 r1
  rw [HL.out]
  have hn0 : n = 0 := by omega
  have hnil : s.data.toList = [] := List.eq_nil_of_length_eq_zero (by rw [← Lib.size_eq]; exact h0)
  have hgo := HF.out
  rw [hnil, runF_nil] at hgo
  have HG := Lib.hid hgo
  subst hn0
  clear hown hgo hnil h0 hb
  go_wp2
  go_loop [6, 7, 8] (fun _ iv _ => iv = .int .i64 0) (fun _ _ _ => 0)
  case atStart => rfl
  case round =>
    obtain rfl := hrel
    go_wp2
    exact bodyPost_ret (v := .tuple #[.agg #[.string ⟨#[]⟩, .string ⟨#[]⟩], .int .i64 0, .int .i64 3]) (by simp [results, Tryd.results10, go_sem, r0, r1]) rfl ⟨by rw [← HG.out]; rfl, ((hB.setCell (by simp) _).setCell (by simp) _)⟩

set_option maxHeartbeats 4000000 in
set_option maxRecDepth 100000 in
theorem refParse_word (s : ByteArray) (w : World) (hT : Tabs w) (hs : s.size ≤ 4398046511104) (h0 : 0 < s.size) (h34 : (s[0]'h0).toNat ≠ 34) :
    Calls Tryd.prog 10 #[.string s] w fun e w' => e = .returned (resA (parseF s)) ∧ Below w.heap.size w w' := by
  generalize hF : parseF s = F
  unfold parseF at hF
  have HF := Lib.hid hF
  have hn := lets_len0 s
  generalize hL : (lets s 0).length = n at *
  have HL := Lib.hid hL
  clear hF hL
  go_enter Tryd.func10, Tryd.ntmps10
  go_wp2_with fail
  refine (letters_any s _ (hT.below ((Below.refl _ w).alloc (Nat.le_refl _) _) (Nat.le_refl _)) hs).mono ?_
  rintro e w1 ⟨v, rfl, hown, hb⟩
  have t1 := (Two.new w 23 noStr noStr).below hb (by simp)
  have hz1 := hb.size
  simp at hz1
  have hB := ((Below.refl _ w).alloc (Nat.le_refl _) _).trans (hb.mono (by simp))
  have HT1 := Lib.hid t1
  rw [letV_length] at hown
  have hnpos : 0 < n := by have := (run_next s 0 (run_zero s) h0).1; rw [HL.out] at this; exact this
  obtain ⟨g, cap, rfl, hg, hcells⟩ := own_cells hown (by rw [HL.out]; exact hnpos)
  have hcc : Cells s w1 g := fun i hi => hcells i (by first | exact hi | (rw [letV_length]; exact hi))
  have HC := Lib.hid hcc
  obtain ⟨r0, r1, fr0, fr1⟩ := t1
  unfold noStr at r0 r1
  rw [HL.out]
  clear hown hcells hb hcc
  obtain ⟨t0, r00, L0⟩ := letter_at s w1 g 0 HC.out (run_zero s) h0
  have hcell0 := L0.cell
  have g34 : (t0.toList == [34]) = false := by
    rw [show (t0.toList == [34]) = decide (r00 = 34) from L0.is 34 (by omega)]
    refine decide_eq_false fun h => h34 ?_
    rw [((letter_byte L0 h0).1 (by omega)).1, h]
  have hgo0 : runF (s.data.toList.drop 0) 2 0 [] = F := by
    have := HF.out
    rw [← this]
    have hl := list_at s 0 h0
    rw [List.drop_zero] at hl ⊢
    rw [hl]
    exact (run02 _ _ _ _ h34).symm
  have HG0 := Lib.hid hgo0
  clear L0 hgo0 h34
  go_wp2
  go_loop [6, 7, 8] (fun sv iv fv => ∃ (pos far : Nat) (said : List UInt8), sv = .string ⟨said.toArray⟩ ∧ iv = .int .i64 pos ∧ (far = 2 ∧ fv = .bool true ∨ far = 1 ∧ fv = .bool false) ∧ Run s pos ∧ said.length ≤ pos ∧ runF (s.data.toList.drop pos) far pos said = F) (fun _ iv _ => s.size - (intOf iv).toNat)
  case atStart => exact ⟨0, 2, [], rfl, rfl, Or.inl ⟨rfl, rfl⟩, run_zero s, Nat.le_refl _, HG0.out⟩
  case round =>
    obtain ⟨pos, far, said, rfl, rfl, hst, hrun, hsl0, hgo⟩ := hrel
    have hpz := hrun.1
    by_cases hp : pos < s.size
    · obtain ⟨t, r, L⟩ := letter_at s w1 g pos HC.out hrun hp
      have hlt := L.lt
      rw [HL.out] at hlt
      have hcell := L.cell
      have hsmall := L.small
      have hone := fun W => refOne_letter s W w1 g pos t signB r L (by decide) sign_bytes
      rw [any_signs] at hone
      unfold signB at hone
      have e46 : (t.toList == [46]) = decide (r = 46) := L.is 46 (by omega)
      have e64 : (t.toList == [64]) = decide (r = 64) := L.is 64 (by omega)
      rw [list_at s pos hp, runF_cons, letter_key L hp] at hgo
      have hbyte := letter_byte L hp
      have hk : keepF far (s[pos]'hp) = [s[pos]'hp] := keep_word _ _ (by omega)
      rw [hk] at hgo
      clear hk
      rcases hst with ⟨rfl, rfl⟩ | ⟨rfl, rfl⟩
      · have hnx : nextF 2 0 r = nextWordF r := rfl
        rw [hnx] at hgo
        unfold nextWordF at hgo
        cases hw : wordR r with
        | false =>
          rw [hw, if_pos (by simp)] at hgo
          have ho : (decide (r < 128) && (alnumR r || decide (r ∈ signL))) = false := by
            show (decide (r < 128) && wordR r) = false
            rw [hw, Bool.and_false]
          rw [ho] at hone
          have HG := Lib.hid hgo
          have hc46 : (t.toList == [46]) = true ∨ (t.toList == [46]) = false := by cases (t.toList == [46]) <;> simp
          clear hgo e46 e64 hbyte hnx hw ho L hrun
          rcases hc46 with g46 | g46
          · go_wp2_with (go_at_call 22; refine (hone _).mono ?_; rintro e w' ⟨rfl, rfl⟩)
            exact bodyPost_ret (v := .tuple #[.agg #[.string ⟨#[]⟩, .string ⟨#[]⟩], .int .i64 pos, .int .i64 4]) (by simp [results, Tryd.results10, go_sem, r0, r1]) rfl ⟨by rw [← HG.out]; rfl, ((hB.setCell (by simp) _).setCell (by simp) _)⟩
          · go_wp2_with (go_at_call 22; refine (hone _).mono ?_; rintro e w' ⟨rfl, rfl⟩)
            exact bodyPost_ret (v := .tuple #[.agg #[.string ⟨#[]⟩, .string ⟨#[]⟩], .int .i64 pos, .int .i64 4]) (by simp [results, Tryd.results10, go_sem, r0, r1]) rfl ⟨by rw [← HG.out]; rfl, ((hB.setCell (by simp) _).setCell (by simp) _)⟩
        | true =>
          rw [hw] at hgo
          have hlow := word_low hw
          have hr46 : r ≠ 46 := by intro h; rw [h] at hw; revert hw; decide
          have g46 : (t.toList == [46]) = false := by rw [e46]; exact decide_eq_false hr46
          have ho : (decide (r < 128) && (alnumR r || decide (r ∈ signL))) = true := by
            show (decide (r < 128) && wordR r) = true
            rw [hw, decide_eq_true (by omega)]; rfl
          rw [ho] at hone
          rw [if_pos rfl, if_neg (by omega), if_neg (by omega), ← (hbyte.1 (by omega)).2] at hgo
          have HRUN := Lib.hid (L.low (by omega)).2.1
          have hsz1 := (L.low (by omega)).1
          have HSZ1 := Lib.hid hsz1
          have HG := Lib.hid hgo
          clear hgo e46 e64 hbyte hnx hw ho L hrun hr46 hsz1
          go_wp2_with (go_at_call 22; refine (hone _).mono ?_; rintro e w' ⟨rfl, rfl⟩)
          go_round
          case rel =>
            refine ⟨pos + 1, 1, said ++ t.data.toList, ?_, by go_num, Or.inr ⟨rfl, rfl⟩, HRUN.out, ?_, HG.out⟩
            · first | rfl | simp only [app_str]
            · rw [List.length_append, ← Lib.size_eq, HSZ1.out]; omega
          case measure => simp [intOf]; omega
      · by_cases h64 : r = 64
        · have g64 : (t.toList == [64]) = true := by rw [e64]; exact decide_eq_true h64
          rw [show nextF 1 0 r = 6 by rw [h64]; rfl, if_neg (by omega), if_pos rfl] at hgo
          have HRUN := Lib.hid (L.low (by omega)).2.1
          clear e46 e64 hbyte L hrun h64 hone
          have hrun1 := HRUN.out
          have hq := dom_cases s (pos + 1) said hrun1 (by omega)
          have hdom := refDomain s g cap (pos + 1) w1 hs HC.out hrun1
          rw [HL.out] at hdom
          rcases hq with ⟨q, hq1, hq2, hq3, hq4⟩ | ⟨hq1, hq4⟩ | ⟨hq1, hq3, hq5, hq6, hq4⟩
          · rw [HL.out] at hq2 hq3
            rw [hq4] at hgo
            rw [hq1] at hdom
            have HG := Lib.hid hgo
            have hne : ((((pos : Int) + 1 : Int)) == (n : Int)) = false := by rw [beq_eq_false_iff_ne]; omega
            clear hgo hq1 hq4 hrun1
            go_wp2_with (go_at_call 23; refine hdom.mono ?_; rintro e w' ⟨rfl, rfl⟩)
            exact bodyPost_ret (v := .tuple #[.agg #[.string ⟨#[]⟩, .string ⟨#[]⟩], .int .i64 q, .int .i64 4]) (by simp [results, Tryd.results10, go_sem, r0, r1]) rfl ⟨by rw [← HG.out]; rfl, ((hB.setCell (by simp) _).setCell (by simp) _)⟩
          · rw [hq4] at hgo
            rw [hq1] at hdom
            rw [HL.out] at hgo
            have HG := Lib.hid hgo
            clear hgo hq1 hq4 hrun1
            go_wp2_with (go_at_call 23; refine hdom.mono ?_; rintro e w' ⟨rfl, rfl⟩)
            exact bodyPost_ret (v := .tuple #[.agg #[.string ⟨#[]⟩, .string ⟨#[]⟩], .int .i64 n, .int .i64 3]) (by simp [results, Tryd.results10, go_sem, r0, r1]) rfl ⟨by rw [← HG.out]; rfl, ((hB.setCell (by simp) _).setCell (by simp) _)⟩
          · rw [HL.out] at hq3 hq5 hq1
            rw [hq4] at hgo
            rw [hq1] at hdom
            have HG := Lib.hid hgo
            have HAS := Lib.hid hq6
            have HNZ := Lib.hid hq5
            have hne : ((((pos : Int) + 1 : Int)) == (n : Int)) = false := by rw [beq_eq_false_iff_ne]; omega
            clear hgo hq1 hq4 hrun1 hq5 hq6
            go_wp2_with (go_at_call 23; refine hdom.mono ?_; rintro e w' ⟨rfl, rfl⟩)
            go_loop [10, 11] (fun dv kv => ∃ (k : Nat), kv = .int .i64 k ∧ (pos + 1) ≤ k ∧ k ≤ n ∧ Run s k ∧ dv = .string ⟨(piece s ((pos + 1)) k).toArray⟩) (fun _ kv => n - (intOf kv).toNat)
            case atStart => exact ⟨(pos + 1), by first | rfl | go_num, Nat.le_refl _, by omega, HRUN.out, by rw [piece_nil]⟩
            case round =>
              obtain ⟨k, rfl, hk1, hk2, hrk, rfl⟩ := hrel
              have hpl : (piece s ((pos + 1)) k).length ≤ n := by rw [piece_length s _ _ hk1 (by have := HNZ.out; omega)]; omega
              by_cases hkn : k < n
              · have hks : k < s.size := by have := HNZ.out; omega
                obtain ⟨t2, r2, L2⟩ := letter_at s w1 g k HC.out hrk hks
                have hb2 := letter_byte L2 hks
                have hlow2 : r2 < 128 := by
                  rcases Nat.lt_or_ge r2 128 with h | h
                  · exact h
                  · have h3 := hb2.2 h
                    have h4 := HAS.out (s[k]'hks) (by
                      have : s[k]'hks ∈ s.data.toList.drop k := by rw [list_at s k hks]; simp
                      have e : s.data.toList.drop k = (s.data.toList.drop ((pos + 1))).drop (k - ((pos + 1))) := by rw [List.drop_drop]; congr 1; omega
                      rw [e] at this
                      exact List.mem_of_mem_drop this)
                    omega
                have hcell2 := L2.cell
                have hsz2 := L2.small
                have htx := (hb2.1 hlow2).2
                have HRN := Lib.hid (L2.low hlow2).2.1
                have hpc : piece s ((pos + 1)) (k + 1) = piece s ((pos + 1)) k ++ t2.data.toList := by
                  rw [← piece_join s ((pos + 1)) k (k + 1) hk1 (by omega), htx]
                  congr 1
                  rw [piece_range s k 1 (by omega)]
                  simp [get_lt s k hks]
                have HPC := Lib.hid hpc
                clear hb2 htx hpc L2 hrk
                go_wp2
                go_round
                case rel =>
                  refine ⟨k + 1, by go_num, by omega, by omega, HRN.out, ?_⟩
                  rw [HPC.out]
                  first | rfl | simp only [app_str]
                case measure => simp [intOf]; omega
              · have hkn' : k = n := by omega
                have hwhole : piece s ((pos + 1)) k = s.data.toList.drop ((pos + 1)) := by
                  unfold piece
                  rw [List.take_of_length_le]
                  rw [List.length_drop, ← Lib.size_eq]
                  have := HNZ.out; omega
                have hps : (⟨(piece s ((pos + 1)) k).toArray⟩ : ByteArray).size = (piece s ((pos + 1)) k).length := by simp [ByteArray.size]
                have hpt : (⟨(piece s ((pos + 1)) k).toArray⟩ : ByteArray).data.toList = piece s ((pos + 1)) k := by simp
                have hlw := fun W => refLower ⟨(piece s ((pos + 1)) k).toArray⟩ W (by rw [hps]; omega)
                have hgo := HG.out
                rw [← hwhole] at hgo
                rw [hpt] at hlw
                generalize piece s ((pos + 1)) k = pd at *
                unfold finF at hgo
                have hsl : (⟨said.toArray⟩ : ByteArray).size = said.length := by simp [ByteArray.size]
                have HPS := Lib.hid hps
                have HSL := Lib.hid hsl
                clear HG hkn' hwhole hpt hps hrk hsl
                by_cases hlim : 64 < said.length ∨ 255 < pd.length
                · rw [if_pos hlim] at hgo
                  have HG := Lib.hid hgo
                  by_cases hl3 : 64 < said.length
                  · have hl4 : 64 < (⟨said.toArray⟩ : ByteArray).size := by rw [HSL.out]; exact hl3
                    clear hgo hlim
                    go_wp2
                    exact bodyPost_ret (v := .tuple #[.agg #[.string ⟨#[]⟩, .string ⟨#[]⟩], .int .i64 0, .int .i64 6]) (by simp [results, Tryd.results10, go_sem, r0, r1]) rfl ⟨by rw [← HG.out]; rfl, ((hB.setCell (by simp) _).setCell (by simp) _)⟩
                  · have hl4 : 255 < pd.length := by omega
                    have hl5 : 255 < (⟨pd.toArray⟩ : ByteArray).size := by rw [HPS.out]; exact hl4
                    have hl6 : ¬ 64 < (⟨said.toArray⟩ : ByteArray).size := by rw [HSL.out]; exact hl3
                    clear hgo hlim
                    go_wp2
                    exact bodyPost_ret (v := .tuple #[.agg #[.string ⟨#[]⟩, .string ⟨#[]⟩], .int .i64 0, .int .i64 6]) (by simp [results, Tryd.results10, go_sem, r0, r1]) rfl ⟨by rw [← HG.out]; rfl, ((hB.setCell (by simp) _).setCell (by simp) _)⟩
                · rw [if_neg hlim] at hgo
                  have HG := Lib.hid hgo
                  have hl3 : ¬ 64 < (⟨said.toArray⟩ : ByteArray).size := by rw [HSL.out]; omega
                  have hl4 : ¬ 255 < (⟨pd.toArray⟩ : ByteArray).size := by rw [HPS.out]; omega
                  have hl5 : ¬ 64 < said.length := by omega
                  have hl6 : ¬ 255 < pd.length := by omega
                  clear hgo hlim
                  go_wp2_with (go_at_call 16; refine (hlw _).mono ?_; rintro e w3 ⟨rfl, hb3⟩; obtain ⟨p0, p1, fp0, fp1⟩ := (HT1.out).below hb3 (by omega))
                  exact bodyPost_ret (v := .tuple #[.agg #[.string ⟨said.toArray⟩, .string ⟨(low pd).toArray⟩], .int .i64 0, .int .i64 0]) (by simp [results, Tryd.results10, go_sem, p0, p1]) rfl ⟨by rw [← HG.out]; rfl, (((hB.trans (hb3.mono hB.size)).setCell (by simp) _).setCell (by simp) _)⟩
        have g64 : (t.toList == [64]) = false := by rw [e64]; exact decide_eq_false h64
        by_cases h46 : r = 46
        · have g46 : (t.toList == [46]) = true := by rw [e46]; exact decide_eq_true h46
          rw [show nextF 1 0 r = 2 by rw [h46]; rfl, if_neg (by omega), if_neg (by omega), ← (hbyte.1 (by omega)).2] at hgo
          have HRUN := Lib.hid (L.low (by omega)).2.1
          have hsz1 := (L.low (by omega)).1
          have HSZ1 := Lib.hid hsz1
          have HG := Lib.hid hgo
          clear hgo e46 e64 hbyte L hrun h46 h64 hsz1 hone
          go_wp2
          go_round
          case rel =>
            refine ⟨pos + 1, 2, said ++ t.data.toList, ?_, by go_num, Or.inl ⟨rfl, rfl⟩, HRUN.out, ?_, HG.out⟩
            · first | rfl | simp only [app_str]
            · rw [List.length_append, ← Lib.size_eq, HSZ1.out]; omega
          case measure => simp [intOf]; omega
        have g46 : (t.toList == [46]) = false := by rw [e46]; exact decide_eq_false h46
        have hnx : nextF 1 0 r = nextWordF r := by unfold nextF; rw [if_neg (by omega), if_neg (by omega), if_pos rfl, if_neg h46, if_neg h64]
        rw [hnx] at hgo
        unfold nextWordF at hgo
        cases hw : wordR r with
        | false =>
          rw [hw, if_pos (by simp)] at hgo
          have ho : (decide (r < 128) && (alnumR r || decide (r ∈ signL))) = false := by
            show (decide (r < 128) && wordR r) = false
            rw [hw, Bool.and_false]
          rw [ho] at hone
          have HG := Lib.hid hgo
          clear hgo e46 e64 hbyte hnx hw ho L hrun h46 h64
          go_wp2_with (go_at_call 22; refine (hone _).mono ?_; rintro e w' ⟨rfl, rfl⟩)
          exact bodyPost_ret (v := .tuple #[.agg #[.string ⟨#[]⟩, .string ⟨#[]⟩], .int .i64 pos, .int .i64 4]) (by simp [results, Tryd.results10, go_sem, r0, r1]) rfl ⟨by rw [← HG.out]; rfl, ((hB.setCell (by simp) _).setCell (by simp) _)⟩
        | true =>
          rw [hw] at hgo
          have hlow := word_low hw
          have ho : (decide (r < 128) && (alnumR r || decide (r ∈ signL))) = true := by
            show (decide (r < 128) && wordR r) = true
            rw [hw, decide_eq_true (by omega)]; rfl
          rw [ho] at hone
          rw [if_pos rfl, if_neg (by omega), if_neg (by omega), ← (hbyte.1 (by omega)).2] at hgo
          have HRUN := Lib.hid (L.low (by omega)).2.1
          have hsz1 := (L.low (by omega)).1
          have HSZ1 := Lib.hid hsz1
          have HG := Lib.hid hgo
          clear hgo e46 e64 hbyte hnx hw ho L hrun h46 h64 hsz1
          go_wp2_with (go_at_call 22; refine (hone _).mono ?_; rintro e w' ⟨rfl, rfl⟩)
          go_round
          case rel =>
            refine ⟨pos + 1, 1, said ++ t.data.toList, ?_, by go_num, Or.inr ⟨rfl, rfl⟩, HRUN.out, ?_, HG.out⟩
            · first | rfl | simp only [app_str]
            · rw [List.length_append, ← Lib.size_eq, HSZ1.out]; omega
          case measure => simp [intOf]; omega
    · have hfull := run_full s pos hrun hp
      rw [HL.out] at hfull
      have hdn : s.data.toList.drop pos = [] := List.drop_eq_nil_of_le (by rw [← Lib.size_eq]; omega)
      rw [hdn, runF_nil] at hgo
      have hpn : pos = n := by omega
      subst hpn
      have HG := Lib.hid hgo
      clear hgo hrun hfull hdn
      rcases hst with ⟨rfl, rfl⟩ | ⟨rfl, rfl⟩
      · go_wp2
        exact bodyPost_ret (v := .tuple #[.agg #[.string ⟨#[]⟩, .string ⟨#[]⟩], .int .i64 pos, .int .i64 3]) (by simp [results, Tryd.results10, go_sem, r0, r1]) rfl ⟨by rw [← HG.out]; rfl, ((hB.setCell (by simp) _).setCell (by simp) _)⟩
      · go_wp2
        exact bodyPost_ret (v := .tuple #[.agg #[.string ⟨#[]⟩, .string ⟨#[]⟩], .int .i64 pos, .int .i64 3]) (by simp [results, Tryd.results10, go_sem, r0, r1]) rfl ⟨by rw [← HG.out]; rfl, ((hB.setCell (by simp) _).setCell (by simp) _)⟩
end Go.Proofs.YtmolifgjghbfaaaDoor
