/- The reference's Parse: a local part between signs; Parse of every text. -/
import Derived.Test.YtmolifgjghbfaaaDoorR5
namespace Go.Proofs.YtmolifgjghbfaaaDoor
open Go.RowKit

theorem print34 : printR 34 = true := rfl
theorem print92 : printR 92 = true := rfl
set_option maxHeartbeats 4000000 in
set_option maxRecDepth 100000 in
theorem refParse_quote (s : ByteArray) (w : World) (hT : Tabs w) (hs : s.size ≤ 4398046511104) (h0 : 0 < s.size) (h34 : (s[0]'h0).toNat = 34) :
    Calls Tryd.prog 10 #[.string s] w fun e w' => e = .returned (resA (parseF s)) ∧ Below w.heap.size w w' := by
  generalize hF : parseF s = F
  unfold parseF at hF
  have HF := Lib.hid hF
  have hn := lets_len0 s
  generalize hL : (lets s 0).length = n at *
  have HL := Lib.hid hL
  clear hF hL
  go_enter Tryd.func10, Tryd.ntmps10
  go_wp2_with fail
  refine (letters_any s _ (hT.below ((Below.refl _ w).alloc (Nat.le_refl _) _) (Nat.le_refl _)) hs).mono ?_
  rintro e w1 ⟨v, rfl, hown, hb⟩
  have t1 := (Two.new w 23 noStr noStr).below hb (by simp)
  have hz1 := hb.size
  simp at hz1
  have hB := ((Below.refl _ w).alloc (Nat.le_refl _) _).trans (hb.mono (by simp))
  have HT1 := Lib.hid t1
  rw [letV_length] at hown
  have hnpos : 0 < n := by have := (run_next s 0 (run_zero s) h0).1; rw [HL.out] at this; exact this
  obtain ⟨g, cap, rfl, hg, hcells⟩ := own_cells hown (by rw [HL.out]; exact hnpos)
  have hcc : Cells s w1 g := fun i hi => hcells i (by first | exact hi | (rw [letV_length]; exact hi))
  have HC := Lib.hid hcc
  obtain ⟨r0, r1, fr0, fr1⟩ := t1
  unfold noStr at r0 r1
  rw [HL.out]
  clear hown hcells hb hcc
  obtain ⟨t0, r00, L0⟩ := letter_at s w1 g 0 HC.out (run_zero s) h0
  have hcell0 := L0.cell
  have hb0 := letter_byte L0 h0
  have hr00 : r00 = 34 := by
    rcases Nat.lt_or_ge r00 128 with h | h
    · have := (hb0.1 h).1; omega
    · have := hb0.2 h; omega
  have g34 : (t0.toList == [34]) = true := by
    rw [show (t0.toList == [34]) = decide (r00 = 34) from L0.is 34 (by omega)]
    exact decide_eq_true hr00
  have HRUN0 := Lib.hid (L0.low (by omega)).2.1
  have hgo0 : runF (s.data.toList.drop 1) 3 1 [] = F := by
    have := HF.out
    rw [← this]
    have hl := list_at s 0 h0
    rw [List.drop_zero] at hl
    rw [hl, runF_cons, show (s[0]'h0).toNat = 34 from h34, show nextF 0 0 34 = 3 from rfl, if_neg (by omega), if_neg (by omega)]
    have hk : keepF 0 (s[0]'h0) = [] := by unfold keepF; rw [if_pos (Or.inl ⟨rfl, UInt8.toNat_inj.1 h34⟩)]
    rw [hk]; rfl
  have HG0 := Lib.hid hgo0
  clear L0 hgo0 h34 hb0 hr00
  go_wp2
  go_loop [6, 7] (fun sv iv => ∃ (pos : Nat) (said : List UInt8), sv = .string ⟨said.toArray⟩ ∧ iv = .int .i64 pos ∧ 1 ≤ pos ∧ Run s pos ∧ said.length ≤ pos ∧ runF (s.data.toList.drop pos) 3 pos said = F) (fun _ iv => s.size - (intOf iv).toNat)
  case atStart => exact ⟨1, [], rfl, rfl, Nat.le_refl _, HRUN0.out, by simp, HG0.out⟩
  case round =>
    obtain ⟨pos, said, rfl, rfl, hp1, hrun, hsl0, hgo⟩ := hrel
    have hpz := hrun.1
    by_cases hp : pos < s.size
    · obtain ⟨t, r, L⟩ := letter_at s w1 g pos HC.out hrun hp
      have hlt := L.lt
      rw [HL.out] at hlt
      have hnel : ((pos : Int) == (n : Int)) = false := by rw [beq_eq_false_iff_ne]; omega
      have hcell := L.cell
      have hsmall := L.small
      have htp := L.pos
      have e34 : (t.toList == [34]) = decide (r = 34) := L.is 34 (by omega)
      have e92 : (t.toList == [92]) = decide (r = 92) := L.is 92 (by omega)
      rw [list_at s pos hp, runF_cons, letter_key L hp, next3] at hgo
      have hbyte := letter_byte L hp
      cases hpr : printR r with
      | false =>
        have n34 : r ≠ 34 := by intro h; rw [h, print34] at hpr; cases hpr
        have n92 : r ≠ 92 := by intro h; rw [h, print92] at hpr; cases hpr
        rw [show nextSignedF r = 9 by unfold nextSignedF; rw [if_neg n34, if_neg n92, hpr, if_neg (by simp)], if_pos rfl] at hgo
        have HG := Lib.hid hgo
        by_cases hsz : t.size = 1
        · have hz1 : ((t.size : Int) != 1) = false := by rw [hsz]; rfl
          have hlohi : (t[0]'htp).toNat < 32 ∨ 126 < (t[0]'htp).toNat := by
            rw [← get_lt t 0 htp]
            by_cases h : r < 128
            · rw [L.same h]
              unfold printR at hpr
              simp at hpr; omega
            · have := L.high (by omega); omega
          clear hgo e34 e92 hbyte hpr n34 n92 L hrun hsz
          rcases hlohi with hlo | hhi
          · go_wp2
            exact bodyPost_ret (v := .tuple #[.agg #[.string ⟨#[]⟩, .string ⟨#[]⟩], .int .i64 pos, .int .i64 4]) (by simp [results, Tryd.results10, go_sem, r0, r1]) rfl ⟨by rw [← HG.out]; rfl, ((hB.setCell (by simp) _).setCell (by simp) _)⟩
          · have hlo : ¬ (t[0]'htp).toNat < 32 := by omega
            go_wp2
            exact bodyPost_ret (v := .tuple #[.agg #[.string ⟨#[]⟩, .string ⟨#[]⟩], .int .i64 pos, .int .i64 4]) (by simp [results, Tryd.results10, go_sem, r0, r1]) rfl ⟨by rw [← HG.out]; rfl, ((hB.setCell (by simp) _).setCell (by simp) _)⟩
        · have hz1 : ((t.size : Int) != 1) = true := by rw [bne_iff_ne]; omega
          clear hgo e34 e92 hbyte hpr n34 n92 L hrun hsz
          go_wp2
          exact bodyPost_ret (v := .tuple #[.agg #[.string ⟨#[]⟩, .string ⟨#[]⟩], .int .i64 pos, .int .i64 4]) (by simp [results, Tryd.results10, go_sem, r0, r1]) rfl ⟨by rw [← HG.out]; rfl, ((hB.setCell (by simp) _).setCell (by simp) _)⟩
      | true =>
        have hpl := print_low hpr
        have hz1 : ((t.size : Int) != 1) = false := by rw [(L.low (by omega)).1]; rfl
        have ht0 : 32 ≤ (t[0]'htp).toNat ∧ (t[0]'htp).toNat ≤ 126 := by
          rw [← get_lt t 0 htp, L.same (by omega)]; exact hpl
        obtain ⟨ht1, ht2⟩ := ht0
        have hrun1 := (L.low (by omega)).2.1
        by_cases h34 : r = 34
        · have g34 : (t.toList == [34]) = true := by rw [e34]; exact decide_eq_true h34
          rw [show nextSignedF r = 5 by rw [h34]; rfl, if_neg (by omega), if_neg (by omega), keep_sign _ (Or.inl (by rw [(hbyte.1 (by omega)).1]; exact h34)), List.append_nil] at hgo
          clear e34 e92 hbyte hpr L hrun h34
          by_cases hp2 : pos + 1 < s.size
          · obtain ⟨t2, r2, L2⟩ := letter_at s w1 g (pos + 1) HC.out hrun1 hp2
            have hlt2 := L2.lt
            rw [HL.out] at hlt2
            have hne2 : ((pos : Int) + 1 == (n : Int)) = false := by rw [beq_eq_false_iff_ne]; omega
            have hcell2 := L2.cell
            have e64 : (t2.toList == [64]) = decide (r2 = 64) := L2.is 64 (by omega)
            rw [list_at s (pos + 1) hp2, runF_cons, letter_key L2 hp2] at hgo
            by_cases h64 : r2 = 64
            · have g64 : (t2.toList == [64]) = true := by rw [e64]; exact decide_eq_true h64
              rw [show nextF 5 0 r2 = 6 by rw [h64]; rfl, if_neg (by omega), if_pos rfl] at hgo
              have HRUN := Lib.hid (L2.low (by omega)).2.1
              clear e64 L2 h64 hrun1
              have hrun1 := HRUN.out
              have hq := dom_cases s (pos + 1 + 1) said hrun1 (by omega)
              have hdom := refDomain s g cap (pos + 1 + 1) w1 hs HC.out hrun1
              rw [HL.out] at hdom
              rcases hq with ⟨q, hq1, hq2, hq3, hq4⟩ | ⟨hq1, hq4⟩ | ⟨hq1, hq3, hq5, hq6, hq4⟩
              · rw [HL.out] at hq2 hq3
                rw [hq4] at hgo
                rw [hq1] at hdom
                have HG := Lib.hid hgo
                have hne : ((((pos : Int) + 1 + 1 : Int)) == (n : Int)) = false := by rw [beq_eq_false_iff_ne]; omega
                clear hgo hq1 hq4 hrun1
                go_wp2_with (go_at_call 23; refine hdom.mono ?_; rintro e w' ⟨rfl, rfl⟩)
                exact bodyPost_ret (v := .tuple #[.agg #[.string ⟨#[]⟩, .string ⟨#[]⟩], .int .i64 q, .int .i64 4]) (by simp [results, Tryd.results10, go_sem, r0, r1]) rfl ⟨by rw [← HG.out]; rfl, ((hB.setCell (by simp) _).setCell (by simp) _)⟩
              · rw [hq4] at hgo
                rw [hq1] at hdom
                rw [HL.out] at hgo
                have HG := Lib.hid hgo
                clear hgo hq1 hq4 hrun1
                go_wp2_with (go_at_call 23; refine hdom.mono ?_; rintro e w' ⟨rfl, rfl⟩)
                exact bodyPost_ret (v := .tuple #[.agg #[.string ⟨#[]⟩, .string ⟨#[]⟩], .int .i64 n, .int .i64 3]) (by simp [results, Tryd.results10, go_sem, r0, r1]) rfl ⟨by rw [← HG.out]; rfl, ((hB.setCell (by simp) _).setCell (by simp) _)⟩
              · rw [HL.out] at hq3 hq5 hq1
                rw [hq4] at hgo
                rw [hq1] at hdom
                have HG := Lib.hid hgo
                have HAS := Lib.hid hq6
                have HNZ := Lib.hid hq5
                have hne : ((((pos : Int) + 1 + 1 : Int)) == (n : Int)) = false := by rw [beq_eq_false_iff_ne]; omega
                clear hgo hq1 hq4 hrun1 hq5 hq6
                go_wp2_with (go_at_call 23; refine hdom.mono ?_; rintro e w' ⟨rfl, rfl⟩)
                go_loop [10, 11] (fun dv kv => ∃ (k : Nat), kv = .int .i64 k ∧ (pos + 1 + 1) ≤ k ∧ k ≤ n ∧ Run s k ∧ dv = .string ⟨(piece s ((pos + 1 + 1)) k).toArray⟩) (fun _ kv => n - (intOf kv).toNat)
                case atStart => exact ⟨(pos + 1 + 1), by first | rfl | go_num, Nat.le_refl _, by omega, HRUN.out, by rw [piece_nil]⟩
                case round =>
                  obtain ⟨k, rfl, hk1, hk2, hrk, rfl⟩ := hrel
                  have hpl : (piece s ((pos + 1 + 1)) k).length ≤ n := by rw [piece_length s _ _ hk1 (by have := HNZ.out; omega)]; omega
                  by_cases hkn : k < n
                  · have hks : k < s.size := by have := HNZ.out; omega
                    obtain ⟨t2, r2, L2⟩ := letter_at s w1 g k HC.out hrk hks
                    have hb2 := letter_byte L2 hks
                    have hlow2 : r2 < 128 := by
                      rcases Nat.lt_or_ge r2 128 with h | h
                      · exact h
                      · have h3 := hb2.2 h
                        have h4 := HAS.out (s[k]'hks) (by
                          have : s[k]'hks ∈ s.data.toList.drop k := by rw [list_at s k hks]; simp
                          have e : s.data.toList.drop k = (s.data.toList.drop ((pos + 1 + 1))).drop (k - ((pos + 1 + 1))) := by rw [List.drop_drop]; congr 1; omega
                          rw [e] at this
                          exact List.mem_of_mem_drop this)
                        omega
                    have hcell2 := L2.cell
                    have hsz2 := L2.small
                    have htx := (hb2.1 hlow2).2
                    have HRN := Lib.hid (L2.low hlow2).2.1
                    have hpc : piece s ((pos + 1 + 1)) (k + 1) = piece s ((pos + 1 + 1)) k ++ t2.data.toList := by
                      rw [← piece_join s ((pos + 1 + 1)) k (k + 1) hk1 (by omega), htx]
                      congr 1
                      rw [piece_range s k 1 (by omega)]
                      simp [get_lt s k hks]
                    have HPC := Lib.hid hpc
                    clear hb2 htx hpc L2 hrk
                    go_wp2
                    go_round
                    case rel =>
                      refine ⟨k + 1, by go_num, by omega, by omega, HRN.out, ?_⟩
                      rw [HPC.out]
                      first | rfl | simp only [app_str]
                    case measure => simp [intOf]; omega
                  · have hkn' : k = n := by omega
                    have hwhole : piece s ((pos + 1 + 1)) k = s.data.toList.drop ((pos + 1 + 1)) := by
                      unfold piece
                      rw [List.take_of_length_le]
                      rw [List.length_drop, ← Lib.size_eq]
                      have := HNZ.out; omega
                    have hps : (⟨(piece s ((pos + 1 + 1)) k).toArray⟩ : ByteArray).size = (piece s ((pos + 1 + 1)) k).length := by simp [ByteArray.size]
                    have hpt : (⟨(piece s ((pos + 1 + 1)) k).toArray⟩ : ByteArray).data.toList = piece s ((pos + 1 + 1)) k := by simp
                    have hlw := fun W => refLower ⟨(piece s ((pos + 1 + 1)) k).toArray⟩ W (by rw [hps]; omega)
                    have hgo := HG.out
                    rw [← hwhole] at hgo
                    rw [hpt] at hlw
                    generalize piece s ((pos + 1 + 1)) k = pd at *
                    unfold finF at hgo
                    have hsl : (⟨said.toArray⟩ : ByteArray).size = said.length := by simp [ByteArray.size]
                    have HPS := Lib.hid hps
                    have HSL := Lib.hid hsl
                    clear HG hkn' hwhole hpt hps hrk hsl
                    by_cases hlim : 64 < said.length ∨ 255 < pd.length
                    · rw [if_pos hlim] at hgo
                      have HG := Lib.hid hgo
                      by_cases hl3 : 64 < said.length
                      · have hl4 : 64 < (⟨said.toArray⟩ : ByteArray).size := by rw [HSL.out]; exact hl3
                        clear hgo hlim
                        go_wp2
                        exact bodyPost_ret (v := .tuple #[.agg #[.string ⟨#[]⟩, .string ⟨#[]⟩], .int .i64 0, .int .i64 6]) (by simp [results, Tryd.results10, go_sem, r0, r1]) rfl ⟨by rw [← HG.out]; rfl, ((hB.setCell (by simp) _).setCell (by simp) _)⟩
                      · have hl4 : 255 < pd.length := by omega
                        have hl5 : 255 < (⟨pd.toArray⟩ : ByteArray).size := by rw [HPS.out]; exact hl4
                        have hl6 : ¬ 64 < (⟨said.toArray⟩ : ByteArray).size := by rw [HSL.out]; exact hl3
                        clear hgo hlim
                        go_wp2
                        exact bodyPost_ret (v := .tuple #[.agg #[.string ⟨#[]⟩, .string ⟨#[]⟩], .int .i64 0, .int .i64 6]) (by simp [results, Tryd.results10, go_sem, r0, r1]) rfl ⟨by rw [← HG.out]; rfl, ((hB.setCell (by simp) _).setCell (by simp) _)⟩
                    · rw [if_neg hlim] at hgo
                      have HG := Lib.hid hgo
                      have hl3 : ¬ 64 < (⟨said.toArray⟩ : ByteArray).size := by rw [HSL.out]; omega
                      have hl4 : ¬ 255 < (⟨pd.toArray⟩ : ByteArray).size := by rw [HPS.out]; omega
                      have hl5 : ¬ 64 < said.length := by omega
                      have hl6 : ¬ 255 < pd.length := by omega
                      clear hgo hlim
                      go_wp2_with (go_at_call 16; refine (hlw _).mono ?_; rintro e w3 ⟨rfl, hb3⟩; obtain ⟨p0, p1, fp0, fp1⟩ := (HT1.out).below hb3 (by omega))
                      exact bodyPost_ret (v := .tuple #[.agg #[.string ⟨said.toArray⟩, .string ⟨(low pd).toArray⟩], .int .i64 0, .int .i64 0]) (by simp [results, Tryd.results10, go_sem, p0, p1]) rfl ⟨by rw [← HG.out]; rfl, (((hB.trans (hb3.mono hB.size)).setCell (by simp) _).setCell (by simp) _)⟩
            · have g64 : (t2.toList == [64]) = false := by rw [e64]; exact decide_eq_false h64
              rw [show nextF 5 0 r2 = 9 by show (if r2 = 64 then 6 else 9) = 9; rw [if_neg h64], if_pos rfl] at hgo
              have HG := Lib.hid hgo
              clear hgo e64 L2 h64 hrun1
              go_wp2
              exact bodyPost_ret (v := .tuple #[.agg #[.string ⟨#[]⟩, .string ⟨#[]⟩], .int .i64 ((pos : Int) + 1), .int .i64 4]) (by simp [results, Tryd.results10, go_sem, r0, r1]) rfl ⟨by rw [← HG.out]; first | rfl | (unfold resA; simp), ((hB.setCell (by simp) _).setCell (by simp) _)⟩
          · have hfull := run_full s (pos + 1) hrun1 hp2
            rw [HL.out] at hfull
            have hdn : s.data.toList.drop (pos + 1) = [] := List.drop_eq_nil_of_le (by rw [← Lib.size_eq]; omega)
            rw [hdn, runF_nil] at hgo
            have hne2 : ((pos : Int) + 1 == (n : Int)) = true := by rw [beq_iff_eq]; omega
            have HG := Lib.hid hgo
            clear hgo hfull hdn hrun1
            go_wp2
            exact bodyPost_ret (v := .tuple #[.agg #[.string ⟨#[]⟩, .string ⟨#[]⟩], .int .i64 ((pos : Int) + 1), .int .i64 3]) (by simp [results, Tryd.results10, go_sem, r0, r1]) rfl ⟨by rw [← HG.out]; first | rfl | (unfold resA; simp), ((hB.setCell (by simp) _).setCell (by simp) _)⟩
        have g34 : (t.toList == [34]) = false := by rw [e34]; exact decide_eq_false h34
        by_cases h92 : r = 92
        · have g92 : (t.toList == [92]) = true := by rw [e92]; exact decide_eq_true h92
          rw [show nextSignedF r = 4 by rw [h92]; rfl, if_neg (by omega), if_neg (by omega), keep_sign _ (Or.inr (by rw [(hbyte.1 (by omega)).1]; exact h92)), List.append_nil] at hgo
          clear e34 e92 hbyte hpr L hrun h34 h92
          by_cases hp2 : pos + 1 < s.size
          · obtain ⟨t2, r2, L2⟩ := letter_at s w1 g (pos + 1) HC.out hrun1 hp2
            have hlt2 := L2.lt
            rw [HL.out] at hlt2
            have hne2 : ((pos : Int) + 1 == (n : Int)) = false := by rw [beq_eq_false_iff_ne]; omega
            have hcell2 := L2.cell
            have hsmall2 := L2.small
            have hbyte2 := letter_byte L2 hp2
            have f34 : (t2.toList == [34]) = decide (r2 = 34) := L2.is 34 (by omega)
            have f92 : (t2.toList == [92]) = decide (r2 = 92) := L2.is 92 (by omega)
            rw [list_at s (pos + 1) hp2, runF_cons, letter_key L2 hp2, next4] at hgo
            by_cases hq : r2 = 34 ∨ r2 = 92
            · rw [if_pos hq, if_neg (by omega), if_neg (by omega), keep_word _ _ (by omega), ← (hbyte2.1 (by omega)).2] at hgo
              have HRUN := Lib.hid (L2.low (by omega)).2.1
              have hsz2 := (L2.low (by omega)).1
              have HSZ2 := Lib.hid hsz2
              have HG := Lib.hid hgo
              have hq2 : ((t2.toList == [34]) = true) ∨ ((t2.toList == [34]) = false ∧ (t2.toList == [92]) = true) := by
                rw [f34, f92]
                by_cases h : r2 = 34
                · exact Or.inl (decide_eq_true h)
                · exact Or.inr ⟨decide_eq_false h, decide_eq_true (by omega)⟩
              clear hgo f34 f92 hbyte2 L2 hrun1 hsz2 hq
              rcases hq2 with k34 | ⟨k34, k92⟩
              all_goals
                go_wp2
                go_round
                case rel =>
                  refine ⟨pos + 1 + 1, said ++ t2.data.toList, ?_, by go_num, by omega, HRUN.out, ?_, HG.out⟩
                  · first | rfl | simp only [app_str]
                  · rw [List.length_append, ← Lib.size_eq, HSZ2.out]; omega
                case measure => simp [intOf]; omega
            · rw [if_neg hq, if_pos rfl] at hgo
              have k34 : (t2.toList == [34]) = false := by rw [f34]; exact decide_eq_false (by omega)
              have k92 : (t2.toList == [92]) = false := by rw [f92]; exact decide_eq_false (by omega)
              have HG := Lib.hid hgo
              clear hgo f34 f92 hbyte2 L2 hrun1 hq
              go_wp2
              exact bodyPost_ret (v := .tuple #[.agg #[.string ⟨#[]⟩, .string ⟨#[]⟩], .int .i64 ((pos : Int) + 1), .int .i64 4]) (by simp [results, Tryd.results10, go_sem, r0, r1]) rfl ⟨by rw [← HG.out]; first | rfl | (unfold resA; simp), ((hB.setCell (by simp) _).setCell (by simp) _)⟩
          · have hfull := run_full s (pos + 1) hrun1 hp2
            rw [HL.out] at hfull
            have hdn : s.data.toList.drop (pos + 1) = [] := List.drop_eq_nil_of_le (by rw [← Lib.size_eq]; omega)
            rw [hdn, runF_nil] at hgo
            have hne2 : ((pos : Int) + 1 == (n : Int)) = true := by rw [beq_iff_eq]; omega
            have HG := Lib.hid hgo
            clear hgo hfull hdn hrun1
            go_wp2
            exact bodyPost_ret (v := .tuple #[.agg #[.string ⟨#[]⟩, .string ⟨#[]⟩], .int .i64 ((pos : Int) + 1), .int .i64 3]) (by simp [results, Tryd.results10, go_sem, r0, r1]) rfl ⟨by rw [← HG.out]; first | rfl | (unfold resA; simp), ((hB.setCell (by simp) _).setCell (by simp) _)⟩
        · have g92 : (t.toList == [92]) = false := by rw [e92]; exact decide_eq_false h92
          rw [show nextSignedF r = 3 by unfold nextSignedF; rw [if_neg h34, if_neg h92, hpr, if_pos rfl], if_neg (by omega), if_neg (by omega), keep_other _ (by rw [(hbyte.1 (by omega)).1]; exact h34) (by rw [(hbyte.1 (by omega)).1]; exact h92), ← (hbyte.1 (by omega)).2] at hgo
          have HRUN := Lib.hid hrun1
          have hsz1 := (L.low (by omega)).1
          have HSZ1 := Lib.hid hsz1
          have HG := Lib.hid hgo
          clear hgo e34 e92 hbyte hpr L hrun h34 h92 hrun1 hsz1
          go_wp2
          go_round
          case rel =>
            refine ⟨pos + 1, said ++ t.data.toList, ?_, by go_num, by omega, HRUN.out, ?_, HG.out⟩
            · first | rfl | simp only [app_str]
            · rw [List.length_append, ← Lib.size_eq, HSZ1.out]; omega
          case measure => simp [intOf]; omega
    · have hfull := run_full s pos hrun hp
      rw [HL.out] at hfull
      have hdn : s.data.toList.drop pos = [] := List.drop_eq_nil_of_le (by rw [← Lib.size_eq]; omega)
      rw [hdn, runF_nil] at hgo
      have hpn : ((pos : Int) == (n : Int)) = true := by rw [beq_iff_eq]; omega
      have HG := Lib.hid hgo
      clear hgo hrun hfull hdn
      go_wp2
      exact bodyPost_ret (v := .tuple #[.agg #[.string ⟨#[]⟩, .string ⟨#[]⟩], .int .i64 pos, .int .i64 3]) (by simp [results, Tryd.results10, go_sem, r0, r1]) rfl ⟨by rw [← HG.out]; rfl, ((hB.setCell (by simp) _).setCell (by simp) _)⟩

theorem refParse (s : ByteArray) (w : World) (hT : Tabs w) (hs : s.size ≤ 4398046511104) :
    Calls Tryd.prog 10 #[.string s] w fun e w' => e = .returned (resA (parseF s)) ∧ Below w.heap.size w w' := by
  by_cases h0 : s.size = 0
  · exact refParse_none s w hT hs h0
  · have h1 : 0 < s.size := by omega
    by_cases h34 : (s[0]'h1).toNat = 34
    · exact refParse_quote s w hT hs h1 h34
    · exact refParse_word s w hT hs h1 h34
end Go.Proofs.YtmolifgjghbfaaaDoor
