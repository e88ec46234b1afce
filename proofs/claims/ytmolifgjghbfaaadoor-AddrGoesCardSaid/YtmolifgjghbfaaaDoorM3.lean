/- The statement AddrGoes, walked. -/
import Derived.Test.YtmolifgjghbfaaaDoorP3
import Derived.Test.YtmolifgjghbfaaaDoorM1
namespace Go.Proofs.YtmolifgjghbfaaaDoor
open Go.RowKit

def endVals : Array Value := #[.string ⟨#[]⟩, .string ⟨#[97]⟩, .string ⟨#[64, 97]⟩, .string ⟨#[97, 64, 97]⟩, .string ⟨#[34, 64, 97]⟩, .string ⟨#[92, 34, 64, 97]⟩, .string ⟨#[97, 34, 64, 97]⟩]
theorem end_at : ∀ k, k < 7 → endVals[k]? = some (.string ⟨(endsL.getD k []).toArray⟩) := by
  intro k hk
  have : k = 0 ∨ k = 1 ∨ k = 2 ∨ k = 3 ∨ k = 4 ∨ k = 5 ∨ k = 6 := by omega
  rcases this with rfl | rfl | rfl | rfl | rfl | rfl | rfl <;> rfl
theorem end_len : ∀ k, (endsL.getD k []).length ≤ 4 := by
  intro k
  rcases Nat.lt_or_ge k 7 with h | h
  · have : k = 0 ∨ k = 1 ∨ k = 2 ∨ k = 3 ∨ k = 4 ∨ k = 5 ∨ k = 6 := by omega
    rcases this with rfl | rfl | rfl | rfl | rfl | rfl | rfl <;> decide
  · rw [List.getD_eq_getElem?_getD, List.getElem?_eq_none (by exact h)]; simp

set_option maxHeartbeats 4000000 in
set_option maxRecDepth 100000 in
theorem lawGoes (s : ByteArray) (w : World) (hT : Tabs w) (hs : s.size ≤ 9223372036854775807) :
    Calls Tryd.prog 8 #[.string s] w fun e w' => e = .returned (.bool true) ∧ Below w.heap.size w w' := by
  by_cases h200 : 200 < s.size
  · go_enter Tryd.func8, Tryd.ntmps8
    go_wp2_with fail
    refine (live_any _ hT).mono ?_
    rintro e w1 ⟨rfl, b1⟩
    go_wp2
    go_ret
    exact ⟨rfl, b1⟩
  have hA := fun W hT => parse_any s W hT (by omega)
  unfold resA at hA
  by_cases he : (parseF s).2.2.2 = 4 ∨ (parseF s).2.2.2 = 3
  · obtain ⟨p1, p2, p3, p4, p5, j, hj, e0, hje, hend⟩ := parse_place s he
    generalize parseF s = F at *
    have hn := lets_len0 s
    generalize hL : (lets s 0).length = n at *
    have HL := Lib.hid hL
    have HP5 := Lib.hid p5
    have HEND := Lib.hid hend
    have HJE := Lib.hid hje
    generalize hat : F.2.2.1 = at' at *
    generalize her : F.2.2.2 = er at *
    have e34 : ((er : Int) == 3 ∨ (er : Int) == 4) := by rcases he with h | h <;> simp [h]
    clear hL p5 hend hje hat her
    go_enter Tryd.func8, Tryd.ntmps8
    go_wp2_with fail
    refine (hA _ hT).mono ?_
    rintro e w1 ⟨rfl, b1⟩
    have B1 := b1.alloc b1.size (.cells #[.string ⟨F.1.toArray⟩, .string ⟨F.2.1.toArray⟩] 23)
    clear e34
    rcases he with rfl | rfl
    · have p3 := p3 rfl
      clear p2
      go_wp2_with fail
      refine (letters_any s _ (hT.below B1 (Nat.le_refl _)) (by omega)).mono ?_
      rintro e w2 ⟨v, rfl, hown, hb⟩
      have B2 := B1.trans (hb.mono B1.size)
      rw [letV_length] at hown
      obtain ⟨g, cap, rfl, hg, hcells⟩ := own_cells hown (by rw [HL.out]; omega)
      have hcc : Cells s w2 g := fun i hi => hcells i hi
      have HC := Lib.hid hcc
      rw [HL.out]
      clear hown hcells hb hcc b1 B1
      go_wp2
      have hat0 : at' ≤ s.size := p4
      go_loop [7, 8] (fun hv kv => ∃ k : Nat, kv = .int .i64 k ∧ k ≤ at' ∧ Run s k ∧ hv = .string ⟨(piece s 0 k).toArray⟩) (fun _ kv => at' - (intOf kv).toNat)
      case atStart => exact ⟨0, rfl, Nat.zero_le _, run_zero s, by rw [piece_nil]⟩
      case round =>
        obtain ⟨k, rfl, hk, hrk, rfl⟩ := hrel
        by_cases hka : k < at'
        · have hks : k < s.size := by omega
          obtain ⟨t2, r2, L2⟩ := letter_at s w2 g k HC.out hrk hks
          have hb2 := letter_byte L2 hks
          have hlow2 : r2 < 128 := by
            rcases Nat.lt_or_ge r2 128 with h | h
            · exact h
            · have h3 := hb2.2 h
              have h4 := HP5.out k hks hka
              omega
          have hcell2 := L2.cell
          have hsz2 := L2.small
          have hlt2 := L2.lt
          rw [HL.out] at hlt2
          have htx := (hb2.1 hlow2).2
          have HRN := Lib.hid (L2.low hlow2).2.1
          have hpl : (piece s 0 k).length ≤ 200 := by rw [piece_length s 0 k (Nat.zero_le _) (by omega)]; omega
          have hpc : piece s 0 (k + 1) = piece s 0 k ++ t2.data.toList := by
            rw [← piece_join s 0 k (k + 1) (Nat.zero_le _) (by omega), htx]
            congr 1
            rw [piece_range s k 1 (by omega)]
            simp [get_lt s k hks]
          have HPC := Lib.hid hpc
          clear hb2 htx hpc L2 hrk
          go_wp2
          go_round
          case rel =>
            refine ⟨k + 1, by go_num, by omega, HRN.out, ?_⟩
            rw [HPC.out]
            first | rfl | simp only [app_str]
          case measure => simp [intOf]; omega
        · have hke : k = at' := by omega
          subst hke
          have hpl : (piece s 0 k).length ≤ 200 := by rw [piece_length s 0 k (Nat.zero_le _) hat0]; omega
          have hpt : piece s 0 k = s.data.toList.take k := by unfold piece; simp
          have hend2 := HEND.out
          rw [← hpt] at hend2
          have HE2 := Lib.hid hend2
          generalize piece s 0 k = hd at *
          clear hpt hend2 hrk
          go_wp2
          go_loopw [74] (fun iv wr => ∃ i : Nat, iv = .int .i64 i ∧ i ≤ j ∧ Below (w2.heap.size + 1) (w2.alloc (.cells endVals 9)) wr) (fun iv _ => 7 - (intOf iv).toNat)
          case atStart => exact ⟨0, rfl, Nat.zero_le _, Below.refl _ _⟩
          case round =>
            obtain ⟨i, rfl, hij, hbw⟩ := hrel
            have hzw := hbw.size
            simp at hzw
            have hce : wr.cell? ⟨w2.heap.size, i, none⟩ = some (.string ⟨(endsL.getD i []).toArray⟩) := by
              rw [hbw.cell (p := ⟨w2.heap.size, i, none⟩) (by show w2.heap.size < _; omega), World.cell?_alloc_new]
              exact end_at i (by omega)
            have hel := end_len i
            have hgood : i = j → ∀ t : ByteArray, t.data.toList = hd ++ endsL.getD i [] → (parseF t).2.2.2 = 0 ∨ (parseF t).2.2.2 = 6 := by
              intro h t ht
              subst h
              refine HE2.out t ?_
              rw [ht, show endsL.getD i [] = e0 by rw [List.getD_eq_getElem?_getD, HJE.out]; rfl]
            generalize endsL.getD i [] = en at *
            have hB3 : Below w.heap.size w wr := (B2.alloc B2.size _).trans (hbw.mono (by have := B2.size; omega))
            have hTl : ((⟨hd.toArray⟩ : ByteArray) ++ ⟨en.toArray⟩).data.toList = hd ++ en := by rw [ByteArray.mk_append_mk]
            have hTz : ((⟨hd.toArray⟩ : ByteArray) ++ ⟨en.toArray⟩).size ≤ 204 := by rw [Lib.size_eq, hTl, List.length_append]; omega
            have hR := refParse (⟨hd.toArray⟩ ++ ⟨en.toArray⟩) wr (hT.below hB3 (Nat.le_refl _)) (by omega)
            unfold resA at hR
            have hgood2 := fun h => hgood h _ hTl
            generalize parseF (⟨hd.toArray⟩ ++ ⟨en.toArray⟩) = G at *
            generalize G.2.2.2 = er at *
            have hk1 : hd.length ≤ 1000 := by omega
            have hk2 : en.length ≤ 1000 := by omega
            clear hgood HE2 hTl hTz
            by_cases hgd : er = 0 ∨ er = 6
            · have hgb : ((er : Int) == 0) = true ∨ ((er : Int) == 0) = false ∧ ((er : Int) == 6) = true := by
                rcases hgd with h | h <;> simp [h]
              clear hgood2 hgd
              rcases hgb with g0 | ⟨g0, g6⟩
              all_goals
                go_wp2_with fail
                refine hR.mono ?_
                rintro e wn ⟨rfl, hbn⟩
                have hB4 := (hB3.trans (hbn.mono hB3.size)).alloc (hB3.trans (hbn.mono hB3.size)).size (.cells #[.string ⟨G.1.toArray⟩, .string ⟨G.2.1.toArray⟩] 23)
                go_wp2_with fail
                refine (live_any _ (hT.below hB4 (Nat.le_refl _))).mono ?_
                rintro e wl ⟨rfl, hbl⟩
                go_wp2
                go_ret
                exact ⟨rfl, hB4.trans (hbl.mono hB4.size)⟩
            · have g0 : ((er : Int) == 0) = false := by rw [beq_eq_false_iff_ne]; omega
              have g6 : ((er : Int) == 6) = false := by rw [beq_eq_false_iff_ne]; omega
              have hij2 : i < j := by
                rcases Nat.lt_or_ge i j with h | h
                · exact h
                · exact absurd (hgood2 (by omega)) hgd
              clear hgood2 hgd
              go_wp2_with fail
              refine hR.mono ?_
              rintro e wn ⟨rfl, hbn⟩
              have hzn := hbn.size
              have hW5 := Lib.hid ((hbw.trans (hbn.mono (by omega))).alloc (by omega) (.cells #[.string ⟨G.1.toArray⟩, .string ⟨G.2.1.toArray⟩] 23))
              clear hbw hbn hB3 hR
              go_wp2
              go_roundw
              case rel => exact ⟨i + 1, by go_num, by omega, hW5.out⟩
              case measure => simp [intOf]; omega
    · have p2 := p2 rfl
      have pn : ((at' : Int) != (n : Int)) = false := by rw [p2]; simp
      have pa : at' ≤ n := by omega
      have pb : n ≤ at' := by omega
      clear p3
      by_cases hn0 : n = 0
      · have pz : n ≤ 0 := by omega
        clear p2 hn0
        go_wp2_with fail
        refine (letters_any s _ (hT.below B1 (Nat.le_refl _)) (by omega)).mono ?_
        rintro e w2 ⟨v, rfl, hown, hb⟩
        have B2 := B1.trans (hb.mono B1.size)
        rw [letV_length] at hown
        obtain ⟨va, cap, rfl⟩ := own_shape hown
        rw [HL.out]
        clear hown hb b1 B1
        go_wp2
        have hat0 : at' ≤ s.size := p4
        go_loop [7, 8] (fun hv kv => ∃ k : Nat, kv = .int .i64 k ∧ k ≤ at' ∧ Run s k ∧ hv = .string ⟨(piece s 0 k).toArray⟩) (fun _ kv => at' - (intOf kv).toNat)
        case atStart => exact ⟨0, rfl, Nat.zero_le _, run_zero s, by rw [piece_nil]⟩
        case round =>
          obtain ⟨k, rfl, hk, hrk, rfl⟩ := hrel
          by_cases hka : k < at'
          · exfalso; omega
          · have hke : k = at' := by omega
            subst hke
            have hpl : (piece s 0 k).length ≤ 200 := by rw [piece_length s 0 k (Nat.zero_le _) hat0]; omega
            have hpt : piece s 0 k = s.data.toList.take k := by unfold piece; simp
            have hend2 := HEND.out
            rw [← hpt] at hend2
            have HE2 := Lib.hid hend2
            generalize piece s 0 k = hd at *
            clear hpt hend2 hrk
            go_wp2
            go_loopw [74] (fun iv wr => ∃ i : Nat, iv = .int .i64 i ∧ i ≤ j ∧ Below (w2.heap.size + 1) (w2.alloc (.cells endVals 9)) wr) (fun iv _ => 7 - (intOf iv).toNat)
            case atStart => exact ⟨0, rfl, Nat.zero_le _, Below.refl _ _⟩
            case round =>
              obtain ⟨i, rfl, hij, hbw⟩ := hrel
              have hzw := hbw.size
              simp at hzw
              have hce : wr.cell? ⟨w2.heap.size, i, none⟩ = some (.string ⟨(endsL.getD i []).toArray⟩) := by
                rw [hbw.cell (p := ⟨w2.heap.size, i, none⟩) (by show w2.heap.size < _; omega), World.cell?_alloc_new]
                exact end_at i (by omega)
              have hel := end_len i
              have hgood : i = j → ∀ t : ByteArray, t.data.toList = hd ++ endsL.getD i [] → (parseF t).2.2.2 = 0 ∨ (parseF t).2.2.2 = 6 := by
                intro h t ht
                subst h
                refine HE2.out t ?_
                rw [ht, show endsL.getD i [] = e0 by rw [List.getD_eq_getElem?_getD, HJE.out]; rfl]
              generalize endsL.getD i [] = en at *
              have hB3 : Below w.heap.size w wr := (B2.alloc B2.size _).trans (hbw.mono (by have := B2.size; omega))
              have hTl : ((⟨hd.toArray⟩ : ByteArray) ++ ⟨en.toArray⟩).data.toList = hd ++ en := by rw [ByteArray.mk_append_mk]
              have hTz : ((⟨hd.toArray⟩ : ByteArray) ++ ⟨en.toArray⟩).size ≤ 204 := by rw [Lib.size_eq, hTl, List.length_append]; omega
              have hR := refParse (⟨hd.toArray⟩ ++ ⟨en.toArray⟩) wr (hT.below hB3 (Nat.le_refl _)) (by omega)
              unfold resA at hR
              have hgood2 := fun h => hgood h _ hTl
              generalize parseF (⟨hd.toArray⟩ ++ ⟨en.toArray⟩) = G at *
              generalize G.2.2.2 = er at *
              have hk1 : hd.length ≤ 1000 := by omega
              have hk2 : en.length ≤ 1000 := by omega
              clear hgood HE2 hTl hTz
              by_cases hgd : er = 0 ∨ er = 6
              · have hgb : ((er : Int) == 0) = true ∨ ((er : Int) == 0) = false ∧ ((er : Int) == 6) = true := by
                  rcases hgd with h | h <;> simp [h]
                clear hgood2 hgd
                rcases hgb with g0 | ⟨g0, g6⟩
                all_goals
                  go_wp2_with fail
                  refine hR.mono ?_
                  rintro e wn ⟨rfl, hbn⟩
                  have hB4 := (hB3.trans (hbn.mono hB3.size)).alloc (hB3.trans (hbn.mono hB3.size)).size (.cells #[.string ⟨G.1.toArray⟩, .string ⟨G.2.1.toArray⟩] 23)
                  go_wp2_with fail
                  refine (live_any _ (hT.below hB4 (Nat.le_refl _))).mono ?_
                  rintro e wl ⟨rfl, hbl⟩
                  go_wp2
                  go_ret
                  exact ⟨rfl, hB4.trans (hbl.mono hB4.size)⟩
              · have g0 : ((er : Int) == 0) = false := by rw [beq_eq_false_iff_ne]; omega
                have g6 : ((er : Int) == 6) = false := by rw [beq_eq_false_iff_ne]; omega
                have hij2 : i < j := by
                  rcases Nat.lt_or_ge i j with h | h
                  · exact h
                  · exact absurd (hgood2 (by omega)) hgd
                clear hgood2 hgd
                go_wp2_with fail
                refine hR.mono ?_
                rintro e wn ⟨rfl, hbn⟩
                have hzn := hbn.size
                have hW5 := Lib.hid ((hbw.trans (hbn.mono (by omega))).alloc (by omega) (.cells #[.string ⟨G.1.toArray⟩, .string ⟨G.2.1.toArray⟩] 23))
                clear hbw hbn hB3 hR
                go_wp2
                go_roundw
                case rel => exact ⟨i + 1, by go_num, by omega, hW5.out⟩
                case measure => simp [intOf]; omega
      have p3 : 0 < n := by omega
      clear p2 hn0
      go_wp2_with fail
      refine (letters_any s _ (hT.below B1 (Nat.le_refl _)) (by omega)).mono ?_
      rintro e w2 ⟨v, rfl, hown, hb⟩
      have B2 := B1.trans (hb.mono B1.size)
      rw [letV_length] at hown
      obtain ⟨g, cap, rfl, hg, hcells⟩ := own_cells hown (by rw [HL.out]; omega)
      have hcc : Cells s w2 g := fun i hi => hcells i hi
      have HC := Lib.hid hcc
      rw [HL.out]
      clear hown hcells hb hcc b1 B1
      go_wp2
      have hat0 : at' ≤ s.size := p4
      go_loop [7, 8] (fun hv kv => ∃ k : Nat, kv = .int .i64 k ∧ k ≤ at' ∧ Run s k ∧ hv = .string ⟨(piece s 0 k).toArray⟩) (fun _ kv => at' - (intOf kv).toNat)
      case atStart => exact ⟨0, rfl, Nat.zero_le _, run_zero s, by rw [piece_nil]⟩
      case round =>
        obtain ⟨k, rfl, hk, hrk, rfl⟩ := hrel
        by_cases hka : k < at'
        · have hks : k < s.size := by omega
          obtain ⟨t2, r2, L2⟩ := letter_at s w2 g k HC.out hrk hks
          have hb2 := letter_byte L2 hks
          have hlow2 : r2 < 128 := by
            rcases Nat.lt_or_ge r2 128 with h | h
            · exact h
            · have h3 := hb2.2 h
              have h4 := HP5.out k hks hka
              omega
          have hcell2 := L2.cell
          have hsz2 := L2.small
          have hlt2 := L2.lt
          rw [HL.out] at hlt2
          have htx := (hb2.1 hlow2).2
          have HRN := Lib.hid (L2.low hlow2).2.1
          have hpl : (piece s 0 k).length ≤ 200 := by rw [piece_length s 0 k (Nat.zero_le _) (by omega)]; omega
          have hpc : piece s 0 (k + 1) = piece s 0 k ++ t2.data.toList := by
            rw [← piece_join s 0 k (k + 1) (Nat.zero_le _) (by omega), htx]
            congr 1
            rw [piece_range s k 1 (by omega)]
            simp [get_lt s k hks]
          have HPC := Lib.hid hpc
          clear hb2 htx hpc L2 hrk
          go_wp2
          go_round
          case rel =>
            refine ⟨k + 1, by go_num, by omega, HRN.out, ?_⟩
            rw [HPC.out]
            first | rfl | simp only [app_str]
          case measure => simp [intOf]; omega
        · have hke : k = at' := by omega
          subst hke
          have hpl : (piece s 0 k).length ≤ 200 := by rw [piece_length s 0 k (Nat.zero_le _) hat0]; omega
          have hpt : piece s 0 k = s.data.toList.take k := by unfold piece; simp
          have hend2 := HEND.out
          rw [← hpt] at hend2
          have HE2 := Lib.hid hend2
          generalize piece s 0 k = hd at *
          clear hpt hend2 hrk
          go_wp2
          go_loopw [74] (fun iv wr => ∃ i : Nat, iv = .int .i64 i ∧ i ≤ j ∧ Below (w2.heap.size + 1) (w2.alloc (.cells endVals 9)) wr) (fun iv _ => 7 - (intOf iv).toNat)
          case atStart => exact ⟨0, rfl, Nat.zero_le _, Below.refl _ _⟩
          case round =>
            obtain ⟨i, rfl, hij, hbw⟩ := hrel
            have hzw := hbw.size
            simp at hzw
            have hce : wr.cell? ⟨w2.heap.size, i, none⟩ = some (.string ⟨(endsL.getD i []).toArray⟩) := by
              rw [hbw.cell (p := ⟨w2.heap.size, i, none⟩) (by show w2.heap.size < _; omega), World.cell?_alloc_new]
              exact end_at i (by omega)
            have hel := end_len i
            have hgood : i = j → ∀ t : ByteArray, t.data.toList = hd ++ endsL.getD i [] → (parseF t).2.2.2 = 0 ∨ (parseF t).2.2.2 = 6 := by
              intro h t ht
              subst h
              refine HE2.out t ?_
              rw [ht, show endsL.getD i [] = e0 by rw [List.getD_eq_getElem?_getD, HJE.out]; rfl]
            generalize endsL.getD i [] = en at *
            have hB3 : Below w.heap.size w wr := (B2.alloc B2.size _).trans (hbw.mono (by have := B2.size; omega))
            have hTl : ((⟨hd.toArray⟩ : ByteArray) ++ ⟨en.toArray⟩).data.toList = hd ++ en := by rw [ByteArray.mk_append_mk]
            have hTz : ((⟨hd.toArray⟩ : ByteArray) ++ ⟨en.toArray⟩).size ≤ 204 := by rw [Lib.size_eq, hTl, List.length_append]; omega
            have hR := refParse (⟨hd.toArray⟩ ++ ⟨en.toArray⟩) wr (hT.below hB3 (Nat.le_refl _)) (by omega)
            unfold resA at hR
            have hgood2 := fun h => hgood h _ hTl
            generalize parseF (⟨hd.toArray⟩ ++ ⟨en.toArray⟩) = G at *
            generalize G.2.2.2 = er at *
            have hk1 : hd.length ≤ 1000 := by omega
            have hk2 : en.length ≤ 1000 := by omega
            clear hgood HE2 hTl hTz
            by_cases hgd : er = 0 ∨ er = 6
            · have hgb : ((er : Int) == 0) = true ∨ ((er : Int) == 0) = false ∧ ((er : Int) == 6) = true := by
                rcases hgd with h | h <;> simp [h]
              clear hgood2 hgd
              rcases hgb with g0 | ⟨g0, g6⟩
              all_goals
                go_wp2_with fail
                refine hR.mono ?_
                rintro e wn ⟨rfl, hbn⟩
                have hB4 := (hB3.trans (hbn.mono hB3.size)).alloc (hB3.trans (hbn.mono hB3.size)).size (.cells #[.string ⟨G.1.toArray⟩, .string ⟨G.2.1.toArray⟩] 23)
                go_wp2_with fail
                refine (live_any _ (hT.below hB4 (Nat.le_refl _))).mono ?_
                rintro e wl ⟨rfl, hbl⟩
                go_wp2
                go_ret
                exact ⟨rfl, hB4.trans (hbl.mono hB4.size)⟩
            · have g0 : ((er : Int) == 0) = false := by rw [beq_eq_false_iff_ne]; omega
              have g6 : ((er : Int) == 6) = false := by rw [beq_eq_false_iff_ne]; omega
              have hij2 : i < j := by
                rcases Nat.lt_or_ge i j with h | h
                · exact h
                · exact absurd (hgood2 (by omega)) hgd
              clear hgood2 hgd
              go_wp2_with fail
              refine hR.mono ?_
              rintro e wn ⟨rfl, hbn⟩
              have hzn := hbn.size
              have hW5 := Lib.hid ((hbw.trans (hbn.mono (by omega))).alloc (by omega) (.cells #[.string ⟨G.1.toArray⟩, .string ⟨G.2.1.toArray⟩] 23))
              clear hbw hbn hB3 hR
              go_wp2
              go_roundw
              case rel => exact ⟨i + 1, by go_num, by omega, hW5.out⟩
              case measure => simp [intOf]; omega
  · have hfin := parse_fin s (fun h => he (Or.inl h)) (fun h => he (Or.inr h))
    generalize parseF s = F at *
    rw [hfin] at hA
    generalize F.2.2.2 = er at *
    have n4 : ((er : Int) != 4) = true := by rw [bne_iff_ne]; omega
    have n3 : ((er : Int) != 3) = true := by rw [bne_iff_ne]; omega
    clear he hfin
    go_enter Tryd.func8, Tryd.ntmps8
    go_wp2_with fail
    refine (hA _ hT).mono ?_
    rintro e w1 ⟨rfl, b1⟩
    have B1 := b1.alloc b1.size (.cells #[.string ⟨F.1.toArray⟩, .string ⟨F.2.1.toArray⟩] 23)
    go_wp2_with fail
    refine (live_any _ (hT.below B1 (Nat.le_refl _))).mono ?_
    rintro e w2 ⟨rfl, b2⟩
    go_wp2
    go_ret
    exact ⟨ret_b (by simp), B1.trans (b2.mono B1.size)⟩
end Go.Proofs.YtmolifgjghbfaaaDoor
