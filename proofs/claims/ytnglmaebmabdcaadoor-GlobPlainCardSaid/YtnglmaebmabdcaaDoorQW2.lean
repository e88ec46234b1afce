/- Glob: the law GlobPlain, walked. -/
import Derived.Test.YtnglmaebmabdcaaDoorQ9
namespace Go.Proofs.YtnglmaebmabdcaaDoor
open Go Go.RowKit

def flatB (N : ByteArray) (i : Nat) : Bool := decide (∀ j, j < i → byt N j ≠ 47)
theorem flatB_zero (N : ByteArray) : flatB N 0 = true := by unfold flatB; exact decide_eq_true fun j hj => absurd hj (Nat.not_lt_zero _)
theorem flatB_no {N : ByteArray} {i : Nat} (h : flatB N i = false) : flatB N (i + 1) = false := by
  unfold flatB at *
  exact decide_eq_false fun h2 => of_decide_eq_false h fun j hj => h2 j (by omega)
theorem flatB_yes {N : ByteArray} {i : Nat} (h : flatB N i = true) (hi : i < N.size) : flatB N (i + 1) = (((N[i]'hi).toNat : Int) != 47) := by
  unfold flatB at *
  have h1 := of_decide_eq_true h
  rw [← byt_at N i hi, Bool.eq_iff_iff, decide_eq_true_eq, bne_iff_ne]
  constructor
  · intro h2 h3
    exact h2 i (by omega) (by omega)
  · intro h2 j hj
    by_cases e : j = i
    · subst e; omega
    · exact h1 j (by omega)

theorem bst {w a b : World} (h : Below w.heap.size w a) (h2 : Below a.heap.size a b) : Below w.heap.size w b := h.trans (h2.mono h.size)
theorem inL_short {s : ByteArray} (h : s.size < 5) : inL s.data.toList = false := inL_no (by rw [← Lib.size_eq]; omega)
theorem glob_short {P N : ByteArray} (h : P.size < 5) : globB P N = mtB P N := by
  unfold globB inboxB
  rw [inL_short h]
  rfl
theorem mtB_iff (P N : ByteArray) : mtB P N = true ↔ Gl.D P.size N.size (byt P) (byt N) 0 0 := Gl.rows_D _ _ _ _
theorem glob_star (N : ByteArray) : globB ⟨#[42]⟩ N = true := by
  rw [glob_short (by decide), mtB_iff]
  exact .star 0 0 N.size (by decide) rfl (Nat.zero_le _) .fin
theorem glob_part (N : ByteArray) : globB ⟨#[37]⟩ N = flatB N N.size := by
  rw [glob_short (by decide), Bool.eq_iff_iff, mtB_iff, Gl.D.part_iff (by decide) rfl]
  unfold flatB
  rw [decide_eq_true_eq]
  constructor
  · rintro ⟨m, _, h2, h3⟩ j hj
    have : m = N.size := Gl.D.end_iff.1 h3
    subst this
    exact h2 j (Nat.zero_le _) hj
  · intro h
    exact ⟨N.size, Nat.zero_le _, fun i _ hi => h i hi, .fin⟩
/-- A text without * and %. -/
def Plain (P : ByteArray) : Prop := ∀ i, i < P.size → byt P i ≠ 42 ∧ byt P i ≠ 37
theorem byt_ext {P N : ByteArray} (h1 : P.size = N.size) (h2 : ∀ i, i < P.size → byt P i = byt N i) : P = N := by
  refine str_ext (List.ext_getElem? fun i => ?_)
  by_cases hi : i < P.size
  · rw [byt_list P i hi, byt_list N i (by omega), h2 i hi]
  · rw [List.getElem?_eq_none (by rw [← Lib.size_eq]; omega), List.getElem?_eq_none (by rw [← Lib.size_eq]; omega)]
theorem plain_match {P : ByteArray} (h : Plain P) (N : ByteArray) : mtB P N = true ↔ P = N := by
  rw [mtB_iff, Gl.D.lits (k := 0) P.size (by omega) fun i _ hi => h i (by omega)]
  constructor
  · rintro ⟨_, h2, h3⟩
    rw [Nat.zero_add] at h3
    have h4 := Gl.D.end_iff.1 h3
    exact byt_ext (by omega) fun i hi => by have := h2 i hi; rwa [Nat.zero_add] at this
  · rintro rfl
    refine ⟨by omega, fun i _ => by rw [Nat.zero_add], ?_⟩
    rw [Nat.zero_add]
    exact .fin
theorem rest_byt (P : ByteArray) (i : Nat) (hi : 5 + i < P.size) : byt (rest5 P) i = byt P (5 + i) := by
  have hz : (rest5 P).size = P.size - 5 := by unfold rest5; rw [Lib.size_eq, Lib.extract_to_end, List.length_drop, ← Lib.size_eq]
  have h1 := byt_list (rest5 P) i (by omega)
  unfold rest5 at h1
  rw [Lib.extract_to_end, List.getElem?_drop, byt_list P (5 + i) hi] at h1
  have h2 := Option.some.inj h1
  have h3 := congrArg UInt8.toNat h2
  have hb1 : byt P (5 + i) < 256 := (P.get! (5 + i)).toNat_lt
  have hb2 : byt (P.extract 5 P.size) i < 256 := ((P.extract 5 P.size).get! i).toNat_lt
  unfold rest5
  simpa [Nat.mod_eq_of_lt hb1, Nat.mod_eq_of_lt hb2] using h3.symm
theorem plain_rest {P : ByteArray} (h : Plain P) : Plain (rest5 P) := by
  intro i hi
  have hz : (rest5 P).size = P.size - 5 := by unfold rest5; rw [Lib.size_eq, Lib.extract_to_end, List.length_drop, ← Lib.size_eq]
  rw [rest_byt P i (by omega)]
  exact h (5 + i) (by omega)
theorem glob_self {P : ByteArray} (h : Plain P) : globB P P = true := by
  unfold globB
  split
  · exact (plain_match (plain_rest h) _).2 rfl
  · exact (plain_match h _).2 rfl
theorem glob_low {P N : ByteArray} (h : Plain P) (hg : globB P N = true) : low N.data.toList = low P.data.toList := by
  unfold globB at hg
  split at hg
  · rename_i hi
    have hr := (plain_match (plain_rest h) _).1 hg
    unfold inboxB at hi
    rw [Bool.and_eq_true, Bool.and_eq_true] at hi
    obtain ⟨⟨h1, h2⟩, _⟩ := hi
    have e : ∀ s : ByteArray, inL s.data.toList = true → low s.data.toList = inbL ++ low (s.data.toList.drop 5) := by
      intro s hs
      unfold inL at hs
      rw [Bool.and_eq_true, beq_iff_eq] at hs
      conv => lhs; rw [← List.take_append_drop 5 s.data.toList]
      unfold low at *
      rw [List.map_append, hs.2]
    rw [e N h2, e P h1]
    have := congrArg (fun s : ByteArray => s.data.toList) hr
    simp only [rest5, Lib.extract_to_end] at this
    rw [this]
  · rw [(plain_match h _).1 hg]
theorem glob_eq {P N : ByteArray} (h : Plain P) (hi : inL P.data.toList = false) : globB P N = (P.toList == N.toList) := by
  unfold globB inboxB
  rw [hi]
  show mtB P N = _
  rw [Bool.eq_iff_iff, plain_match h, beq_iff_eq]
  exact ⟨fun h => by rw [h], toList_inj⟩

set_option maxHeartbeats 2000000 in
set_option maxRecDepth 100000 in
theorem walk_plain (A0 B0 : ByteArray) (w : World) (hM : Ml w) : Calls Tryd.prog 4 #[.string A0, .string B0] w fun e w' => e = .returned (.bool true) ∧ Below w.heap.size w w' := by
  have ha := short_any A0
  have hb := short_any B0
  have hA := shortS_le A0
  have hB := shortS_le B0
  generalize shortS A0 = a at *
  generalize shortS B0 = b at *
  have hstar := match_c ⟨#[42]⟩ b true (by decide) (by omega) (glob_star b)
  have hpart := match_c ⟨#[37]⟩ b (flatB b b.size) (by decide) (by omega) (glob_part b)
  have HSTAR := Lib.hid hstar; have HPART := Lib.hid hpart
  have HLIVE := Lib.hid (fun (w' : World) (h : Below w.heap.size w w') => live_true w' (hM.below h))
  clear hstar hpart hM
  go_enter Tryd.func4, Tryd.ntmps4
  go_wp2_with (first
    | (go_at_call 8; first | (with_reducible refine (ha _).mono ?_; rintro e w' ⟨rfl, rfl⟩) | (with_reducible refine (hb _).mono ?_; rintro e w' ⟨rfl, rfl⟩)))
  go_loop [5, 6] (fun fl i => ∃ k : Nat, k ≤ b.size ∧ i = .int .i64 (k : Int) ∧ fl = .bool (flatB b k)) (fun _ i => b.size - (intOf i).toNat)
  case atStart => exact ⟨0, Nat.zero_le _, rfl, by rw [flatB_zero]⟩
  case round =>
    obtain ⟨k, hk, rfl, rfl⟩ := hrel
    by_cases hlt : k < b.size
    · have hlti : (k : Int) < (b.size : Int) := by omega
      cases hf : flatB b k with
      | false =>
        have HN := Lib.hid (flatB_no hf)
        go_wp2
        refine ⟨⟨k + 1, by omega, rfl, by rw [HN.out]⟩, ?_⟩
        simp [intOf] <;> omega
      | true =>
        have HN := Lib.hid (flatB_yes hf hlt)
        go_wp2
        refine ⟨⟨k + 1, by omega, rfl, by rw [HN.out]⟩, ?_⟩
        simp [intOf] <;> omega
    · obtain rfl : k = b.size := by omega
      generalize hF : flatB b b.size = F at HPART
      clear hF
      go_wp2_with (first
        | (go_at_call 10; first | (with_reducible refine (HSTAR.out _).mono ?_; rintro e w1 ⟨rfl, hb1⟩) | (with_reducible refine (HPART.out _).mono ?_; rintro e w2 ⟨rfl, hb2⟩)))
      have HB2 := Lib.hid (hb1.trans (hb2.mono hb1.size))
      clear hb1 hb2 HSTAR HPART
      go_loop [7] (fun i => ∃ k : Nat, k ≤ a.size ∧ i = .int .i64 (k : Int) ∧ ∀ j, j < k → byt a j ≠ 42 ∧ byt a j ≠ 37) (fun i => a.size - (intOf i).toNat)
      case atStart => exact ⟨0, Nat.zero_le _, rfl, fun j hj => absurd hj (Nat.not_lt_zero _)⟩
      case round =>
        obtain ⟨k, hk, rfl, hpl⟩ := hrel
        have HPL := Lib.hid hpl
        clear hpl
        by_cases hlt : k < a.size
        · have hlti : (k : Int) < (a.size : Int) := by omega
          have hbc := byt_at a k hlt
          by_cases h1 : byt a k = 42
          · have q1 : (((a[k]'hlt).toNat : Int) == 42) = true := by rw [← hbc, h1]; rfl
            go_wp2_with (first | (go_at_call 9; refine (HLIVE.out _ HB2.out).mono ?_; rintro e w3 ⟨rfl, hb3⟩))
            go_ret
            exact ⟨rfl, HB2.out.trans (hb3.mono HB2.out.size)⟩
          · have q1 : (((a[k]'hlt).toNat : Int) == 42) = false := by rw [← hbc, beq_eq_false_iff_ne]; omega
            by_cases h2 : byt a k = 37
            · have q2 : (((a[k]'hlt).toNat : Int) == 37) = true := by rw [← hbc, h2]; rfl
              go_wp2_with (first | (go_at_call 9; refine (HLIVE.out _ HB2.out).mono ?_; rintro e w3 ⟨rfl, hb3⟩))
              go_ret
              exact ⟨rfl, HB2.out.trans (hb3.mono HB2.out.size)⟩
            · have q2 : (((a[k]'hlt).toNat : Int) == 37) = false := by rw [← hbc, beq_eq_false_iff_ne]; omega
              have HN : Hid (∀ j, j < k + 1 → byt a j ≠ 42 ∧ byt a j ≠ 37) := Lib.hid fun j hj => by
                by_cases e : j = k
                · subst e; exact ⟨h1, h2⟩
                · exact HPL.out j (by omega)
              go_wp2
              refine ⟨⟨k + 1, by omega, rfl, HN.out⟩, ?_⟩
              simp [intOf] <;> omega
        · obtain rfl : k = a.size := by omega
          have hP : Plain a := HPL.out
          clear HPL
          have haa := match_c a a true (by omega) (by omega) (glob_self hP)
          have hla := refLower a
          have hlb := refLower b
          have hl5 := refLower (a.extract 0 5)
          have h5s : (a.extract 0 5).size ≤ 9223372036854775807 := by rw [take_str]; show (List.take 5 a.data.toList).toArray.size ≤ _; simp; omega
          have hlx : (⟨(low (List.take 5 a.data.toList)).toArray⟩ : ByteArray).toList = low (List.take 5 a.data.toList) := by rw [Lib.toList_data]
          cases hg : globB a b with
          | false =>
            have hab := match_c a b false (by omega) (by omega) hg
            cases hi : inL a.data.toList with
            | true =>
              have h5 := inL_size hi
              have h5i : (5 : Int) ≤ (a.size : Int) := by omega
              rw [inL_yes (by rw [← Lib.size_eq]; exact h5)] at hi
              have q5 : (low (List.take 5 a.data.toList) == [105, 110, 98, 111, 120]) = true := hi
              clear hg hi
              go_wp2_with (first | (go_at_call 10; first | (with_reducible refine (haa _).mono ?_; rintro e w4 ⟨rfl, hb4⟩) | (with_reducible refine (hab _).mono ?_; rintro e w5 ⟨rfl, hb5⟩)) | (go_at_call 12; first | (with_reducible refine (hla _ (by omega)).mono ?_; rintro e w7 ⟨rfl, hb7⟩) | (with_reducible refine (hlb _ (by omega)).mono ?_; rintro e w8 ⟨rfl, hb8⟩) | (with_reducible refine (hl5 _ h5s).mono ?_; rintro e w6 ⟨rfl, hb6⟩)))
              have HC := Lib.hid (bst (bst (bst HB2.out hb4) hb5) hb6)
              refine (HLIVE.out _ HC.out).mono ?_
              rintro e w3 ⟨rfl, hb3⟩
              have HD := Lib.hid (bst HC.out hb3)
              clear hb4 hb5 hb6 hb3 HC
              go_wp2
              go_ret
              exact ⟨rfl, HD.out⟩
            | false =>
              have hge := glob_eq (N := b) hP hi
              rw [hg] at hge
              have q6 : (a.toList == b.toList) = false := hge.symm
              clear hg hge
              by_cases h5 : 5 ≤ a.size
              · have h5i : (5 : Int) ≤ (a.size : Int) := by omega
                rw [inL_yes (by rw [← Lib.size_eq]; exact h5)] at hi
                have q5 : (low (List.take 5 a.data.toList) == [105, 110, 98, 111, 120]) = false := hi
                clear hi
                go_wp2_with (first | (go_at_call 10; first | (with_reducible refine (haa _).mono ?_; rintro e w4 ⟨rfl, hb4⟩) | (with_reducible refine (hab _).mono ?_; rintro e w5 ⟨rfl, hb5⟩)) | (go_at_call 12; first | (with_reducible refine (hla _ (by omega)).mono ?_; rintro e w7 ⟨rfl, hb7⟩) | (with_reducible refine (hlb _ (by omega)).mono ?_; rintro e w8 ⟨rfl, hb8⟩) | (with_reducible refine (hl5 _ h5s).mono ?_; rintro e w6 ⟨rfl, hb6⟩)))
                have HC := Lib.hid (bst (bst (bst HB2.out hb4) hb5) hb6)
                refine (HLIVE.out _ HC.out).mono ?_
                rintro e w3 ⟨rfl, hb3⟩
                have HD := Lib.hid (bst HC.out hb3)
                clear hb4 hb5 hb6 hb3 HC
                go_wp2_with (first | (go_at_call 10; refine (hab _).mono ?_; rintro e w9 ⟨rfl, hb9⟩))
                go_ret
                exact ⟨rfl, bst HD.out hb9⟩
              · have h5i : ¬ (5 : Int) ≤ (a.size : Int) := by omega
                clear hi
                go_wp2_with (first | (go_at_call 10; first | (with_reducible refine (haa _).mono ?_; rintro e w4 ⟨rfl, hb4⟩) | (with_reducible refine (hab _).mono ?_; rintro e w5 ⟨rfl, hb5⟩)) | (go_at_call 12; first | (with_reducible refine (hla _ (by omega)).mono ?_; rintro e w7 ⟨rfl, hb7⟩) | (with_reducible refine (hlb _ (by omega)).mono ?_; rintro e w8 ⟨rfl, hb8⟩) | (with_reducible refine (hl5 _ h5s).mono ?_; rintro e w6 ⟨rfl, hb6⟩)))
                have HC := Lib.hid (bst (bst HB2.out hb4) hb5)
                refine (HLIVE.out _ HC.out).mono ?_
                rintro e w3 ⟨rfl, hb3⟩
                have HD := Lib.hid (bst HC.out hb3)
                clear hb4 hb5 hb3 HC
                go_wp2_with (first | (go_at_call 10; refine (hab _).mono ?_; rintro e w9 ⟨rfl, hb9⟩))
                go_ret
                exact ⟨rfl, bst HD.out hb9⟩
          | true =>
            have hab := match_c a b true (by omega) (by omega) hg
            have hlow := glob_low hP hg
            rw [hlow] at hlb
            have hLL : (low a.data.toList == low a.data.toList) = true := by simp
            clear hlow
            cases hi : inL a.data.toList with
            | true =>
              have h5 := inL_size hi
              have h5i : (5 : Int) ≤ (a.size : Int) := by omega
              rw [inL_yes (by rw [← Lib.size_eq]; exact h5)] at hi
              have q5 : (low (List.take 5 a.data.toList) == [105, 110, 98, 111, 120]) = true := hi
              clear hg hi
              go_wp2_with (first | (go_at_call 10; first | (with_reducible refine (haa _).mono ?_; rintro e w4 ⟨rfl, hb4⟩) | (with_reducible refine (hab _).mono ?_; rintro e w5 ⟨rfl, hb5⟩)) | (go_at_call 12; first | (with_reducible refine (hla _ (by omega)).mono ?_; rintro e w7 ⟨rfl, hb7⟩) | (with_reducible refine (hlb _ (by omega)).mono ?_; rintro e w8 ⟨rfl, hb8⟩) | (with_reducible refine (hl5 _ h5s).mono ?_; rintro e w6 ⟨rfl, hb6⟩)))
              have HC := Lib.hid (bst (bst (bst (bst (bst HB2.out hb4) hb5) hb7) hb8) hb6)
              refine (HLIVE.out _ HC.out).mono ?_
              rintro e w3 ⟨rfl, hb3⟩
              have HD := Lib.hid (bst HC.out hb3)
              clear hb4 hb5 hb7 hb8 hb6 hb3 HC
              go_wp2
              go_ret
              exact ⟨rfl, HD.out⟩
            | false =>
              have hge := glob_eq (N := b) hP hi
              rw [hg] at hge
              have q6 : (a.toList == b.toList) = true := hge.symm
              clear hg hge
              by_cases h5 : 5 ≤ a.size
              · have h5i : (5 : Int) ≤ (a.size : Int) := by omega
                rw [inL_yes (by rw [← Lib.size_eq]; exact h5)] at hi
                have q5 : (low (List.take 5 a.data.toList) == [105, 110, 98, 111, 120]) = false := hi
                clear hi
                go_wp2_with (first | (go_at_call 10; first | (with_reducible refine (haa _).mono ?_; rintro e w4 ⟨rfl, hb4⟩) | (with_reducible refine (hab _).mono ?_; rintro e w5 ⟨rfl, hb5⟩)) | (go_at_call 12; first | (with_reducible refine (hla _ (by omega)).mono ?_; rintro e w7 ⟨rfl, hb7⟩) | (with_reducible refine (hlb _ (by omega)).mono ?_; rintro e w8 ⟨rfl, hb8⟩) | (with_reducible refine (hl5 _ h5s).mono ?_; rintro e w6 ⟨rfl, hb6⟩)))
                have HC := Lib.hid (bst (bst (bst (bst (bst HB2.out hb4) hb5) hb7) hb8) hb6)
                refine (HLIVE.out _ HC.out).mono ?_
                rintro e w3 ⟨rfl, hb3⟩
                have HD := Lib.hid (bst HC.out hb3)
                clear hb4 hb5 hb7 hb8 hb6 hb3 HC
                go_wp2_with (first | (go_at_call 10; refine (hab _).mono ?_; rintro e w9 ⟨rfl, hb9⟩))
                go_ret
                exact ⟨rfl, bst HD.out hb9⟩
              · have h5i : ¬ (5 : Int) ≤ (a.size : Int) := by omega
                clear hi
                go_wp2_with (first | (go_at_call 10; first | (with_reducible refine (haa _).mono ?_; rintro e w4 ⟨rfl, hb4⟩) | (with_reducible refine (hab _).mono ?_; rintro e w5 ⟨rfl, hb5⟩)) | (go_at_call 12; first | (with_reducible refine (hla _ (by omega)).mono ?_; rintro e w7 ⟨rfl, hb7⟩) | (with_reducible refine (hlb _ (by omega)).mono ?_; rintro e w8 ⟨rfl, hb8⟩) | (with_reducible refine (hl5 _ h5s).mono ?_; rintro e w6 ⟨rfl, hb6⟩)))
                have HC := Lib.hid (bst (bst (bst (bst HB2.out hb4) hb5) hb7) hb8)
                refine (HLIVE.out _ HC.out).mono ?_
                rintro e w3 ⟨rfl, hb3⟩
                have HD := Lib.hid (bst HC.out hb3)
                clear hb4 hb5 hb7 hb8 hb3 HC
                go_wp2_with (first | (go_at_call 10; refine (hab _).mono ?_; rintro e w9 ⟨rfl, hb9⟩))
                go_ret
                exact ⟨rfl, bst HD.out hb9⟩
end Go.Proofs.YtnglmaebmabdcaaDoor
