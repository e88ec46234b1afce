/- Glob: both Match. -/
import Derived.Test.YtnglmaebmabdcaaDoorQ4
namespace Go.Proofs.YtnglmaebmabdcaaDoor
open Go Go.RowKit

/-- The letters behind the fifth. -/
def rest5 (s : ByteArray) : ByteArray := s.extract 5 s.size
/-- Behind INBOX the name ends, or a / stands. -/
def tailB (N : ByteArray) : Bool := N.size == 5 || byt N 5 == 47
def inboxB (P N : ByteArray) : Bool := inL P.data.toList && inL N.data.toList && tailB N
def globB (P N : ByteArray) : Bool := if inboxB P N = true then mtB (rest5 P) (rest5 N) else mtB P N

theorem rest5_le (s : ByteArray) (h : s.size ≤ 1000) : (rest5 s).size ≤ 1000 := by
  unfold rest5
  rw [Lib.size_eq, Lib.extract_to_end, List.length_drop, ← Lib.size_eq]; omega
theorem match_is (P N : ByteArray) (w : World) (hP : P.size ≤ 1000) (hN : N.size ≤ 1000) :
    Calls Tryd.prog 27 #[.string P, .string N] w fun e w' => e = .returned (.bool (mtB P N)) ∧ Below w.heap.size w w' := by
  refine (match_any P N w hP hN).mono ?_
  rintro e w' ⟨⟨b, rfl, hb⟩, h⟩
  exact ⟨ret_bool (by rw [Bool.eq_iff_iff, hb]; exact (Gl.rows_D _ _ _ _).symm), h⟩
theorem inL_size {s : ByteArray} (h : inL s.data.toList = true) : 5 ≤ s.size := by
  unfold inL at h
  rw [Bool.and_eq_true, decide_eq_true_eq, ← Lib.size_eq] at h
  exact h.1
theorem tail_code (N : ByteArray) (h : 5 ≤ N.size) : ((rest5 N).toList.isEmpty || Lib.hasPrefix (rest5 N).data.toList [47]) = tailB N := by
  unfold tailB rest5
  rw [Lib.toList_data, Lib.extract_to_end]
  by_cases h5 : N.size = 5
  · have : N.data.toList.drop 5 = [] := List.eq_nil_of_length_eq_zero (by rw [List.length_drop, ← Lib.size_eq]; omega)
    rw [this, h5]; rfl
  · have hlt : 5 < N.data.toList.length := by rw [← Lib.size_eq]; omega
    have h1 := byt_list N 5 (by omega)
    rw [List.getElem?_eq_getElem hlt] at h1
    rw [List.drop_eq_getElem_cons hlt, Option.some.inj h1]
    have h2 : (N.size == 5) = false := by simpa using h5
    rw [h2]
    show ([47] : List UInt8).isPrefixOf (UInt8.ofNat (byt N 5) :: _) = (byt N 5 == 47)
    rw [Bool.eq_iff_iff, beq_iff_eq]
    have hb : byt N 5 < 256 := (N.get! 5).toNat_lt
    simp only [List.isPrefixOf, Bool.and_true, beq_iff_eq]
    constructor
    · intro h
      have := congrArg UInt8.toNat h
      simpa [Nat.mod_eq_of_lt hb] using this.symm
    · intro h
      rw [h]; rfl

set_option maxHeartbeats 1000000 in
set_option maxRecDepth 100000 in
theorem Match_any (P N : ByteArray) (w : World) (hP : P.size ≤ 1000) (hN : N.size ≤ 1000) :
    Calls Tryd.prog 10 #[.string P, .string N] w fun e w' => e = .returned (.bool (globB P N)) ∧ Below w.heap.size w w' := by
  go_enter Tryd.func10, Tryd.ntmps10
  have hbP := begins P
  have hbN := begins N
  have hm := match_is P N
  have hm5 := match_is (rest5 P) (rest5 N)
  unfold globB inboxB
  cases h1 : inL P.data.toList with
  | false =>
    rw [h1] at hbP
    simp only [Bool.false_and, Bool.false_eq_true, if_false]
    go_wp2_with (first | (go_at_call 25; refine (hbP _ (by omega)).mono ?_; rintro e w1 ⟨rfl, hb1⟩) | (go_at_call 27; refine (hm _ hP hN).mono ?_; rintro e w2 ⟨rfl, hb2⟩))
    go_ret
    exact ⟨rfl, hb1.trans (hb2.mono hb1.size)⟩
  | true =>
    rw [h1] at hbP
    cases h2 : inL N.data.toList with
    | false =>
      rw [h2] at hbN
      simp only [Bool.and_false, Bool.false_and, Bool.false_eq_true, if_false]
      go_wp2_with (first | (go_at_call 25; first | (with_reducible refine (hbP _ (by omega)).mono ?_; rintro e w1 ⟨rfl, hb1⟩) | (with_reducible refine (hbN _ (by omega)).mono ?_; rintro e w3 ⟨rfl, hb3⟩)) | (go_at_call 27; refine (hm _ hP hN).mono ?_; rintro e w2 ⟨rfl, hb2⟩))
      go_ret
      exact ⟨rfl, (hb1.trans (hb3.mono hb1.size)).trans (hb2.mono (Nat.le_trans hb1.size hb3.size))⟩
    | true =>
      have hs5 := inL_size h2
      have hp5 := inL_size h1
      have htc := tail_code N hs5
      rw [h2] at hbN
      simp only [Bool.true_and]
      have hs5i : (5 : Int) ≤ (N.size : Int) := by omega
      have hp5i : (5 : Int) ≤ (P.size : Int) := by omega
      have hP5 := rest5_le P hP
      have hN5 := rest5_le N hN
      rw [← htc]
      clear htc
      unfold rest5 at hm5 hP5 hN5 ⊢
      have hpre := Tryd.strings_HasPrefix (N.extract 5 N.size) ⟨#[47]⟩
      cases he : (N.extract 5 N.size).toList.isEmpty with
      | true =>
        have hnil : (N.extract 5 N.size).toList = [] := by simpa using he
        simp only [Bool.true_or, if_true]
        go_wp2_with (first | (go_at_call 25; first | (with_reducible refine (hbP _ (by omega)).mono ?_; rintro e w1 ⟨rfl, hb1⟩) | (with_reducible refine (hbN _ (by omega)).mono ?_; rintro e w3 ⟨rfl, hb3⟩)) | (go_at_call 27; refine (hm5 _ hP5 hN5).mono ?_; rintro e w2 ⟨rfl, hb2⟩))
        go_ret
        exact ⟨rfl, (hb1.trans (hb3.mono hb1.size)).trans (hb2.mono (Nat.le_trans hb1.size hb3.size))⟩
      | false =>
        cases hh : Lib.hasPrefix (N.extract 5 N.size).data.toList [47] with
        | true =>
          have hpre' : ∀ w, Calls Tryd.prog 26 #[.string (N.extract 5 N.size), .string ⟨#[47]⟩] w fun e w' => e = .returned (.bool true) ∧ w' = w := fun w => by rw [← hh]; exact hpre w
          simp only [Bool.false_or, if_true]
          go_wp2_with (first | (go_at_call 25; first | (with_reducible refine (hbP _ (by omega)).mono ?_; rintro e w1 ⟨rfl, hb1⟩) | (with_reducible refine (hbN _ (by omega)).mono ?_; rintro e w3 ⟨rfl, hb3⟩)) | (go_at_call 26; refine (hpre' _).mono ?_; rintro e w4 ⟨rfl, rfl⟩) | (go_at_call 27; refine (hm5 _ hP5 hN5).mono ?_; rintro e w2 ⟨rfl, hb2⟩))
          go_ret
          exact ⟨rfl, (hb1.trans (hb3.mono hb1.size)).trans (hb2.mono (Nat.le_trans hb1.size hb3.size))⟩
        | false =>
          have hpre' : ∀ w, Calls Tryd.prog 26 #[.string (N.extract 5 N.size), .string ⟨#[47]⟩] w fun e w' => e = .returned (.bool false) ∧ w' = w := fun w => by rw [← hh]; exact hpre w
          simp only [Bool.false_or, Bool.false_eq_true, if_false]
          go_wp2_with (first | (go_at_call 25; first | (with_reducible refine (hbP _ (by omega)).mono ?_; rintro e w1 ⟨rfl, hb1⟩) | (with_reducible refine (hbN _ (by omega)).mono ?_; rintro e w3 ⟨rfl, hb3⟩)) | (go_at_call 26; refine (hpre' _).mono ?_; rintro e w4 ⟨rfl, rfl⟩) | (go_at_call 27; refine (hm _ hP hN).mono ?_; rintro e w2 ⟨rfl, hb2⟩))
          go_ret
          exact ⟨rfl, (hb1.trans (hb3.mono hb1.size)).trans (hb2.mono (Nat.le_trans hb1.size hb3.size))⟩

set_option maxHeartbeats 1000000 in
set_option maxRecDepth 100000 in
theorem refMatch (P N : ByteArray) (w : World) (hP : P.size ≤ 1000) (hN : N.size ≤ 1000) :
    Calls Tryd.prog 11 #[.string P, .string N] w fun e w' => e = .returned (.bool (globB P N)) ∧ Below w.heap.size w w' := by
  go_enter Tryd.func11, Tryd.ntmps11
  have hbP := refInbox P
  have hbN := refInbox N
  have hm := refMatch0 P N
  have hm5 := refMatch0 (rest5 P) (rest5 N)
  unfold globB inboxB
  cases h1 : inL P.data.toList with
  | false =>
    rw [h1] at hbP
    simp only [Bool.false_and, Bool.false_eq_true, if_false]
    go_wp2_with (first | (go_at_call 28; refine (hbP _ (by omega)).mono ?_; rintro e w1 ⟨rfl, hb1⟩) | (go_at_call 29; refine (hm _ hP hN).mono ?_; rintro e w2 ⟨rfl, hb2⟩))
    go_ret
    exact ⟨rfl, hb1.trans (hb2.mono hb1.size)⟩
  | true =>
    rw [h1] at hbP
    cases h2 : inL N.data.toList with
    | false =>
      rw [h2] at hbN
      simp only [Bool.and_false, Bool.false_and, Bool.false_eq_true, if_false]
      go_wp2_with (first | (go_at_call 28; first | (with_reducible refine (hbP _ (by omega)).mono ?_; rintro e w1 ⟨rfl, hb1⟩) | (with_reducible refine (hbN _ (by omega)).mono ?_; rintro e w3 ⟨rfl, hb3⟩)) | (go_at_call 29; refine (hm _ hP hN).mono ?_; rintro e w2 ⟨rfl, hb2⟩))
      go_ret
      exact ⟨rfl, (hb1.trans (hb3.mono hb1.size)).trans (hb2.mono (Nat.le_trans hb1.size hb3.size))⟩
    | true =>
      have hs5 := inL_size h2
      have hp5 := inL_size h1
      rw [h2] at hbN
      simp only [Bool.true_and]
      have hs5i : (5 : Int) ≤ (N.size : Int) := by omega
      have hp5i : (5 : Int) ≤ (P.size : Int) := by omega
      have hP5 := rest5_le P hP
      have hN5 := rest5_le N hN
      unfold rest5 at hm5 hP5 hN5 ⊢
      have HM5 := Lib.hid hm5
      clear hm5
      by_cases ht : tailB N = true
      · rw [if_pos ht]
        unfold tailB at ht
        rw [Bool.or_eq_true, beq_iff_eq, beq_iff_eq] at ht
        by_cases h5 : N.size = 5
        · have q1 : ((N.size : Int) == 5) = true := by rw [h5]; rfl
          clear ht h5
          go_upto_region 2 with (first | (go_at_call 28; first | (with_reducible refine (hbP _ (by omega)).mono ?_; rintro e w1 ⟨rfl, hb1⟩) | (with_reducible refine (hbN _ (by omega)).mono ?_; rintro e w3 ⟨rfl, hb3⟩)))
          go_region_with (first | (go_at_call 29; with_reducible refine (HM5.out _ hP5 hN5).mono ?_; rintro e w2 ⟨rfl, hb2⟩))
          all_goals go_wp2
          all_goals go_ret
          all_goals exact ⟨rfl, (hb1.trans (hb3.mono hb1.size)).drew.trans (hb2.mono (Nat.le_trans hb1.size hb3.size))⟩
        · have hgt : 5 < N.size := by omega
          have hgti : (5 : Int) < (N.size : Int) := by omega
          have q1 : ((N.size : Int) == 5) = false := by rw [beq_eq_false_iff_ne]; omega
          have q2 : (((N[5]'hgt).toNat : Int) == 47) = true := by
            rw [← byt_at N 5 hgt, ht.resolve_left h5]; rfl
          clear ht h5
          go_upto_region 2 with (first | (go_at_call 28; first | (with_reducible refine (hbP _ (by omega)).mono ?_; rintro e w1 ⟨rfl, hb1⟩) | (with_reducible refine (hbN _ (by omega)).mono ?_; rintro e w3 ⟨rfl, hb3⟩)))
          go_region_with (first | (go_at_call 29; with_reducible refine (HM5.out _ hP5 hN5).mono ?_; rintro e w2 ⟨rfl, hb2⟩))
          all_goals go_wp2
          all_goals go_ret
          all_goals exact ⟨rfl, (hb1.trans (hb3.mono hb1.size)).drew.trans (hb2.mono (Nat.le_trans hb1.size hb3.size))⟩
      · rw [if_neg ht]
        have ht2 : N.size ≠ 5 ∧ byt N 5 ≠ 47 := by
          constructor
          · intro h; exact ht (by unfold tailB; rw [h]; rfl)
          · intro h; exact ht (by unfold tailB; rw [h]; simp)
        have hgt : 5 < N.size := by omega
        have hgti : (5 : Int) < (N.size : Int) := by omega
        have q1 : ((N.size : Int) == 5) = false := by rw [beq_eq_false_iff_ne]; omega
        have q2 : (((N[5]'hgt).toNat : Int) == 47) = false := by
          rw [← byt_at N 5 hgt, beq_eq_false_iff_ne]; omega
        clear ht ht2
        go_wp2_with (first | (go_at_call 28; first | (with_reducible refine (hbP _ (by omega)).mono ?_; rintro e w1 ⟨rfl, hb1⟩) | (with_reducible refine (hbN _ (by omega)).mono ?_; rintro e w3 ⟨rfl, hb3⟩)) | (go_at_call 29; refine (hm _ hP hN).mono ?_; rintro e w2 ⟨rfl, hb2⟩))
        go_ret
        exact ⟨rfl, (hb1.trans (hb3.mono hb1.size)).trans (hb2.mono (Nat.le_trans hb1.size hb3.size))⟩
end Go.Proofs.YtnglmaebmabdcaaDoor
