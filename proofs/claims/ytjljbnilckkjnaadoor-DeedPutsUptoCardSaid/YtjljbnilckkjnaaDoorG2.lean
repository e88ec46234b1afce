/- Deed: names: the document's RightUser; Fold and RightBox, both. -/
import Derived.Test.YtjljbnilckkjnaaDoorG1
namespace Go.Proofs.YtjljbnilckkjnaaDoor
open Go.RowKit

def goodL : List Nat := [97, 98, 99, 100, 101, 102, 103, 104, 105, 106, 107, 108, 109, 110, 111, 112, 113, 114, 115, 116, 117, 118, 119, 120, 121, 122, 48, 49, 50, 51, 52, 53, 54, 55, 56, 57, 46, 45, 95]
def goodC : ByteArray := ⟨#[97, 98, 99, 100, 101, 102, 103, 104, 105, 106, 107, 108, 109, 110, 111, 112, 113, 114, 115, 116, 117, 118, 119, 120, 121, 122, 48, 49, 50, 51, 52, 53, 54, 55, 56, 57, 46, 45, 95]⟩
theorem good_at : ∀ k (h : k < 39), ((⟨#[97, 98, 99, 100, 101, 102, 103, 104, 105, 106, 107, 108, 109, 110, 111, 112, 113, 114, 115, 116, 117, 118, 119, 120, 121, 122, 48, 49, 50, 51, 52, 53, 54, 55, 56, 57, 46, 45, 95]⟩ : ByteArray)[k]'h).toNat = goodL.getD k 0 := by decide +kernel
theorem good_mem : ∀ r, r < 256 → goodR r = decide (r ∈ goodL) := by decide +kernel
theorem good_take : ∀ k, k < 39 → goodL.take (k + 1) = goodL.take k ++ [goodL.getD k 0] := by decide +kernel
def fndB (r k : Nat) : Bool := decide (r ∈ goodL.take k)
theorem fnd_next (r k : Nat) (h : k < 39) : fndB r (k + 1) = (fndB r k || decide (r = goodL.getD k 0)) := by
  unfold fndB
  rw [good_take k h, Bool.eq_iff_iff]
  simp [List.mem_append]
theorem fnd_end (c : UInt8) : fndB c.toNat 39 = goodB c := by
  unfold goodB
  rw [good_mem c.toNat c.toNat_lt]
  rfl

set_option maxHeartbeats 2000000 in
set_option maxRecDepth 100000 in
theorem refRightUser (s : ByteArray) (w : World) (hs : s.size ≤ 9223372036854775807) :
    Calls Tryd.prog 13 #[.string s] w fun e w' => e = .returned (.bool (rightU s)) ∧ Below w.heap.size w w' := by
  generalize hF : rightU s = F
  have HF : Hid (((s.data.toList.drop 0).all goodB && (decide (1 ≤ s.size) && decide (s.size ≤ 24))) = F) := Lib.hid (by rw [List.drop_zero]; exact hF)
  clear hF
  go_enter Tryd.func13, Tryd.ntmps13
  go_wp2
  go_loopw [3, 4, 5] (fun iv _f _k wr => ∃ i : Nat, i ≤ s.size ∧ iv = .int .i64 (i : Int) ∧ Hid (((s.data.toList.drop i).all goodB && (decide (1 ≤ s.size) && decide (s.size ≤ 24))) = F) ∧ Below w.heap.size w wr) (fun iv _ _ _ => s.size - (intOf iv).toNat)
  case atStart => exact ⟨0, Nat.zero_le _, rfl, HF, Below.refl _ _⟩
  case round =>
    clear HF
    obtain ⟨i, hi, rfl, HA, hb⟩ := hrel
    obtain ⟨wo, rfl⟩ : ∃ wo : World, wo = wr := ⟨_, rfl⟩
    by_cases hlt : i < s.size
    · have hall := HA.out
      rw [all_at1 s i hlt] at hall
      have HAL := Lib.hid hall
      clear hall HA
      go_wp2
      go_loopw [4, 5] (fun fv kv wi => ∃ k : Nat, k ≤ 39 ∧ kv = .int .i64 (k : Int) ∧ fv = .bool (fndB s[i].toNat k) ∧ Below w.heap.size w wi) (fun _ kv _ => 39 - (intOf kv).toNat)
      case atStart => exact ⟨0, by omega, rfl, rfl, hb⟩
      case round =>
        obtain ⟨k, hk, rfl, rfl, hbi⟩ := hrel
        by_cases hk9 : k < 39
        · have hki : (k : Int) < 39 := by omega
          have hgk := good_at k hk9
          have hnx := fnd_next s[i].toNat k hk9
          cases hf : fndB s[i].toNat k with
          | true =>
            have HN : Hid (fndB s[i].toNat (k + 1) = true) := Lib.hid (by rw [hnx, hf]; rfl)
            clear hnx hgk hf
            go_wp2_with fail
            go_quiet (fail)
            go_wp2
            go_roundw
            case rel => exact ⟨k + 1, by omega, by go_num, by rw [HN.out], below_drewN1 hbi _⟩
            case measure => simp [intOf]; omega
          | false =>
            by_cases hbd : s[i].toNat = goodL.getD k 0
            · have HN : Hid (fndB s[i].toNat (k + 1) = true) := Lib.hid (by rw [hnx, hf, decide_eq_true hbd]; rfl)
              have g1 : ((s[i].toNat : Int) == (((⟨#[97, 98, 99, 100, 101, 102, 103, 104, 105, 106, 107, 108, 109, 110, 111, 112, 113, 114, 115, 116, 117, 118, 119, 120, 121, 122, 48, 49, 50, 51, 52, 53, 54, 55, 56, 57, 46, 45, 95]⟩ : ByteArray)[k]'hk9).toNat : Int)) = true := by rw [hgk, beq_iff_eq]; omega
              clear hnx hgk hbd hf
              go_wp2_with fail
              go_quiet (fail)
              go_wp2
              go_roundw
              case rel => exact ⟨k + 1, by omega, by go_num, by rw [HN.out], below_drewN1 hbi _⟩
              case measure => simp [intOf]; omega
            · have HN : Hid (fndB s[i].toNat (k + 1) = false) := Lib.hid (by rw [hnx, hf, decide_eq_false hbd]; rfl)
              have g1 : ((s[i].toNat : Int) == (((⟨#[97, 98, 99, 100, 101, 102, 103, 104, 105, 106, 107, 108, 109, 110, 111, 112, 113, 114, 115, 116, 117, 118, 119, 120, 121, 122, 48, 49, 50, 51, 52, 53, 54, 55, 56, 57, 46, 45, 95]⟩ : ByteArray)[k]'hk9).toNat : Int)) = false := by rw [hgk, beq_eq_false_iff_ne]; omega
              clear hnx hgk hbd hf
              go_wp2_with fail
              go_quiet (fail)
              go_wp2
              go_roundw
              case rel => exact ⟨k + 1, by omega, by go_num, by rw [HN.out], below_drewN1 hbi _⟩
              case measure => simp [intOf]; omega
        · obtain rfl : k = 39 := by omega
          rw [fnd_end]
          cases hg : goodB s[i] with
          | true =>
            have HN := Lib.hid (show ((s.data.toList.drop (i + 1)).all goodB && (decide (1 ≤ s.size) && decide (s.size ≤ 24))) = F by have := HAL.out; rwa [hg, Bool.true_and] at this)
            clear hg
            go_wp2
            go_roundw
            case rel => exact ⟨i + 1, by omega, by go_num, HN, hbi⟩
            case measure => simp [intOf]; omega
          | false =>
            have HN : Hid (false = F) := Lib.hid (by have := HAL.out; rwa [hg, Bool.false_and, Bool.false_and] at this)
            clear hg
            go_wp2
            go_ret
            exact ⟨ret_bool HN.out, hbi⟩
    · have hall := HA.out
      rw [all_end1 s i hlt, Bool.true_and] at hall
      have hsp : s.size = 0 ∨ (1 ≤ s.size ∧ s.size ≤ 24) ∨ 24 < s.size := by omega
      clear HA
      rcases hsp with h | ⟨h, h'⟩ | h
      · have HN : Hid (false = F) := Lib.hid (by rw [← hall, decide_eq_false (show ¬ 1 ≤ s.size by omega)]; rfl)
        have h1 : ¬ (1 : Int) ≤ (s.size : Int) := by omega
        clear hall h
        go_wp2
        go_ret
        exact ⟨ret_bool HN.out, hb⟩
      · have HN : Hid (true = F) := Lib.hid (by rw [← hall, decide_eq_true h, decide_eq_true h']; rfl)
        have h1 : (1 : Int) ≤ (s.size : Int) := by omega
        have h2 : (s.size : Int) ≤ 24 := by omega
        clear hall
        go_wp2
        go_ret
        exact ⟨ret_bool (by rw [← HN.out] <;> simp <;> omega), hb⟩
      · have HN : Hid (false = F) := Lib.hid (by rw [← hall, decide_eq_false (show ¬ s.size ≤ 24 by omega)]; simp)
        have h1 : (1 : Int) ≤ (s.size : Int) := by omega
        have h2 : ¬ (s.size : Int) ≤ 24 := by omega
        clear hall
        go_wp2
        go_ret
        exact ⟨ret_bool (by rw [← HN.out] <;> simp <;> omega), hb⟩

/-- A box's name as it is known. -/
def inboxS : ByteArray := ⟨#[73, 78, 66, 79, 88]⟩
def isIn (s : ByteArray) : Bool := low s.data.toList == [105, 110, 98, 111, 120]
def foldF (s : ByteArray) : ByteArray := if isIn s = true then inboxS else s
set_option maxHeartbeats 400000 in
set_option maxRecDepth 100000 in
theorem fold_any (s : ByteArray) (w : World) : Calls Tryd.prog 16 #[.string s] w fun e w' => e = .returned (.string (foldF s)) ∧ Below w.heap.size w w' := by
  have hc := same s ⟨#[73, 78, 66, 79, 88]⟩ w
  have e0 : (low s.data.toList == low (⟨#[73, 78, 66, 79, 88]⟩ : ByteArray).data.toList) = isIn s := rfl
  rw [e0] at hc
  unfold foldF
  cases hi : isIn s with
  | true =>
    rw [hi] at hc
    have HC := Lib.hid hc
    clear hc e0 hi
    go_enter Tryd.func16, Tryd.ntmps16
    go_wp2_with fail
    refine HC.out.mono ?_
    rintro e w1 ⟨rfl, hb⟩
    go_wp2
    go_ret
    exact ⟨rfl, hb⟩
  | false =>
    rw [hi] at hc
    have HC := Lib.hid hc
    clear hc e0 hi
    go_enter Tryd.func16, Tryd.ntmps16
    go_wp2_with fail
    refine HC.out.mono ?_
    rintro e w1 ⟨rfl, hb⟩
    go_wp2
    go_ret
    exact ⟨rfl, hb⟩
set_option maxHeartbeats 400000 in
set_option maxRecDepth 100000 in
theorem refFold (s : ByteArray) (w : World) (hs : s.size ≤ 9223372036854775807) : Calls Tryd.prog 17 #[.string s] w fun e w' => e = .returned (.string (foldF s)) ∧ Below w.heap.size w w' := by
  have HC := Lib.hid (refLower s w hs)
  have e0 : ((⟨(low s.data.toList).toArray⟩ : ByteArray).toList == [105, 110, 98, 111, 120]) = isIn s := by rw [Lib.toList_data]; rfl
  unfold foldF
  cases hi : isIn s with
  | true =>
    rw [hi] at e0
    generalize (⟨(low s.data.toList).toArray⟩ : ByteArray) = X at *
    clear hi
    go_enter Tryd.func17, Tryd.ntmps17
    go_wp2_with fail
    refine HC.out.mono ?_
    rintro e w1 ⟨rfl, hb⟩
    go_wp2
    go_ret
    exact ⟨rfl, hb⟩
  | false =>
    rw [hi] at e0
    generalize (⟨(low s.data.toList).toArray⟩ : ByteArray) = X at *
    clear hi
    go_enter Tryd.func17, Tryd.ntmps17
    go_wp2_with fail
    refine HC.out.mono ?_
    rintro e w1 ⟨rfl, hb⟩
    go_wp2
    go_ret
    exact ⟨rfl, hb⟩
/-- Which names of boxes are right. -/
def rightX (s : ByteArray) : Bool := (decide (1 ≤ s.size) && decide (s.size ≤ 24)) && (decide ((quoteF s).2.2 = 0) && ((foldF s).toList == s.toList))
set_option maxHeartbeats 1000000 in
set_option maxRecDepth 100000 in
theorem rightBox_any (s : ByteArray) (w : World) (hT : Tabs w) :
    Calls Tryd.prog 14 #[.string s] w fun e w' => e = .returned (.bool (rightX s)) ∧ Below w.heap.size w w' := by
  by_cases h0 : s.size = 0
  · have HR : Hid (rightX s = false) := Lib.hid (by unfold rightX; rw [h0]; simp)
    have he := empty_nil s h0
    clear h0
    go_enter Tryd.func14, Tryd.ntmps14
    go_wp2
    go_ret
    exact ⟨ret_bool HR.out.symm, Below.refl _ _⟩
  · have he := empty_iff s h0
    by_cases h24 : 24 < s.size
    · have HR : Hid (rightX s = false) := Lib.hid (by unfold rightX; rw [decide_eq_false (show ¬ s.size ≤ 24 by omega)]; simp)
      clear h0
      go_enter Tryd.func14, Tryd.ntmps14
      go_wp2
      go_ret
      exact ⟨ret_bool HR.out.symm, Below.refl _ _⟩
    · have hR : rightX s = (decide ((quoteF s).2.2 = 0) && ((foldF s).toList == s.toList)) := by unfold rightX; rw [decide_eq_true (show s.size ≤ 24 by omega), decide_eq_true (show 1 ≤ s.size by omega)]; rfl
      have HF := Lib.hid (fold_any s w)
      have HQ := Lib.hid (fun W (hb : Below w.heap.size w W) => quote_any s W (hT.below hb (Nat.le_refl _)))
      have hbe : (s.toList == (foldF s).toList) = ((foldF s).toList == s.toList) := by rw [Bool.eq_iff_iff, beq_iff_eq, beq_iff_eq]; exact eq_comm
      generalize foldF s = F at *
      cases hf : (F.toList == s.toList) with
      | false =>
        rw [hf] at hbe hR
        have HR : Hid (rightX s = false) := Lib.hid (by rw [hR, Bool.and_false])
        clear hR hf h0
        go_enter Tryd.func14, Tryd.ntmps14
        go_wp2_with fail
        refine HF.out.mono ?_
        rintro e w1 ⟨rfl, hb⟩
        go_wp2
        go_ret
        exact ⟨ret_bool HR.out.symm, hb⟩
      | true =>
        rw [hf] at hbe hR
        have hR2 : rightX s = decide ((quoteF s).2.2 = 0) := by rw [hR, Bool.and_true]
        rw [hR2]
        clear hR hR2 hf h0
        generalize quoteF s = Q at *
        obtain ⟨q1, q2, q3⟩ := Q
        unfold res3 at HQ
        simp only at HQ ⊢
        have hq : ((q3 : Int) == 0) = decide (q3 = 0) := by rw [Bool.eq_iff_iff] <;> simp <;> omega
        go_enter Tryd.func14, Tryd.ntmps14
        go_wp2_with fail
        refine HF.out.mono ?_
        rintro e w1 ⟨rfl, hb⟩
        have HB := Lib.hid hb
        have HQ1 := Lib.hid (HQ.out w1 hb)
        clear hb HQ
        go_wp2_with fail
        refine HQ1.out.mono ?_
        rintro e w2 ⟨rfl, hb2⟩
        have HB2 := Lib.hid (HB.out.trans (hb2.mono HB.out.size))
        clear hb2
        go_wp2
        go_ret
        exact ⟨ret_bool (by first | exact hq | simp), HB2.out⟩
set_option maxHeartbeats 1000000 in
set_option maxRecDepth 100000 in
theorem refRightBox (s : ByteArray) (w : World) (hT : Tabs w) (hs : s.size ≤ 4398046511104) :
    Calls Tryd.prog 15 #[.string s] w fun e w' => e = .returned (.bool (rightX s)) ∧ Below w.heap.size w w' := by
  have HQ := Lib.hid (refQuote s w hT)
  have HF := Lib.hid (fun W => refFold s W (by omega))
  have hsp : s.size = 0 ∨ 24 < s.size ∨ (1 ≤ s.size ∧ s.size ≤ 24) := by omega
  have hX : rightX s = ((decide (1 ≤ s.size) && decide (s.size ≤ 24)) && (decide ((quoteF s).2.2 = 0) && ((foldF s).toList == s.toList))) := rfl
  rw [hX]
  clear hX
  generalize quoteF s = Q at *
  generalize foldF s = F at *
  obtain ⟨q1, q2, q3⟩ := Q
  unfold res3 at HQ
  simp only at HQ ⊢
  rcases hsp with h | h | ⟨h, h'⟩
  · have HR : Hid ((decide (1 ≤ s.size) && decide (s.size ≤ 24) && (decide (q3 = 0) && (F.toList == s.toList))) = false) := Lib.hid (by rw [decide_eq_false (show ¬ 1 ≤ s.size by omega)]; rfl)
    have h1 : ¬ (1 : Int) ≤ (s.size : Int) := by omega
    clear h
    go_enter Tryd.func15, Tryd.ntmps15
    go_wp2_with fail
    refine HQ.out.mono ?_
    rintro e w1 ⟨rfl, hb⟩
    go_wp2
    go_ret
    exact ⟨ret_bool HR.out.symm, hb⟩
  · have HR : Hid ((decide (1 ≤ s.size) && decide (s.size ≤ 24) && (decide (q3 = 0) && (F.toList == s.toList))) = false) := Lib.hid (by rw [decide_eq_false (show ¬ s.size ≤ 24 by omega)]; simp)
    have h1 : (1 : Int) ≤ (s.size : Int) := by omega
    have h2 : ¬ (s.size : Int) ≤ 24 := by omega
    clear h
    go_enter Tryd.func15, Tryd.ntmps15
    go_wp2_with fail
    refine HQ.out.mono ?_
    rintro e w1 ⟨rfl, hb⟩
    go_wp2
    go_ret
    exact ⟨ret_bool (by rw [HR.out] <;> simp <;> omega), hb⟩
  · have h1 : (1 : Int) ≤ (s.size : Int) := by omega
    have h2 : (s.size : Int) ≤ 24 := by omega
    rw [decide_eq_true h, decide_eq_true h', Bool.true_and, Bool.true_and]
    by_cases hq : q3 = 0
    · subst hq
      have HF1 := Lib.hid (fun W => HF.out W)
      clear h h'
      rw [decide_eq_true rfl, Bool.true_and]
      go_enter Tryd.func15, Tryd.ntmps15
      go_wp2_with fail
      refine HQ.out.mono ?_
      rintro e w1 ⟨rfl, hb⟩
      have HB := Lib.hid hb
      clear hb
      go_wp2_with fail
      refine (HF1.out w1).mono ?_
      rintro e w2 ⟨rfl, hb2⟩
      have HB2 := Lib.hid (HB.out.trans (hb2.mono HB.out.size))
      clear hb2
      go_wp2
      go_ret
      exact ⟨ret_bool (by first | rfl | simp), HB2.out⟩
    · have hq' : ((q3 : Int) == 0) = false := by rw [beq_eq_false_iff_ne]; omega
      rw [decide_eq_false hq, Bool.false_and]
      clear h h' hq
      go_enter Tryd.func15, Tryd.ntmps15
      go_wp2_with fail
      refine HQ.out.mono ?_
      rintro e w1 ⟨rfl, hb⟩
      go_wp2
      go_ret
      exact ⟨ret_bool (by simp), hb⟩
end Go.Proofs.YtjljbnilckkjnaaDoor
