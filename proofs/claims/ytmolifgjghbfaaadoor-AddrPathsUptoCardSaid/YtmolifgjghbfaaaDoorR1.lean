/- The reference's one: is a letter a single one of some, or of a to z, A to Z, 0 to 9? -/
import Derived.Test.YtmolifgjghbfaaaDoorC10
import Derived.Test.YtmolifgjghbfaaaDoorA12
namespace Go.Proofs.YtmolifgjghbfaaaDoor
open Go.RowKit

def anyFrom (sm : ByteArray) (k c : Nat) : Bool := (sm.data.toList.drop k).any fun b => decide (b.toNat = c)
theorem anyFrom_step (sm : ByteArray) (k c : Nat) (h : k < sm.size) : anyFrom sm k c = (decide ((sm[k]'h).toNat = c) || anyFrom sm (k + 1) c) := by
  unfold anyFrom
  rw [list_at sm k h, List.any_cons]
theorem anyFrom_end (sm : ByteArray) (k c : Nat) (h : sm.size ≤ k) : anyFrom sm k c = false := by
  unfold anyFrom
  rw [List.drop_eq_nil_of_le (by rw [← Lib.size_eq]; exact h)]; rfl

set_option maxHeartbeats 2000000 in
set_option maxRecDepth 100000 in
theorem refOne_go (t sm : ByteArray) (w : World) (hz : sm.size ≤ 1000) (h1 : t.size = 1) (c : Nat) (hc : (t.get! 0).toNat = c) :
    Calls Tryd.prog 22 #[.string t, .string sm] w fun e w' => e = .returned (.bool (alnumR c || anyFrom sm 0 c)) ∧ w = w' := by
  have h0 : 0 < t.size := by omega
  rw [get_lt t 0 h0] at hc
  have hn : ((t.size : Int) != 1) = false := by rw [h1]; rfl
  have hc2 : ((t[0]'h0).toNat : Int) = (c : Int) := by rw [hc]
  have HC := Lib.hid hc
  clear hc h1
  cases hal : alnumR c with
  | true =>
    rw [Bool.true_or]
    unfold alnumR at hal
    by_cases a1 : 48 ≤ c ∧ c ≤ 57
    · obtain ⟨a1, a2⟩ := a1
      clear hal
      go_enter Tryd.func22, Tryd.ntmps22
      go_wp2
      go_ret
      exact ⟨rfl, rfl⟩
    by_cases a3 : 65 ≤ c ∧ c ≤ 90
    · obtain ⟨a3, a4⟩ := a3
      have a5 : ¬ c ≤ 57 := by omega
      clear hal a1
      go_enter Tryd.func22, Tryd.ntmps22
      go_wp2
      go_ret
      exact ⟨rfl, rfl⟩
    · have a6 : 97 ≤ c := by simp at hal; omega
      have a7 : c ≤ 122 := by simp at hal; omega
      have a8 : ¬ c ≤ 90 := by omega
      have a5 : ¬ c ≤ 57 := by omega
      clear hal a1 a3
      go_enter Tryd.func22, Tryd.ntmps22
      go_wp2
      go_ret
      exact ⟨rfl, rfl⟩
  | false =>
    rw [Bool.false_or]
    generalize hF : anyFrom sm 0 c = F
    have HF := Lib.hid hF
    have hb : c < 256 := by have := (t[0]'h0).toNat_lt; omega
    clear hF
    unfold alnumR at hal
    have hcase : c < 48 ∨ (57 < c ∧ c < 65) ∨ (90 < c ∧ c < 97) ∨ 122 < c := by simp at hal; omega
    clear hal
    rcases hcase with h | ⟨h, h'⟩ | ⟨h, h'⟩ | h
    all_goals
      go_enter Tryd.func22, Tryd.ntmps22
      go_wp2
      go_loop [6] (fun iv => ∃ k : Nat, k ≤ sm.size ∧ iv = .int .i64 k ∧ anyFrom sm k c = F) (fun iv => sm.size - (intOf iv).toNat)
      case atStart => exact ⟨0, Nat.zero_le _, rfl, HF.out⟩
      case round =>
        obtain ⟨k, hk, rfl, hgo⟩ := hrel
        by_cases hlt : k < sm.size
        · rw [anyFrom_step sm k c hlt] at hgo
          by_cases he : (sm[k]'hlt).toNat = c
          · rw [decide_eq_true he, Bool.true_or] at hgo
            have b1 : (((sm[k]'hlt).toNat : Int) == (c : Int)) = true := by rw [beq_iff_eq]; omega
            have HG := Lib.hid hgo
            clear hgo he
            go_wp2
            go_ret
            exact ⟨ret_b HG.out, rfl⟩
          · rw [decide_eq_false he, Bool.false_or] at hgo
            have b1 : (((sm[k]'hlt).toNat : Int) == (c : Int)) = false := by rw [beq_eq_false_iff_ne]; omega
            have HG := Lib.hid hgo
            clear hgo he
            go_wp2
            go_round
            case rel => exact ⟨k + 1, by omega, by go_num, HG.out⟩
            case measure => simp [intOf]; omega
        · rw [anyFrom_end sm k c (by omega)] at hgo
          have HG := Lib.hid hgo
          clear hgo
          go_wp2
          go_ret
          exact ⟨ret_b HG.out, rfl⟩

set_option maxHeartbeats 400000 in
theorem refOne_not (t sm : ByteArray) (w : World) (h1 : t.size ≠ 1) :
    Calls Tryd.prog 22 #[.string t, .string sm] w fun e w' => e = .returned (.bool false) ∧ w = w' := by
  have hn : ((t.size : Int) != 1) = true := by rw [bne_iff_ne]; omega
  clear h1
  go_enter Tryd.func22, Tryd.ntmps22
  go_wp2
  go_ret
  exact ⟨rfl, rfl⟩
end Go.Proofs.YtmolifgjghbfaaaDoor
