import Derived.Test.YtdohgmbchmcemaaDoorEnv
import Derived.Lib.CutLaws
import Derived.Lib.IndexBytes
import Derived.Deep.QuietTactic
import Derived.BigQuiet
import Derived.WalkSmall
import Derived.IntWalk
namespace Go.Proofs.YtdohgmbchmcemaaDoor
open Go.RowKit

theorem below_draws {B : Nat} {a w : World} (h : Below B a w) (n : Nat) : Below B a (w.drewN n) := h.trans ⟨rfl, rfl, rfl, Nat.le_refl _, fun _ _ => rfl⟩

def wordF (s : ByteArray) : List UInt8 × List UInt8 := ((Lib.cut s.data.toList [32]).1, (Lib.cut s.data.toList [32]).2.1)
def resW (x : List UInt8 × List UInt8) : Value := .tuple #[.string ⟨x.1.toArray⟩, .string ⟨x.2.toArray⟩]

theorem byte_first : ∀ (l : List UInt8) (c : UInt8) (i : Nat), l[i]? = some c → (∀ k, k < i → l[k]? ≠ some c) → Lib.indexByte l c = i
  | [], c, i, h, _ => by simp at h
  | b :: l, c, 0, h, _ => by
    simp at h; subst h
    unfold Lib.indexByte; simp
  | b :: l, c, i + 1, h, hn => by
    have hb : ¬ b = c := by have := hn 0 (by omega); simpa using this
    have ih := byte_first l c i (by simpa using h) (fun k hk => by have := hn (k + 1) (by omega); simpa using this)
    unfold Lib.indexByte
    rw [ih]
    have h1 : (b == c) = false := by simp [hb]
    have h2 : ((i : Int) == -1) = false := by rw [beq_eq_false_iff_ne]; omega
    rw [h1, h2]; simp
theorem byte_none : ∀ (l : List UInt8) (c : UInt8), (∀ k : Nat, l[k]? ≠ some c) → Lib.indexByte l c = -1
  | [], c, _ => rfl
  | b :: l, c, hn => by
    have hb : ¬ b = c := by have := hn 0; simpa using this
    have ih := byte_none l c (fun k => by have := hn (k + 1); simpa using this)
    unfold Lib.indexByte
    rw [ih]
    have h1 : (b == c) = false := by simp [hb]
    rw [h1]; rfl

set_option maxHeartbeats 400000 in
theorem word_any (s : ByteArray) (w : World) (hE : Env w) (hs : s.size < 4294967281) :
    Calls Tryd.prog 26 #[.string s] w fun e w' => e = .returned (resW (wordF s)) ∧ Below w.heap.size w w' := by
  obtain ⟨m, hm⟩ := hE.ml
  have hc := Tryd.strings_Cut s ⟨#[32]⟩ m w hs hm
  go_enter Tryd.func26, Tryd.ntmps26
  go_wp2_with (go_at_call 35; refine hc.mono ?_; rintro e w' ⟨rfl, n, rfl⟩)
  go_ret2
  exact ⟨rfl, below_draws (Below.refl _ _) n⟩

theorem ret_resW {x : List UInt8 × List UInt8} {a b : ByteArray} (h1 : a.data.toList = x.1) (h2 : b.data.toList = x.2) : Ending.returned (.tuple #[.string a, .string b]) = .returned (resW x) := by
  unfold resW
  rw [← h1, ← h2, Lib.mk_data, Lib.mk_data]

set_option maxHeartbeats 800000 in
theorem refWord (s : ByteArray) (w : World) (hs : s.size ≤ 9223372036854775807) :
    Calls Tryd.prog 27 #[.string s] w fun e w' => e = .returned (resW (wordF s)) ∧ Below w.heap.size w w' := by
  go_enter Tryd.func27, Tryd.ntmps27
  go_wp2
  go_loop [4] (fun iv => ∃ i : Nat, i ≤ s.size ∧ iv = .int .i64 i ∧ ∀ k, k < i → s.data.toList[k]? ≠ some 32) (fun iv => s.size - (intOf iv).toNat)
  case atStart => exact ⟨0, Nat.zero_le _, rfl, fun k hk => by omega⟩
  case round =>
    obtain ⟨i, hi, rfl, hno⟩ := hrel
    have HNO := Lib.hid hno
    clear hno
    by_cases hlt : i < s.size
    · have hat : s.data.toList[i]? = some s[i] := by
        rw [List.getElem?_eq_getElem (by rw [← Lib.size_eq]; exact hlt)]; rfl
      by_cases h32 : s[i].toNat = 32
      · have g1 : ((s[i].toNat : Int) != 32) = false := by rw [h32]; rfl
        have hne : ((i : Int) == (s.size : Int)) = false := by rw [beq_eq_false_iff_ne]; omega
        have hx : s[i] = 32 := UInt8.toNat_inj.1 (by rw [h32]; rfl)
        have hidx : Lib.index s.data.toList [32] = i := by
          rw [Lib.index_one]
          exact byte_first _ _ _ (by rw [hat, hx]) HNO.out
        have hw : wordF s = (s.data.toList.take i, s.data.toList.drop (i + 1)) := by
          unfold wordF Lib.cut
          rw [hidx, if_pos (by omega)]
          simp
        have hwr : IntKind.i64.wrap ((i : Int) + 1) = (i : Int) + 1 := IntWalk.i64_in _ (by omega)
        have HW := Lib.hid hw
        clear hx hidx hw hat h32
        have q1 : (0 : Int) ≤ (i : Int) + 1 := by omega
        have q2 : ((i : Int) + 1).toNat = i + 1 := by omega
        have q3 : i + 1 ≤ s.size := by omega
        go_wp2
        go_quiet (fail)
        go_wp2
        go_ret2
        refine ⟨ret_resW ?_ ?_, below_draws (Below.refl _ _) _⟩
        · rw [HW.out, Lib.extract_data, List.drop_zero, Nat.sub_zero]
        · rw [HW.out, Lib.extract_data]
          exact List.take_of_length_le (by rw [List.length_drop, ← Lib.size_eq]; omega)
      · have g1 : ((s[i].toNat : Int) != 32) = true := by rw [bne_iff_ne]; omega
        have hx : ¬ s[i] = 32 := fun h => h32 (by rw [h]; rfl)
        have HX := Lib.hid hx
        have HT := Lib.hid hat
        clear hx hat h32
        go_wp2
        go_round
        case rel =>
          refine ⟨i + 1, by omega, by go_num, fun k hk => ?_⟩
          rcases (by omega : k < i ∨ k = i) with h | h
          · exact HNO.out k h
          · subst h
            rw [HT.out]
            intro h
            exact HX.out (Option.some.inj h)
        case measure => simp [intOf]; omega
    · have hidx : Lib.index s.data.toList [32] = -1 := by
        rw [Lib.index_one]
        refine byte_none _ _ fun k => ?_
        rcases Nat.lt_or_ge k i with h | h
        · exact HNO.out k h
        · rw [List.getElem?_eq_none (by rw [← Lib.size_eq]; omega)]; simp
      have hw : wordF s = (s.data.toList, []) := by
        unfold wordF Lib.cut
        rw [hidx, if_neg (by omega)]
      have heq : ((i : Int) == (s.size : Int)) = true := by rw [beq_iff_eq]; omega
      have HW := Lib.hid hw
      clear hidx hw
      go_wp2
      go_ret2
      exact ⟨ret_resW (by rw [HW.out]) (by rw [HW.out]), Below.refl _ _⟩
end Go.Proofs.YtdohgmbchmcemaaDoor
