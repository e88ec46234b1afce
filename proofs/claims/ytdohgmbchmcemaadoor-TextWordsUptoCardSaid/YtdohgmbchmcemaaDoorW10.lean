import Derived.Test.YtdohgmbchmcemaaDoorW9
import Derived.Lib.ItoaLen
namespace Go.Proofs.YtdohgmbchmcemaaDoor
open Go.RowKit

theorem dec_small (n : Nat) (h : n < 10) : Lib.decDigits n = [UInt8.ofNat (48 + n)] := Lib.decDigits_one h
theorem dec_big (n : Nat) (h : ¬ n < 10) : Lib.decDigits n = Lib.decDigits (n / 10) ++ [UInt8.ofNat (48 + n % 10)] := by
  rw [Lib.decDigits, dif_neg h]
theorem dec_len (n : Nat) (h : n ≤ 4294967295) : (Lib.decDigits n).length ≤ 21 := by
  have := Lib.itoa_length_le (n : Int) (by omega) (by omega)
  unfold Lib.itoa at this
  rw [if_neg (by omega)] at this
  simpa using this
theorem dig_byte (d : Nat) (h : d < 10) : ((UInt8.ofNat (48 + d)).toNat : Int) = 48 + (d : Int) := by
  simp; omega

set_option maxHeartbeats 800000 in
theorem refNumberText (n : Int) (w : World) :
    Calls Tryd.prog 19 #[.int .i64 n] w fun e w' => e = .returned (res2 (ntF n)) ∧ Below w.heap.size w w' := by
  unfold ntF
  by_cases h1 : n < 0
  · rw [if_pos (Or.inl h1)]
    go_enter Tryd.func19, Tryd.ntmps19
    go_wp2
    go_ret2
    exact ⟨rfl, Below.refl _ _⟩
  by_cases h2 : 4294967295 < n
  · rw [if_pos (Or.inr h2)]
    go_enter Tryd.func19, Tryd.ntmps19
    go_wp2
    go_ret2
    exact ⟨rfl, Below.refl _ _⟩
  rw [if_neg (by omega)]
  obtain ⟨m, rfl⟩ : ∃ m : Nat, n = (m : Int) := ⟨n.toNat, by omega⟩
  have hi : Lib.itoa (m : Int) = Lib.decDigits m := by unfold Lib.itoa; rw [if_neg (by omega)]; rfl
  have HI := Lib.hid hi
  have hdl := dec_len m (by omega)
  rw [hi]
  generalize hD : Lib.decDigits m = D at *
  have HD := Lib.hid hD
  clear hi hD
  go_enter Tryd.func19, Tryd.ntmps19
  go_wp2
  go_loopw [0, 4] (fun nv ov wr => ∃ (k : Nat) (acc : List UInt8), nv = .int .i64 k ∧ k ≤ 4294967295 ∧ ov = .string ⟨acc.toArray⟩ ∧ Below w.heap.size w wr ∧ Lib.decDigits k ++ acc = D ∧ acc.length ≤ 21) (fun nv _ _ => (intOf nv).toNat)
  case atStart => exact ⟨m, [], rfl, by omega, rfl, Below.refl _ _, by rw [List.append_nil]; exact HD.out, by simp⟩
  case round =>
    obtain ⟨k, acc, rfl, hk, rfl, hb, hacc, hal⟩ := hrel
    have hz := hb.size
    have hlen := congrArg List.length hacc
    rw [List.length_append] at hlen
    by_cases h9 : 9 < k
    · rw [dec_big k (by omega), List.append_assoc] at hacc
      have hdb := dig_byte (k % 10) (by omega)
      generalize UInt8.ofNat (48 + k % 10) = db at *
      have hcv := run_one_byte (P := Tryd.prog) wr 25 9 5 Tryd.underlying25 Tryd.underlying5 Tryd.underlying9 db (48 + (k : Int) % 10) (by rw [hdb]; omega)
      have hadd := fun w1 => run_add_lists (P := Tryd.prog) w1 [db] acc (by simp; omega)
      have hl2 := congrArg List.length hacc
      rw [List.length_append, List.length_append] at hl2
      simp only [List.length_cons, List.length_nil] at hl2
      have HA := Lib.hid hacc
      clear hacc hdb hlen
      go_wp2
      go_roundw
      case rel => exact ⟨k / 10, _, by congr 1, by omega, rfl, hb.alloc hz _, HA.out, by simp; omega⟩
      case measure => simp [intOf]; omega
    · rw [dec_small k (by omega)] at hacc
      have hdb := dig_byte k (by omega)
      generalize UInt8.ofNat (48 + k) = db at *
      have hcv := run_one_byte (P := Tryd.prog) wr 25 9 5 Tryd.underlying25 Tryd.underlying5 Tryd.underlying9 db (48 + (k : Int)) (by rw [hdb])
      have hadd := fun w1 => run_add_lists (P := Tryd.prog) w1 [db] acc (by simp; omega)
      have HA := Lib.hid hacc
      clear hacc hdb hlen
      go_wp2
      go_ret2
      refine ⟨?_, hb.alloc hz _⟩
      rw [← HA.out]; rfl
end Go.Proofs.YtdohgmbchmcemaaDoor
