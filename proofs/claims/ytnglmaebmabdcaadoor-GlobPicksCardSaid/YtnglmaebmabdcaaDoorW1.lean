import Derived.Test.YtnglmaebmabdcaaDoorRows
import Derived.Test.YtnglmaebmabdcaaDoorLet
import Derived.Test.YtnglmaebmabdcaaDoorKit
namespace Go.Proofs.YtnglmaebmabdcaaDoor
open Go.RowKit

def lowB (c : UInt8) : UInt8 := if 65 ≤ c.toNat ∧ c.toNat ≤ 90 then c + 32 else c
def low (l : List UInt8) : List UInt8 := l.map lowB
theorem low_length (l : List UInt8) : (low l).length = l.length := by simp [low]
theorem lowB_in (c : UInt8) (h : 65 ≤ c.toNat ∧ c.toNat ≤ 90) : ((lowB c).toNat : Int) = (c.toNat : Int) + 32 := by
  unfold lowB; rw [if_pos h, UInt8.toNat_add]; simp; omega
theorem lowB_out (c : UInt8) (h : ¬ (65 ≤ c.toNat ∧ c.toNat ≤ 90)) : lowB c = c := by unfold lowB; rw [if_neg h]
theorem low_snoc (s : ByteArray) (k : Nat) (h : k < s.size) : low (s.data.toList.take (k + 1)) = low (s.data.toList.take k) ++ [lowB s[k]] := by
  have : s.data.toList.take (k + 1) = s.data.toList.take k ++ [s[k]] := by
    rw [List.take_succ_eq_append_getElem (by simpa using h)]; rfl
  rw [this]; simp [low]
theorem ret_str {a b : List UInt8} (h : a = b) : Ending.returned (.string ⟨a.toArray⟩) = .returned (.string ⟨b.toArray⟩) := by rw [h]

set_option maxHeartbeats 400000 in
set_option maxRecDepth 100000 in
theorem refLower (s : ByteArray) (w : World) (hs : s.size ≤ 9223372036854775807) :
    Calls Tryd.prog 12 #[.string s] w fun e w' => e = .returned (.string ⟨(low s.data.toList).toArray⟩) ∧ Below w.heap.size w w' := by
  go_enter Tryd.func12, Tryd.ntmps12
  go_wp2
  go_loopw [3, 4, 5] (fun out i _c wr => ∃ k : Nat, k ≤ s.size ∧ i = .int .i64 k ∧ out = .string ⟨(low (s.data.toList.take k)).toArray⟩ ∧ Below w.heap.size w wr) (fun _ i _ _ => s.size - (intOf i).toNat)
  case atStart => exact ⟨0, Nat.zero_le _, rfl, rfl, Below.refl _ _⟩
  case round =>
    obtain ⟨k, hk, rfl, rfl, hb⟩ := hrel
    have hl : (low (s.data.toList.take k)).length ≤ k := by rw [low_length]; exact List.length_take_le _ _
    have hz := hb.size
    by_cases hlt : k < s.size
    · have hsn := low_snoc s k hlt
      by_cases hu : 65 ≤ s[k].toNat ∧ s[k].toNat ≤ 90
      · have hcv := run_one_byte (P := Tryd.prog) wr 35 9 5 Tryd.underlying35 Tryd.underlying5 Tryd.underlying9 (lowB s[k]) _ (lowB_in _ hu).symm
        have hadd := fun w1 => run_add_lists (P := Tryd.prog) w1 (low (s.data.toList.take k)) [lowB s[k]] (by simp; omega)
        have HS := Lib.hid hsn; clear hsn
        obtain ⟨h1, h2⟩ := hu
        go_wp2
        go_roundw
        case rel => exact ⟨k + 1, by omega, by go_num, by rw [HS.out], hb.alloc hz _⟩
        case measure => simp [intOf]; omega
      · have hcv := run_one_byte (P := Tryd.prog) wr 35 9 5 Tryd.underlying35 Tryd.underlying5 Tryd.underlying9 s[k] _ rfl
        have hadd := fun w1 => run_add_lists (P := Tryd.prog) w1 (low (s.data.toList.take k)) [s[k]] (by simp; omega)
        rw [lowB_out _ hu] at hsn
        have HS := Lib.hid hsn; clear hsn
        by_cases h1 : 65 ≤ s[k].toNat
        · have h2 : ¬ s[k].toNat ≤ 90 := fun h => hu ⟨h1, h⟩
          clear hu
          go_wp2
          go_roundw
          case rel => exact ⟨k + 1, by omega, by go_num, by rw [HS.out], hb.alloc hz _⟩
          case measure => simp [intOf]; omega
        · clear hu
          go_wp2
          go_roundw
          case rel => exact ⟨k + 1, by omega, by go_num, by rw [HS.out], hb.alloc hz _⟩
          case measure => simp [intOf]; omega
    · go_wp2
      go_ret
      exact ⟨ret_str (by rw [List.take_of_length_le (by simp; omega)]), hb⟩
end Go.Proofs.YtnglmaebmabdcaaDoor
