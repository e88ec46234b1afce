import Derived.Test.YtmolifgjghbfaaaDoorW4
namespace Go.Proofs.YtmolifgjghbfaaaDoor
open Go.RowKit

theorem empty_iff (s : ByteArray) (h : s.size ≠ 0) : s.toList.isEmpty = false := by
  rw [Lib.toList_data]
  cases h1 : s.data.toList with
  | nil => exact absurd (by rw [Lib.size_eq, h1]; rfl) h
  | cons _ _ => rfl
theorem empty_nil (s : ByteArray) (h : s.size = 0) : s.toList.isEmpty = true := by
  rw [Lib.toList_data]
  have : s.data.toList = [] := List.eq_nil_of_length_eq_zero (by rw [← Lib.size_eq]; exact h)
  rw [this]; rfl

def res2 (x : List UInt8 × Nat) : Value := .tuple #[.string ⟨x.1.toArray⟩, .int .i64 x.2]
end Go.Proofs.YtmolifgjghbfaaaDoor
