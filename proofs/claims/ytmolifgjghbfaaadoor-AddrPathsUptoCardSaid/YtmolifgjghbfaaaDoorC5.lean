/- The code's parts of an address: tooLong, parted. -/
import Derived.Test.YtmolifgjghbfaaaDoorC4
import Derived.Test.YtmolifgjghbfaaaDoorP2
import Derived.Deep.RegionWith
import Derived.Lib.LastIndexByte
namespace Go.Proofs.YtmolifgjghbfaaaDoor
open Go.RowKit

set_option maxHeartbeats 400000 in
theorem tooLong_any (x d : ByteArray) (w : World) :
    Calls Tryd.prog 26 #[.agg #[.string x, .string d]] w fun e w' => e = .returned (.bool (decide (64 < x.size ∨ 255 < d.size))) ∧ Below w.heap.size w w' := by
  by_cases h1 : 64 < x.size
  · rw [decide_eq_true (Or.inl h1)]
    go_enter Tryd.func26, Tryd.ntmps26
    go_wp2
    go_ret
    exact ⟨ret_b (by simp), (Below.refl _ _).alloc (Nat.le_refl _) _⟩
  · by_cases h2 : 255 < d.size
    · rw [decide_eq_true (Or.inr h2)]
      go_enter Tryd.func26, Tryd.ntmps26
      go_wp2
      go_ret
      exact ⟨ret_b (by simp; omega), (Below.refl _ _).alloc (Nat.le_refl _) _⟩
    · rw [decide_eq_false (by omega)]
      go_enter Tryd.func26, Tryd.ntmps26
      go_wp2
      go_ret
      exact ⟨ret_b (by simp; omega), (Below.refl _ _).alloc (Nat.le_refl _) _⟩

/-- The last @ of a text is the one behind which there is none. -/
theorem last_at (s : ByteArray) (a d : List UInt8) (h : s.data.toList = a ++ 64 :: d) (h64 : (64 : UInt8) ∉ d) : Lib.lastIndexByte s 64 = a.length ∧ s.extract 0 a.length = ⟨a.toArray⟩ ∧ s.extract (a.length + 1) s.size = ⟨d.toArray⟩ ∧ s.size = a.length + 1 + d.length := by
  have hz : s.size = a.length + 1 + d.length := by rw [Lib.size_eq, h]; simp; omega
  have hg : ∀ j, j < s.size → s.data[j]! = (a ++ 64 :: d)[j]! := by
    intro j hj
    rw [← h, getElem!_pos s.data j hj, getElem!_pos s.data.toList j (by rw [← Lib.size_eq]; exact hj)]; rfl
  refine ⟨?_, ?_, ?_, hz⟩
  · rcases Lib.lastIndexByte_spec s 64 with ⟨_, hn⟩ | ⟨i, hi, he, hc, hn⟩
    · exfalso
      refine hn a.length (by omega) ?_
      rw [hg _ (by omega)]; simp
    · rw [he]
      congr 1
      rcases Nat.lt_trichotomy i a.length with hlt | heq | hgt
      · exfalso
        refine hn a.length hlt (by omega) ?_
        rw [hg _ (by omega)]; simp
      · exact heq
      · exfalso
        rw [hg _ hi] at hc
        have hi' : i < (a ++ 64 :: d).length := by rw [← h, ← Lib.size_eq]; exact hi
        rw [getElem!_pos _ i hi', List.getElem_append_right (by omega)] at hc
        have hii : i - a.length = (i - a.length - 1) + 1 := by omega
        have : (64 :: d)[i - a.length]'(by simp; simp at hi'; omega) ∈ d := by
          rw [List.getElem_cons, dif_neg (by omega)]
          exact List.getElem_mem _
        have h2 : (64 :: d)[i - a.length]'(by simp; simp at hi'; omega) = 64 := UInt8.toNat_inj.1 (by show _ = 64; omega)
        rw [h2] at this
        exact h64 this
  · rw [Lib.extract_eq, h]; simp
  · rw [Lib.extract_eq, h, hz]
    congr 2
    rw [show a ++ 64 :: d = (a ++ [64]) ++ d by simp, List.drop_append]
    simp
end Go.Proofs.YtmolifgjghbfaaaDoor
