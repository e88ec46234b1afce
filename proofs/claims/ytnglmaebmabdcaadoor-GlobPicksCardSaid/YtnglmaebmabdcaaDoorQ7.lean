/- Glob: a name's steps, the code's and the document's. -/
import Derived.Test.YtnglmaebmabdcaaDoorQ6
import Derived.Lib.IndexLaws
namespace Go.Proofs.YtnglmaebmabdcaaDoor
open Go Go.RowKit

/-- What stands between the signs /, behind what is held. -/
def segs : List UInt8 → List UInt8 → List (List UInt8)
  | acc, [] => [acc]
  | acc, c :: r => if c = 47 then acc :: segs [] r else segs (acc ++ [c]) r
theorem segs_flat : ∀ (l acc : List UInt8), (∀ c, c ∈ l → c ≠ 47) → segs acc l = [acc ++ l]
  | [], acc, _ => by simp [segs]
  | c :: r, acc, h => by
    rw [segs, if_neg (h c (by simp)), segs_flat r _ fun x hx => h x (by simp [hx])]
    simp
theorem segs_cut : ∀ (l acc r : List UInt8), (∀ c, c ∈ l → c ≠ 47) → segs acc (l ++ 47 :: r) = (acc ++ l) :: segs [] r
  | [], acc, r, _ => by simp [segs]
  | c :: l, acc, r, h => by
    show segs acc (c :: (l ++ 47 :: r)) = _
    rw [segs, if_neg (h c (by simp)), segs_cut l _ r fun x hx => h x (by simp [hx])]
    simp
def mkS (l : List UInt8) : ByteArray := ⟨l.toArray⟩
theorem mkS_data (s : ByteArray) : mkS s.data.toList = s := str_ext rfl
/-- A name's steps. -/
def stepsS (s : ByteArray) : List ByteArray := if s.size = 0 then [] else (segs [] s.data.toList).map mkS

theorem index_one (l : List UInt8) (c : UInt8) : Lib.index l [c] = Lib.indexByte l c := by
  induction l with
  | nil => rfl
  | cons b l ih =>
    unfold Lib.index Lib.indexByte
    rw [ih]
    have : ([c] : List UInt8).isPrefixOf (b :: l) = (b == c) := by
      simp only [List.isPrefixOf, Bool.and_true]
      rw [Bool.eq_iff_iff, beq_iff_eq, beq_iff_eq]
      exact eq_comm
    rw [this]
theorem split_segs (n : Nat) : ∀ s : ByteArray, s.size ≤ n → Lib.splitB ⟨#[47]⟩ 0 (Lib.countB s ⟨#[47]⟩) s = (segs [] s.data.toList).map mkS := by
  induction n with
  | zero =>
    intro s hs
    have hnil : s.data.toList = [] := List.eq_nil_of_length_eq_zero (by rw [← Lib.size_eq]; omega)
    have hi : Lib.indexB s ⟨#[47]⟩ = -1 := by
      show Lib.index s.data.toList [47] = -1
      rw [hnil]; rfl
    rw [Lib.splitB_miss _ _ _ _ hi, hnil]
    simp only [segs, List.map_cons, List.map_nil]
    rw [← hnil, mkS_data]
  | succ n ih =>
    intro s hs
    rcases Lib.indexB_cases s ⟨#[47]⟩ with hi | ⟨i, hi, hle⟩
    · rw [Lib.splitB_miss _ _ _ _ hi]
      have hb : Lib.indexByte s.data.toList 47 = -1 := by rw [← index_one]; exact hi
      have hno := Lib.indexByte_none hb
      rw [segs_flat _ _ fun c hc h => by
        obtain ⟨k, hk⟩ := List.mem_iff_getElem?.1 hc
        exact hno k (by rw [hk, h])]
      simp [mkS_data]
    · have hb : Lib.indexByte s.data.toList 47 = (i : Int) := by rw [← index_one]; exact hi
      obtain ⟨h1, h2⟩ := Lib.indexByte_some hb
      have hle' : i + 1 ≤ s.size := hle
      rw [Lib.countB_hit s _ i (by decide) hi, Nat.add_comm, Lib.splitB_hit _ _ _ _ _ hi]
      have hlt : i < s.data.toList.length := by rw [← Lib.size_eq]; omega
      have hd : s.data.toList = s.data.toList.take i ++ 47 :: s.data.toList.drop (i + 1) := by
        rw [List.getElem?_eq_getElem hlt] at h1
        rw [← Option.some.inj h1, ← List.drop_eq_getElem_cons hlt, List.take_append_drop]
      have hx : (s.extract (i + 1) s.size).size ≤ n := by rw [Lib.size_eq, Lib.extract_to_end, List.length_drop, ← Lib.size_eq]; omega
      have hseg : segs [] s.data.toList = s.data.toList.take i :: segs [] (s.data.toList.drop (i + 1)) := by
        conv => lhs; rw [hd]
        rw [segs_cut _ _ _ fun c hc h => by
          obtain ⟨k, hk⟩ := List.mem_iff_getElem?.1 hc
          rw [List.getElem?_take] at hk
          split at hk
          · rename_i hki
            exact h2 k hki (by rw [hk, h])
          · cases hk]
        rfl
      rw [hseg, List.map_cons]
      have e1 := ih _ hx
      rw [Lib.extract_to_end] at e1
      rw [← e1]
      congr 1
      rw [Nat.add_zero]
      exact take_str s i

def Ml (w : World) : Prop := ∃ m, w.cell? ⟨0, 0, none⟩ = some (.int .i64 m)
theorem Ml.below {w w' : World} (h : Ml w) (hb : Below w.heap.size w w') : Ml w' := by
  obtain ⟨m, hm⟩ := h
  exact ⟨m, (hb.cell (World.block_lt_of_cell? w _ hm)).trans hm⟩

set_option maxHeartbeats 1000000 in
set_option maxRecDepth 100000 in
theorem steps_any (s : ByteArray) (w : World) (hs : s.size ≤ 1000) (hM : Ml w) :
    Calls Tryd.prog 14 #[.string s] w fun e w' => ∃ v, e = .returned v ∧ Ltr w' v (stepsS s) ∧ Below w.heap.size w w' := by
  obtain ⟨m, hm⟩ := hM
  have hsp := Tryd.strings_Split s ⟨#[47]⟩ m w (by omega) hm (by decide)
  unfold stepsS
  go_enter Tryd.func14, Tryd.ntmps14
  by_cases h0 : s.size = 0
  · have hnil := isEmpty_eq s h0
    have hnil2 := toList_nil s h0
    rw [if_pos h0]
    go_wp2
    go_ret
    exact ⟨_, rfl, Ltr.nil w, Below.refl _ _⟩
  · have hne := isEmpty_ne s h0
    rw [if_neg h0]
    have hl := Lib.splitB_all ⟨#[47]⟩ (by decide) 0 _ s rfl
    rw [split_segs _ s (Nat.le_refl _)] at hsp hl
    generalize (segs [] s.data.toList).map mkS = L at *
    rw [← hl] at hsp
    clear hl h0
    go_wp2_with (first | (go_at_call 30; refine hsp.mono ?_; rintro e w1 ⟨rfl, rfl⟩))
    go_ret
    exact ⟨_, rfl, Ltr.new w L _ _ (Nat.le_refl _), (Below.refl _ w).alloc (Nat.le_refl _) _⟩
end Go.Proofs.YtnglmaebmabdcaaDoor
