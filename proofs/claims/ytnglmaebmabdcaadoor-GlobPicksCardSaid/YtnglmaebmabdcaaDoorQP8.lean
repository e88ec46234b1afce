/- Glob: rising: slices.Sort and slices.Compact. -/
import Derived.Test.YtnglmaebmabdcaaDoorQP7
import Derived.Test.YtnglmaebmabdcaaDoorQS
import Derived.Sort.OwnSorted
namespace Go.Proofs.YtnglmaebmabdcaaDoor
open Go Go.RowKit Go.Sort

/-- A list of the program's own. -/
def HsV (B : Nat) (w : World) (v : Value) (L : List Gl.Nm) : Prop :=
  (v = .slice none 0 0 ∧ L = []) ∨ ∃ g c, v = .slice (some ⟨g, 0, none⟩) L.length c ∧ L.length ≤ c ∧ B ≤ g ∧ g < w.heap.size ∧ RowS w g L
theorem HsV.of {B : Nat} {w : World} {v : Value} {L : List Gl.Nm} (h : w.ownsRow B 9 1 v L.length ((L.map mkS).map Value.string)) : HsV B w v L := by
  rcases h.2 with ⟨rfl, h0⟩ | ⟨g, cap, cur, rfl, hb, hg, hc, h5, h6, h7⟩
  · exact .inl ⟨rfl, List.eq_nil_of_length_eq_zero h0⟩
  · refine .inr ⟨g, cap, rfl, hc, hb, (Array.getElem?_eq_some_iff.1 hg).1, fun k hk => ?_, fun k hk => frozen_of_row _ _ _ _ _ hg⟩
    have := World.ownsRow.cells h (g := g) rfl k (.string (mkS L[k])) (by rw [List.getElem?_map, List.getElem?_map, List.getElem?_eq_getElem hk]; rfl)
    rwa [addr_plus, Nat.zero_add] at this
theorem HsV.shape {B : Nat} {w : World} {v : Value} {L : List Gl.Nm} (h : HsV B w v L) : ∃ a c, v = .slice a L.length c := by
  rcases h with ⟨rfl, rfl⟩ | ⟨g, c, rfl, _⟩
  · exact ⟨none, 0, rfl⟩
  · exact ⟨_, _, rfl⟩
theorem RowS.holds {w : World} {g : Nat} {L : List Gl.Nm} (h : RowS w g L) : Holds encStr w g 0 L.toArray := by
  intro j hj
  have hj' : j < L.length := by simpa using hj
  rw [Nat.zero_add]
  refine ⟨?_, h.2 j hj'⟩
  rw [h.1 j hj']
  simp [hj', mkS]
theorem RowS.of_holds {w : World} {g : Nat} {L : List Gl.Nm} (h : Holds encStr w g 0 L.toArray) : RowS w g L := by
  refine ⟨fun k hk => ?_, fun k hk => ?_⟩
  · have := (h k (by simpa using hk)).1
    rw [Nat.zero_add] at this
    rw [this]
    simp [hk, mkS]
  · have := (h k (by simpa using hk)).2
    rwa [Nat.zero_add] at this
theorem below_grown' {B : Nat} {w w' : World} {g : Nat} (h : w.grownBy w' (some g)) (hg : B ≤ g) (hB : B ≤ w.heap.size) : Below B w w' :=
  ⟨h.os, h.tape, h.output, h.size, fun k hk => h.block k (by omega) (fun e => by injection e with e; omega)⟩

set_option maxHeartbeats 1000000 in
set_option maxRecDepth 100000 in
theorem rising_any (B : Nat) (v : Value) (L : List Gl.Nm) (w : World) (h : HsV B w v L) (hB : B ≤ w.heap.size) (hL : L.length ≤ 100000) :
    Calls Tryd.prog 33 #[v] w fun e w' => ∃ v', e = .returned v' ∧ Ltr w' v' ((Gl.rise L).map mkS) ∧ Below B w w' := by
  cases hL0 : L with
  | nil =>
    subst hL0
    obtain ⟨a, c, rfl⟩ := h.shape
    have hs := fun w => Tryd.slices_Sort_string_none a c w
    have hc := fun w => Tryd.slices_Compact_string_empty a c w
    have hr0 : Gl.rise [] = [] := List.eq_nil_of_length_eq_zero (Nat.le_zero.1 (rise_len []))
    rw [hr0]
    have hl : Ltr w (.slice a 0 c) (([] : List Gl.Nm).map mkS) := ⟨a, c, rfl, Nat.zero_le _, fun i hi => absurd hi (Nat.not_lt_zero _)⟩
    have HL := Lib.hid hl
    clear hl h
    go_enter Tryd.func33, Tryd.ntmps33
    go_wp2_with (first | (go_at_call 43; refine (hs _).mono ?_; rintro e w' ⟨rfl, rfl⟩) | (go_at_call 44; refine (hc _).mono ?_; rintro e w' ⟨rfl, rfl⟩))
    go_ret
    exact ⟨_, rfl, HL.out, (Below.refl _ _).mono hB⟩
  | cons x0 L0 =>
    rw [← hL0]
    rcases h with ⟨_, h0⟩ | ⟨g, c, rfl, hlc, hBg, hgl, hrow⟩
    · rw [h0] at hL0; cases hL0
    · have hso := Tryd.slices_Sort_string g 0 c L w hrow.holds hgl (by omega)
      obtain ⟨M, hM⟩ : ∃ M, (L.mergeSort fun x y => decide (x ≤ y)) = M := ⟨_, rfl⟩
      have hMl : M.length = L.length := by rw [← hM]; exact List.length_mergeSort _
      have HM := Lib.hid hM
      rw [hM] at hso
      have HROW := Lib.hid hrow
      have HGL := Lib.hid hgl
      clear hrow hL0 hM hgl
      go_enter Tryd.func33, Tryd.ntmps33
      go_wp2_with fail
      refine hso.mono ?_
      rintro e w1 ⟨rfl, n, os, hw1⟩
      have hgr : w.grownBy w1 (some g) := by rw [hw1]; exact grownBy_sorted _
      have hb1 : Below B w w1 := below_grown' hgr hBg hB
      have hH1 : Holds encStr w1 g 0 M.toArray := by
        rw [hw1]
        have h0 : Holds encStr (Sort.ahead w n) g 0 L.toArray := HROW.out.holds
        have h1 := holds_putRow encStr (Sort.ahead w n) g 0 L.toArray M.toArray h0 (by simpa using hMl)
        intro j hj
        have hlt : (⟨g, 0 + j, none⟩ : Addr).block < (putRow encStr (Sort.ahead w n) g 0 M.toArray).heap.size := by
          rw [size_putRow]; exact HGL.out
        rw [cell?_grow _ _ _ hlt, frozen?_grow _ _ _ hlt]
        exact h1 j hj
      have hco := Tryd.slices_Compact_string g 0 c M w1 hH1 (by omega) (by omega)
      rw [hMl] at hco
      have HB1 := Lib.hid hb1
      have HH1 := Lib.hid hH1
      clear hw1 hgr hb1 hH1 hso
      go_wp2_with fail
      refine hco.mono ?_
      rintro e w2 ⟨rfl, q, hw2⟩
      have HR : Hid (Lib.compact M = Gl.rise L) := Lib.hid (by rw [← HM.out]; rfl)
      have hle := Lib.compact_length_le M
      have hH2 : Holds encStr w2 g 0 (Lib.compact M ++ List.replicate (L.length - (Lib.compact M).length) []).toArray := by
        rw [hw2]
        exact holds_putRow encStr (Sort.ahead w1 q) g 0 M.toArray _ (fun j hj => HH1.out j hj) (by simp; omega)
      have hb2 : Below B w1 w2 := by
        rw [hw2]
        have hg1 := grownBy_sorted (w := w1) (g := g) (n := q) (os := #[]) (Lib.compact M ++ List.replicate (L.length - (Lib.compact M).length) []).toArray
        rw [grow_empty] at hg1
        exact below_grown' hg1 hBg (Nat.le_trans hB HB1.out.size)
      have hr2 := (RowS.of_holds hH2).take (Lib.compact M).length
      rw [List.take_left] at hr2
      have HL2 : Hid (Ltr w2 (.slice (some ⟨g, 0, none⟩) (Lib.compact M).length c) ((Gl.rise L).map mkS)) := Lib.hid (by
        rw [← HR.out]
        refine ⟨_, c, by rw [List.length_map], by rw [List.length_map]; omega, fun i hi => ⟨g, rfl, ?_, ?_⟩⟩
        · exact Nat.lt_of_lt_of_le HGL.out (Nat.le_trans HB1.out.size hb2.size)
        · rw [List.getElem_map]
          exact hr2.1 i (by simpa using hi))
      have HB2 := Lib.hid (HB1.out.trans hb2)
      clear hw2 hH2 hb2 hr2 hco
      go_wp2
      go_ret
      exact ⟨_, rfl, HL2.out, HB2.out⟩
end Go.Proofs.YtnglmaebmabdcaaDoor
