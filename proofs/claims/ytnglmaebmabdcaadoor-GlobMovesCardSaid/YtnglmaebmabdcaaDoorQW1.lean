/- Glob: the laws GlobMatches, GlobSteps and GlobMoves, walked. -/
import Derived.Test.YtnglmaebmabdcaaDoorQ9
namespace Go.Proofs.YtnglmaebmabdcaaDoor
open Go Go.RowKit

set_option maxHeartbeats 1000000 in
set_option maxRecDepth 100000 in
theorem walk_matches (P0 N0 : ByteArray) (w : World) (hM : Ml w) : Calls Tryd.prog 3 #[.string P0, .string N0] w fun e w' => e = .returned (.bool true) ∧ Below w.heap.size w w' := by
  have hp := short_any P0
  have hn := short_any N0
  have hP := shortS_le P0
  have hN := shortS_le N0
  generalize shortS P0 = P at *
  generalize shortS N0 = N at *
  have hl := live_true w hM
  go_enter Tryd.func3, Tryd.ntmps3
  go_wp2_with (first
    | (go_at_call 8; first | (with_reducible refine (hp _).mono ?_; rintro e w' ⟨rfl, rfl⟩) | (with_reducible refine (hn _).mono ?_; rintro e w' ⟨rfl, rfl⟩))
    | (go_at_call 9; refine hl.mono ?_; rintro e w1 ⟨rfl, hb1⟩)
    | (go_at_call 10; refine (Match_any P N _ (by omega) (by omega)).mono ?_; rintro e w2 ⟨rfl, hb2⟩)
    | (go_at_call 11; refine (refMatch P N _ (by omega) (by omega)).mono ?_; rintro e w3 ⟨rfl, hb3⟩))
  go_ret
  exact ⟨ret_bool (by simp), (hb1.trans (hb2.mono hb1.size)).trans (hb3.mono (Nat.le_trans hb1.size hb2.size))⟩

set_option maxHeartbeats 1000000 in
set_option maxRecDepth 100000 in
theorem walk_steps (P0 N0 : ByteArray) (w : World) (hM : Ml w) : Calls Tryd.prog 5 #[.string P0, .string N0] w fun e w' => e = .returned (.bool true) ∧ Below w.heap.size w w' := by
  have hp := short_any P0
  have hn := short_any N0
  have hP := shortS_le P0
  have hN := shortS_le N0
  generalize shortS P0 = P at *
  generalize shortS N0 = N at *
  have hl := live_true w hM
  go_enter Tryd.func5, Tryd.ntmps5
  go_wp2_with (first
    | (go_at_call 8; first | (with_reducible refine (hp _).mono ?_; rintro e w' ⟨rfl, rfl⟩) | (with_reducible refine (hn _).mono ?_; rintro e w' ⟨rfl, rfl⟩))
    | (go_at_call 9; refine hl.mono ?_; rintro e w1 ⟨rfl, hb1⟩))
  have hM1 := hM.below hb1
  refine (steps_any P w1 (by omega) hM1).mono ?_
  rintro e w2 ⟨v, rfl, hl2, hb2⟩
  go_wp2_with fail
  refine (refSteps P w2 (by omega)).mono ?_
  rintro e w3 ⟨v', rfl, hl3, hb3⟩
  have hl2' := hl2.below hb3
  have hlen : (stepsS P).length ≤ 1000000 := by
    unfold stepsS
    split
    · simp
    · rw [List.length_map]
      have : ∀ (l acc : List UInt8), (segs acc l).length ≤ l.length + 1 := by
        intro l
        induction l with
        | nil => intro acc; simp [segs]
        | cons c r ih =>
          intro acc
          rw [segs]
          split
          · have := ih []; simp; omega
          · have := ih (acc ++ [c]); simp; omega
      have h1 := this P.data.toList []
      rw [← Lib.size_eq] at h1
      omega
  have hsm := Same_any _ _ _ _ w3 hl2' hl3 hlen
  rw [decide_eq_true rfl] at hsm
  obtain ⟨a, c, rfl, _⟩ := hl2.shape
  obtain ⟨a', c', rfl, _⟩ := hl3.shape
  have HB := Lib.hid ((hb1.trans (hb2.mono hb1.size)).trans (hb3.mono (Nat.le_trans hb1.size hb2.size)))
  clear hl2 hl2' hl3 hb1 hb2 hb3 hM1 hlen
  go_wp2_with (first
    | (go_at_call 13; refine hsm.mono ?_; rintro e w6 ⟨rfl, hb6⟩)
    | (go_at_call 16; refine (under_any P N _ (by omega) (by omega)).mono ?_; rintro e w7 ⟨rfl, rfl⟩)
    | (go_at_call 17; refine (refUnder P N _ (by omega) (by omega)).mono ?_; rintro e w8 ⟨rfl, rfl⟩))
  go_ret
  exact ⟨ret_bool (by simp), HB.out.trans (hb6.mono HB.out.size)⟩

theorem mov_yes {s f t : ByteArray} {e : Ending} (h : MovR s f t e) (hy : s = f ∨ underL s.data.toList f.data.toList = true) : e = .returned (.tuple #[.string (t ++ s.extract f.size s.size), .bool true]) := by
  have h2 := MovR.yes (t := t) hy
  unfold MovR at h h2
  rw [h, ← h2]
theorem mov_no {s f t : ByteArray} {e : Ending} (h : MovR s f t e) (h1 : s ≠ f) (h2 : underL s.data.toList f.data.toList = false) : e = .returned (.tuple #[.string ⟨#[]⟩, .bool false]) := by
  have h2 := MovR.no (t := t) h1 h2
  unfold MovR at h h2
  rw [h, ← h2]
theorem str_cat (a b : ByteArray) : (a ++ b).data.toList = a.data.toList ++ b.data.toList := by rw [ByteArray.data_append, Array.toList_append]
theorem under_cut {s f : ByteArray} (h : underL s.data.toList f.data.toList = true) : ∃ r : List UInt8, s.data.toList = f.data.toList ++ 47 :: r ∧ (s.extract f.size s.size).data.toList = 47 :: r := by
  obtain ⟨h1, h2, h3, h4⟩ := (underL_ref _ _).1 h
  have hd : s.data.toList.drop f.data.toList.length = 47 :: s.data.toList.drop (f.data.toList.length + 1) := by
    rw [List.getElem?_eq_getElem h2] at h4
    rw [List.drop_eq_getElem_cons h2, Option.some.inj h4]
  refine ⟨s.data.toList.drop (f.data.toList.length + 1), ?_, ?_⟩
  · rw [← hd]
    conv => lhs; rw [← List.take_append_drop f.data.toList.length s.data.toList, h3]
  · rw [Lib.extract_to_end, Lib.size_eq f, hd]
theorem under_put {t x : ByteArray} {r : List UInt8} (h0 : t.size ≠ 0) (hx : x.data.toList = t.data.toList ++ 47 :: r) : underL x.data.toList t.data.toList = true ∧ x.extract t.size x.size = mkS (47 :: r) := by
  rw [Lib.size_eq] at h0
  constructor
  · rw [underL_some h0, hx]
    unfold Lib.hasPrefix
    rw [List.isPrefixOf_iff_prefix]
    exact ⟨r, by simp⟩
  · refine str_ext ?_
    rw [Lib.extract_to_end, hx, Lib.size_eq t, List.drop_left]
    rfl

set_option maxHeartbeats 2000000 in
set_option maxRecDepth 100000 in
theorem walk_moves (S0 F0 T0 : ByteArray) (w : World) (hM : Ml w) : Calls Tryd.prog 6 #[.string S0, .string F0, .string T0] w fun e w' => e = .returned (.bool true) ∧ Below w.heap.size w w' := by
  have hs := short_any S0
  have hf := short_any F0
  have ht := short_any T0
  have hS := shortS_le S0
  have hF := shortS_le F0
  have hT := shortS_le T0
  generalize shortS S0 = s at *
  generalize shortS F0 = f at *
  generalize shortS T0 = t at *
  have hl := live_true w hM
  clear hM
  have hm1 := fun w => moved_any s f t w (by omega) (by omega) (by omega)
  have hm2 := fun w => refMoved s f t w (by omega) (by omega) (by omega)
  by_cases hy : s = f ∨ underL s.data.toList f.data.toList = true
  · obtain ⟨A, hA⟩ : ∃ A, t ++ s.extract f.size s.size = A := ⟨_, rfl⟩
    have hm1' : ∀ w, Calls Tryd.prog 18 #[.string s, .string f, .string t] w fun e w' => e = .returned (.tuple #[.string A, .bool true]) ∧ w' = w := fun w => (hm1 w).mono fun e w' h => ⟨by rw [mov_yes h.1 hy, hA], h.2⟩
    have hm2' : ∀ w, Calls Tryd.prog 19 #[.string s, .string f, .string t] w fun e w' => e = .returned (.tuple #[.string A, .bool true]) ∧ w' = w := fun w => (hm2 w).mono fun e w' h => ⟨by rw [mov_yes h.1 hy, hA], h.2⟩
    clear hm1 hm2
    have hAs : A.size ≤ 1000 := by rw [← hA, Lib.size_eq, str_cat, List.length_append, ← Lib.size_eq, Lib.extract_to_end, List.length_drop, ← Lib.size_eq]; omega
    have hAA : (A.toList == A.toList) = true := by simp
    have hm3 := fun w => moved_any A t f w hAs (by omega) (by omega)
    have hback : (s = f ∨ t.size ≠ 0) → (A = t ∨ underL A.data.toList t.data.toList = true) ∧ f ++ A.extract t.size A.size = s ∧ (s ≠ f → underL A.data.toList t.data.toList = true) := by
      intro h
      by_cases e : s = f
      · have hAt : A = t := by
          rw [← hA, e]
          refine str_ext ?_
          rw [str_cat, Lib.extract_to_end, List.drop_of_length_le (by rw [← Lib.size_eq]; exact Nat.le_refl _), List.append_nil]
        refine ⟨.inl hAt, ?_, fun h => absurd e h⟩
        rw [hAt, e]
        refine str_ext ?_
        rw [str_cat, Lib.extract_to_end, List.drop_of_length_le (by rw [← Lib.size_eq]; exact Nat.le_refl _), List.append_nil]
      · obtain ⟨r, h1, h2⟩ := under_cut (hy.resolve_left e)
        have hAl : A.data.toList = t.data.toList ++ 47 :: r := by rw [← hA, str_cat, h2]
        obtain ⟨h3, h4⟩ := under_put (h.resolve_left e) hAl
        refine ⟨.inr h3, ?_, fun _ => h3⟩
        rw [h4]
        exact str_ext (by rw [str_cat, h1]; rfl)
    by_cases hsf : s = f
    · obtain ⟨b1, b2, b3⟩ := hback (.inl hsf)
      have hm3' : ∀ w, Calls Tryd.prog 18 #[.string A, .string t, .string f] w fun e w' => e = .returned (.tuple #[.string s, .bool true]) ∧ w' = w := fun w => (hm3 w).mono fun e w' h => ⟨by rw [mov_yes h.1 b1, b2], h.2⟩
      have q1 : (s.toList == f.toList) = true := by rw [hsf]; simp
      have q2 : (s.toList == s.toList) = true := by simp
      clear hback hm3 hsf b1 b2 b3 hA hy
      go_enter Tryd.func6, Tryd.ntmps6
      go_wp2_with (first
        | (go_at_call 8; first | (with_reducible refine (hs _).mono ?_; rintro e w' ⟨rfl, rfl⟩) | (with_reducible refine (hf _).mono ?_; rintro e w' ⟨rfl, rfl⟩) | (with_reducible refine (ht _).mono ?_; rintro e w' ⟨rfl, rfl⟩))
        | (go_at_call 9; refine hl.mono ?_; rintro e w1 ⟨rfl, hb1⟩)
        | (go_at_call 18; first | (with_reducible refine (hm1' _).mono ?_; rintro e w' ⟨rfl, rfl⟩) | (with_reducible refine (hm3' _).mono ?_; rintro e w' ⟨rfl, rfl⟩))
        | (go_at_call 19; refine (hm2' _).mono ?_; rintro e w' ⟨rfl, rfl⟩))
      go_ret
      exact ⟨rfl, hb1⟩
    · have q1 : (s.toList == f.toList) = false := beq_eq_false_iff_ne.2 fun h => hsf (toList_inj h)
      by_cases ht0 : t.size = 0
      · have hte := isEmpty_eq t ht0
        have hte2 := toList_nil t ht0
        obtain ⟨v3, hv3⟩ : ∃ v3, v3 = (Value.tuple #[.string ⟨(movedL A.data.toList t.data.toList f.data.toList).toArray⟩, .bool (movesL A.data.toList t.data.toList)]) := ⟨_, rfl⟩
        have hm3' : ∀ w, Calls Tryd.prog 18 #[.string A, .string t, .string f] w fun e w' => e = .returned (.tuple #[.string ⟨(movedL A.data.toList t.data.toList f.data.toList).toArray⟩, .bool (movesL A.data.toList t.data.toList)]) ∧ w' = w := fun w => (hm3 w).mono fun e w' h => ⟨h.1, h.2⟩
        generalize movedL A.data.toList t.data.toList f.data.toList = L3 at hm3'
        generalize movesL A.data.toList t.data.toList = B3 at hm3'
        clear hback hm3 hsf hA hy hv3 ht0
        go_enter Tryd.func6, Tryd.ntmps6
        go_wp2_with (first
          | (go_at_call 8; first | (with_reducible refine (hs _).mono ?_; rintro e w' ⟨rfl, rfl⟩) | (with_reducible refine (hf _).mono ?_; rintro e w' ⟨rfl, rfl⟩) | (with_reducible refine (ht _).mono ?_; rintro e w' ⟨rfl, rfl⟩))
          | (go_at_call 9; refine hl.mono ?_; rintro e w1 ⟨rfl, hb1⟩)
          | (go_at_call 18; first | (with_reducible refine (hm1' _).mono ?_; rintro e w' ⟨rfl, rfl⟩) | (with_reducible refine (hm3' _).mono ?_; rintro e w' ⟨rfl, rfl⟩))
          | (go_at_call 19; refine (hm2' _).mono ?_; rintro e w' ⟨rfl, rfl⟩))
        go_ret
        exact ⟨rfl, hb1⟩
      · have hte := isEmpty_ne t ht0
        obtain ⟨b1, b2, b3⟩ := hback (.inr ht0)
        have b4 := b3 hsf
        have hm3' : ∀ w, Calls Tryd.prog 18 #[.string A, .string t, .string f] w fun e w' => e = .returned (.tuple #[.string s, .bool true]) ∧ w' = w := fun w => (hm3 w).mono fun e w' h => ⟨by rw [mov_yes h.1 b1, b2], h.2⟩
        have hu' : ∀ w, Calls Tryd.prog 16 #[.string A, .string t] w fun e w' => e = .returned (.bool true) ∧ w' = w := fun w => by rw [← b4]; exact under_any A t w hAs (by omega)
        have q2 : (s.toList == s.toList) = true := by simp
        clear hback hm3 hsf b1 b2 b3 b4 hA hy ht0
        go_enter Tryd.func6, Tryd.ntmps6
        go_wp2_with (first
          | (go_at_call 8; first | (with_reducible refine (hs _).mono ?_; rintro e w' ⟨rfl, rfl⟩) | (with_reducible refine (hf _).mono ?_; rintro e w' ⟨rfl, rfl⟩) | (with_reducible refine (ht _).mono ?_; rintro e w' ⟨rfl, rfl⟩))
          | (go_at_call 9; refine hl.mono ?_; rintro e w1 ⟨rfl, hb1⟩)
          | (go_at_call 16; refine (hu' _).mono ?_; rintro e w' ⟨rfl, rfl⟩)
          | (go_at_call 18; first | (with_reducible refine (hm1' _).mono ?_; rintro e w' ⟨rfl, rfl⟩) | (with_reducible refine (hm3' _).mono ?_; rintro e w' ⟨rfl, rfl⟩))
          | (go_at_call 19; refine (hm2' _).mono ?_; rintro e w' ⟨rfl, rfl⟩))
        go_ret
        exact ⟨rfl, hb1⟩
  · have h1 : s ≠ f := fun h => hy (.inl h)
    have h2 : underL s.data.toList f.data.toList = false := by cases hh : underL s.data.toList f.data.toList with
      | true => exact absurd (.inr hh) hy
      | false => rfl
    have hm1' : ∀ w, Calls Tryd.prog 18 #[.string s, .string f, .string t] w fun e w' => e = .returned (.tuple #[.string ⟨#[]⟩, .bool false]) ∧ w' = w := fun w => (hm1 w).mono fun e w' h => ⟨mov_no h.1 h1 h2, h.2⟩
    have hm2' : ∀ w, Calls Tryd.prog 19 #[.string s, .string f, .string t] w fun e w' => e = .returned (.tuple #[.string ⟨#[]⟩, .bool false]) ∧ w' = w := fun w => (hm2 w).mono fun e w' h => ⟨mov_no h.1 h1 h2, h.2⟩
    clear hm1 hm2 hy h1 h2
    go_enter Tryd.func6, Tryd.ntmps6
    go_wp2_with (first
      | (go_at_call 8; first | (with_reducible refine (hs _).mono ?_; rintro e w' ⟨rfl, rfl⟩) | (with_reducible refine (hf _).mono ?_; rintro e w' ⟨rfl, rfl⟩) | (with_reducible refine (ht _).mono ?_; rintro e w' ⟨rfl, rfl⟩))
      | (go_at_call 9; refine hl.mono ?_; rintro e w1 ⟨rfl, hb1⟩)
      | (go_at_call 18; refine (hm1' _).mono ?_; rintro e w' ⟨rfl, rfl⟩)
      | (go_at_call 19; refine (hm2' _).mono ?_; rintro e w' ⟨rfl, rfl⟩))
    go_ret
    exact ⟨rfl, hb1⟩
end Go.Proofs.YtnglmaebmabdcaaDoor
