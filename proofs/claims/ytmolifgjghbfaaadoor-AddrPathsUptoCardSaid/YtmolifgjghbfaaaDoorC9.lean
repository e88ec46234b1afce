/- The code's Print. -/
import Derived.Test.YtmolifgjghbfaaaDoorC8
namespace Go.Proofs.YtmolifgjghbfaaaDoor
open Go.RowKit

theorem ret_res2s {x : List UInt8 × Nat} {s : ByteArray} {n : Nat} (h1 : s.data.toList = x.1) (h2 : n = x.2) : Ending.returned (.tuple #[.string s, .int .i64 n]) = .returned (res2 x) := by
  unfold res2
  rw [← h1, ← h2, Lib.mk_data]

theorem quoteGo_len : ∀ (l : List (Nat × Nat × Nat)) (acc : List UInt8) (pl : Nat), (quoteGo l acc pl).1.length ≤ acc.length + 1 + 5 * l.length := by
  intro l
  induction l with
  | nil => intro acc pl; simp [quoteGo]
  | cons x t ih =>
    obtain ⟨p, r, k⟩ := x
    intro acc pl
    unfold quoteGo
    split
    · refine Nat.le_trans (ih _ _) ?_
      have h1 : (Lib.encodeRune (r : Int)).length ≤ 4 := by
        have := (Lib.encodeRuneZ_length (r : Int)).2
        unfold Lib.encodeRune; simpa using this
      have h2 : (if r = 34 ∨ r = 92 then [(92 : UInt8)] else []).length ≤ 1 := by split <;> simp
      simp only [List.length_append, List.length_cons]
      omega
    · simp
theorem lets_len (s : ByteArray) : (lets s 0).length ≤ s.size := by
  have h1 : ∀ f pos, (letsF s f pos).length ≤ f := by
    intro f
    induction f with
    | zero => intro pos; simp [letsF]
    | succ f ih =>
      intro pos
      unfold letsF
      split
      · simp only [List.length_cons]; have := ih (pos + (Utf8.decode s pos).2); omega
      · simp
  have := h1 (s.size - 0) 0
  unfold lets; omega
theorem quote_len (x : ByteArray) (h : x.size ≤ 1000) : (quoteF x).1.length ≤ 1000000 := by
  unfold quoteF
  split
  · simp
  · have h1 := quoteGo_len (lets x 0) [34] 0
    have h2 := lets_len x
    simp at h1; omega

set_option maxHeartbeats 2000000 in
set_option maxRecDepth 100000 in
theorem print_any (x d : ByteArray) (w : World) (hT : Tabs w) (hx : x.size ≤ 140737488355000) (hd : d.size ≤ 140737488355000) :
    Calls Tryd.prog 12 #[.agg #[.string x, .string d]] w fun e w' => e = .returned (res2 (printF x.data.toList d.data.toList)) ∧ Below w.heap.size w w' := by
  generalize hF : printF x.data.toList d.data.toList = F
  unfold printF at hF
  have hL := local_any x (w.alloc (.cells #[.string x, .string d] 23))
  have hD := fun W => domain_any d W hd
  cases hl : locF x.data.toList with
  | false =>
    rw [hl] at hL
    rw [if_pos hl] at hF
    have HF := Lib.hid hF
    clear hF hl hD
    go_enter Tryd.func12, Tryd.ntmps12
    go_wp2_with (go_at_call 24; refine hL.mono ?_; rintro e w1 ⟨rfl, hb1⟩)
    go_ret2
    exact ⟨ret_res2s (by rw [← HF.out]) (by rw [← HF.out]), ((Below.refl _ w).alloc (Nat.le_refl _) _).trans (hb1.mono (by simp))⟩
  | true =>
  rw [hl] at hL
  rw [if_neg (by rw [hl]; simp)] at hF
  clear hl
  cases hdm : domF d.data.toList with
  | false =>
    rw [hdm] at hD
    rw [if_pos hdm] at hF
    have HF := Lib.hid hF
    clear hF hdm
    go_enter Tryd.func12, Tryd.ntmps12
    go_wp2_with (first | (go_at_call 24; refine hL.mono ?_; rintro e w1 ⟨rfl, hb1⟩; obtain ⟨c0, c1, f0, f1⟩ := (Two.new w 23 (.string x) (.string d)).below hb1 (by simp)) | (go_at_call 25; refine (hD _).mono ?_; rintro e w2 ⟨rfl, hb2⟩))
    go_ret2
    exact ⟨ret_res2s (by rw [← HF.out]) (by rw [← HF.out]), (((Below.refl _ w).alloc (Nat.le_refl _) _).trans (hb1.mono (by simp))).trans (hb2.mono (by have := hb1.size; simp at this; omega))⟩
  | true =>
  rw [hdm] at hD
  rw [if_neg (by rw [hdm]; simp)] at hF
  clear hdm
  have hTL := fun W => tooLong_any x d W
  by_cases hlim : 64 < x.size ∨ 255 < d.size
  · rw [decide_eq_true hlim] at hTL
    rw [← Lib.size_eq, ← Lib.size_eq, if_pos hlim] at hF
    have HF := Lib.hid hF
    clear hF hlim
    go_enter Tryd.func12, Tryd.ntmps12
    go_wp2_with (first | (go_at_call 24; refine hL.mono ?_; rintro e w1 ⟨rfl, hb1⟩; have t1 := (Two.new w 23 (.string x) (.string d)).below hb1 (by simp); obtain ⟨c0, c1, f0, f1⟩ := id t1; have hz1 := hb1.size; simp at hz1) | (go_at_call 25; refine (hD _).mono ?_; rintro e w2 ⟨rfl, hb2⟩; obtain ⟨d0, d1, g0, g1⟩ := t1.below hb2 (by omega); have hz2 := hb2.size) | (go_at_call 26; refine (hTL _).mono ?_; rintro e w3 ⟨rfl, hb3⟩))
    go_ret2
    exact ⟨ret_res2s (by rw [← HF.out]) (by rw [← HF.out]), ((((Below.refl _ w).alloc (Nat.le_refl _) _).trans (hb1.mono (by simp))).trans (hb2.mono (by omega))).trans (hb3.mono (by omega))⟩
  · rw [decide_eq_false hlim] at hTL
    rw [← Lib.size_eq, ← Lib.size_eq, if_neg hlim] at hF
    have hR := fun W => read_any x 0 W (by omega) (by omega)
    have hQ := fun W hT => quote_any x W hT
    unfold outF at hF
    have hsx : x.size ≤ 64 := by omega
    have hsd : d.size ≤ 255 := by omega
    clear hlim
    by_cases h1 : (readF x.data.toList 0 0 0).1 = 1
    · rw [if_pos h1] at hF
      have e1 : res2n (readF x.data.toList 0 0 0) = .tuple #[.int .i64 1, .int .i64 (readF x.data.toList 0 0 0).2] := by unfold res2n; rw [h1]; rfl
      rw [e1] at hR
      generalize (readF x.data.toList 0 0 0).2 = n at *
      have HF := Lib.hid hF
      clear hF h1 e1 hQ
      go_enter Tryd.func12, Tryd.ntmps12
      go_wp2_with (first | (go_at_call 24; refine hL.mono ?_; rintro e w1 ⟨rfl, hb1⟩; have t1 := (Two.new w 23 (.string x) (.string d)).below hb1 (by simp); obtain ⟨c0, c1, f0, f1⟩ := id t1; have hz1 := hb1.size; simp at hz1) | (go_at_call 25; refine (hD _).mono ?_; rintro e w2 ⟨rfl, hb2⟩; have t2 := t1.below hb2 (by omega); obtain ⟨d0, d1, g0, g1⟩ := id t2; have hz2 := hb2.size) | (go_at_call 26; refine (hTL _).mono ?_; rintro e w3 ⟨rfl, hb3⟩; have t3 := t2.below hb3 (by omega); obtain ⟨d0, d1, g0, g1⟩ := id t3; have hz3 := hb3.size) | (go_at_call 20; refine (hR _).mono ?_; rintro e w4 ⟨rfl, hb4⟩; have t4 := t3.below hb4 (by omega); obtain ⟨d0, d1, g0, g1⟩ := id t4; have hz4 := hb4.size))
      go_ret2
      exact ⟨ret_res2s (by rw [← HF.out]; simp) (by rw [← HF.out]), (((((Below.refl _ w).alloc (Nat.le_refl _) _).trans (hb1.mono (by simp))).trans (hb2.mono (by omega))).trans (hb3.mono (by omega))).trans (hb4.mono (by omega))⟩
    · rw [if_neg h1] at hF
      have e1 : res2n (readF x.data.toList 0 0 0) = .tuple #[.int .i64 (readF x.data.toList 0 0 0).1, .int .i64 (readF x.data.toList 0 0 0).2] := rfl
      rw [e1] at hR
      generalize (readF x.data.toList 0 0 0).2 = n at *
      generalize (readF x.data.toList 0 0 0).1 = f at *
      have b1 : ((f : Int) != 1) = true := by rw [bne_iff_ne]; omega
      have hql : (quoteF x).1.length ≤ 1000000 := quote_len x (by omega)
      unfold res3 at hQ
      rw [Lib.mk_data] at hF
      generalize (quoteF x).1 = q at *
      generalize (quoteF x).2.1 = q1 at *
      generalize (quoteF x).2.2 = q2 at *
      have hqs : (⟨q.toArray⟩ : ByteArray).size = q.length := by simp [ByteArray.size]
      have HQS := Lib.hid hqs
      have hqs2 : (⟨q.toArray⟩ : ByteArray).size ≤ 1000000 := by omega
      have HF := Lib.hid hF
      clear hF h1 e1 hqs
      go_enter Tryd.func12, Tryd.ntmps12
      go_wp2_with (first | (go_at_call 24; refine hL.mono ?_; rintro e w1 ⟨rfl, hb1⟩; have t1 := (Two.new w 23 (.string x) (.string d)).below hb1 (by simp); obtain ⟨c0, c1, f0, f1⟩ := id t1; have hz1 := hb1.size; simp at hz1) | (go_at_call 25; refine (hD _).mono ?_; rintro e w2 ⟨rfl, hb2⟩; have t2 := t1.below hb2 (by omega); obtain ⟨d0, d1, g0, g1⟩ := id t2; have hz2 := hb2.size) | (go_at_call 26; refine (hTL _).mono ?_; rintro e w3 ⟨rfl, hb3⟩; have t3 := t2.below hb3 (by omega); obtain ⟨d0, d1, g0, g1⟩ := id t3; have hz3 := hb3.size) | (go_at_call 20; refine (hR _).mono ?_; rintro e w4 ⟨rfl, hb4⟩; have t4 := t3.below hb4 (by omega); obtain ⟨d0, d1, g0, g1⟩ := id t4; have hz4 := hb4.size) | (go_at_call 27; refine (hQ _ (hT.below ((((((Below.refl _ w).alloc (Nat.le_refl _) _).trans (hb1.mono (by simp))).trans (hb2.mono (by omega))).trans (hb3.mono (by omega))).trans (hb4.mono (by omega))) (Nat.le_refl _))).mono ?_; rintro e w5 ⟨rfl, hb5⟩; have t5 := t4.below hb5 (by omega); obtain ⟨d0, d1, g0, g1⟩ := id t5; have hz5 := hb5.size))
      go_ret2
      exact ⟨ret_res2s (by rw [← HF.out]; simp) (by rw [← HF.out]), ((((((Below.refl _ w).alloc (Nat.le_refl _) _).trans (hb1.mono (by simp))).trans (hb2.mono (by omega))).trans (hb3.mono (by omega))).trans (hb4.mono (by omega))).trans (hb5.mono (by omega))⟩
end Go.Proofs.YtmolifgjghbfaaaDoor
