import Derived.Test.YtdohgmbchmcemaaDoorL5
namespace Go.Proofs.YtdohgmbchmcemaaDoor
open Go.RowKit

theorem nt_ok (m : Nat) (h : m ≤ 4294967295) (w : World) (hP : Pows w) :
    Calls Tryd.prog 18 #[.int .i64 m] w fun e w' => e = .returned (.tuple #[.string ⟨(Lib.decDigits m).toArray⟩, .int .i64 0]) ∧ Below w.heap.size w w' := by
  have h1 := numberText_any (m : Int) w hP
  have e1 : ntF (m : Int) = (Lib.decDigits m, 0) := by
    unfold ntF
    rw [if_neg (by omega)]
    unfold Lib.itoa
    rw [if_neg (by omega)]; rfl
  rw [e1] at h1
  exact h1
theorem nt_out (n : Int) (h : n < 0 ∨ 4294967295 < n) (w : World) (hP : Pows w) :
    Calls Tryd.prog 18 #[.int .i64 n] w fun e w' => e = .returned (.tuple #[.string ⟨#[]⟩, .int .i64 6]) ∧ Below w.heap.size w w' := by
  have h1 := numberText_any n w hP
  have e1 : ntF n = ([], 6) := by
    unfold ntF
    rw [if_pos h]
  rw [e1] at h1
  exact h1

/-- The second half of the law: the text of what is taken is the text. -/
theorem nt_any (v : Nat) (w : World) (hP : Pows w) :
    Calls Tryd.prog 18 #[.int .i64 v] w fun e w' => ∃ (y : ByteArray) (h : Nat), e = .returned (.tuple #[.string y, .int .i64 h]) ∧ Below w.heap.size w w' := by
  have h1 := numberText_any (v : Int) w hP
  unfold res2 at h1
  exact h1.mono fun e w' ⟨he, hb⟩ => ⟨_, _, he, hb⟩

set_option maxHeartbeats 1600000 in
theorem lawNumberBack (n : Int) (s : ByteArray) (w : World) (hT : Tabs w) (hP : Pows w) (hs : s.size ≤ 9223372036854775807) :
    Calls Tryd.prog 6 #[.int .i64 n, .string s] w fun e w' => e = .returned (.bool true) ∧ Below w.heap.size w w' := by
  by_cases hr : n < 0 ∨ 4294967295 < n
  · have h1 := nt_out n hr w hP
    go_enter Tryd.func6, Tryd.ntmps6
    go_wp2_with fail
    refine h1.mono ?_
    rintro e w1 ⟨rfl, b1⟩
    have h2 := number_any s w1 hs
    unfold resN at h2
    clear h1 hr
    go_wp2_with fail
    refine h2.mono ?_
    rintro e w2 ⟨rfl, b2⟩
    have b2 := b1.trans (b2.mono b1.size)
    clear h2 b1
    by_cases hg : (numF s).2.2 = 0
    · obtain ⟨h3, h4⟩ := dec_num s hg
      have h5 := nt_ok (numF s).1 h3 w2 (hP.below b2)
      rw [h4, Lib.mk_data] at h5
      rw [hg]
      clear h4 hg
      go_wp2_with fail
      refine h5.mono ?_
      rintro e w3 ⟨rfl, b3⟩
      have b3 := b2.trans (b3.mono b2.size)
      go_wp2_with fail
      refine (live_any w3 (hT.below b3 (Nat.le_refl _))).mono ?_
      rintro e w4 ⟨rfl, b4⟩
      have b4 := b3.trans (b4.mono b3.size)
      go_wp2
      go_ret
      exact ⟨rfl, b4⟩
    · have h5 := nt_any (numF s).1 w2 (hP.below b2)
      have hb : (((numF s).2.2 : Int) != 0) = true := by rw [bne_iff_ne]; omega
      clear hg
      go_wp2_with fail
      refine h5.mono ?_
      rintro e w3 ⟨y, h, rfl, b3⟩
      have b3 := b2.trans (b3.mono b2.size)
      go_wp2_with fail
      refine (live_any w3 (hT.below b3 (Nat.le_refl _))).mono ?_
      rintro e w4 ⟨rfl, b4⟩
      have b4 := b3.trans (b4.mono b3.size)
      go_wp2
      go_ret
      exact ⟨rfl, b4⟩
  · obtain ⟨m, rfl⟩ : ∃ m : Nat, n = (m : Int) := ⟨n.toNat, by omega⟩
    have hm : m ≤ 4294967295 := by omega
    have h1 := nt_ok m hm w hP
    have hdl := dec_len m hm
    go_enter Tryd.func6, Tryd.ntmps6
    go_wp2_with fail
    refine h1.mono ?_
    rintro e w1 ⟨rfl, b1⟩
    have h0 := number_any ⟨(Lib.decDigits m).toArray⟩ w1 (by show (Lib.decDigits m).toArray.size ≤ _; simp; omega)
    rw [num_dec m hm] at h0
    have h0' : Calls Tryd.prog 16 #[.string ⟨(Lib.decDigits m).toArray⟩] w1 fun e w' => e = .returned (.tuple #[.int .i64 m, .int .i64 0, .int .i64 0]) ∧ Below w1.heap.size w1 w' := h0
    clear h0 h1 hr
    go_wp2_with fail
    refine h0'.mono ?_
    rintro e w1' ⟨rfl, b1'⟩
    have b1 := b1.trans (b1'.mono b1.size)
    clear b1'
    have h2 := number_any s w1' hs
    unfold resN at h2
    clear h0'
    go_wp2_with fail
    refine h2.mono ?_
    rintro e w2 ⟨rfl, b2⟩
    have b2 := b1.trans (b2.mono b1.size)
    clear h2 b1
    by_cases hg : (numF s).2.2 = 0
    · obtain ⟨h3, h4⟩ := dec_num s hg
      have h5 := nt_ok (numF s).1 h3 w2 (hP.below b2)
      rw [h4, Lib.mk_data] at h5
      rw [hg]
      clear h4 hg
      go_wp2_with fail
      refine h5.mono ?_
      rintro e w3 ⟨rfl, b3⟩
      have b3 := b2.trans (b3.mono b2.size)
      go_wp2_with fail
      refine (live_any w3 (hT.below b3 (Nat.le_refl _))).mono ?_
      rintro e w4 ⟨rfl, b4⟩
      have b4 := b3.trans (b4.mono b3.size)
      go_wp2
      go_ret
      exact ⟨rfl, b4⟩
    · have h5 := nt_any (numF s).1 w2 (hP.below b2)
      have hb : (((numF s).2.2 : Int) != 0) = true := by rw [bne_iff_ne]; omega
      clear hg
      go_wp2_with fail
      refine h5.mono ?_
      rintro e w3 ⟨y, h, rfl, b3⟩
      have b3 := b2.trans (b3.mono b2.size)
      go_wp2_with fail
      refine (live_any w3 (hT.below b3 (Nat.le_refl _))).mono ?_
      rintro e w4 ⟨rfl, b4⟩
      have b4 := b3.trans (b4.mono b3.size)
      go_wp2
      go_ret
      exact ⟨rfl, b4⟩
end Go.Proofs.YtdohgmbchmcemaaDoor
