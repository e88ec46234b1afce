import Derived.Test.YtdohgmbchmcemaaDoorL8
namespace Go.Proofs.YtdohgmbchmcemaaDoor
open Go.RowKit

set_option maxHeartbeats 800000 in
theorem lawQuoteBack (s behind : ByteArray) (w : World) (hT : Tabs w) (hbh : behind.size ≤ 140737488351232) :
    Calls Tryd.prog 10 #[.string s, .string behind] w fun e w' => e = .returned (.bool true) ∧ Below w.heap.size w w' := by
  have h1 := quote_any s w hT
  by_cases hg : (quoteF s).2.2 = 0
  · obtain ⟨hq, hql⟩ := quote_back s behind hg
    have e1 : res3 (quoteF s) = .tuple #[.string ⟨(quoteF s).1.toArray⟩, .int .i64 (quoteF s).2.1, .int .i64 0] := by unfold res3; rw [hg]; rfl
    rw [e1] at h1
    clear e1 hg
    generalize (quoteF s).2.1 = at' at *
    generalize (quoteF s).1 = q at *
    have hsz : ((⟨q.toArray⟩ : ByteArray) ++ behind).size = q.length + behind.size := by
      rw [ByteArray.size_append]; show q.toArray.size + _ = _; simp
    go_enter Tryd.func10, Tryd.ntmps10
    go_wp2_with fail
    refine h1.mono ?_
    rintro e w1 ⟨rfl, b1⟩
    have h2 := unquote_any (⟨q.toArray⟩ ++ behind) w1 (hT.below b1 (Nat.le_refl _)) (by omega)
    rw [hq] at h2
    have h3 : Calls Tryd.prog 24 #[.string (⟨q.toArray⟩ ++ behind)] w1 fun e w' => e = .returned (.tuple #[.string ⟨s.data.toList.toArray⟩, .int .i64 q.length, .int .i64 0]) ∧ Below w1.heap.size w1 w' := h2
    rw [Lib.mk_data] at h3
    clear h1 h2 hq hsz
    go_wp2_with fail
    refine h3.mono ?_
    rintro e w2 ⟨rfl, b2⟩
    have b2 := b1.trans (b2.mono b1.size)
    clear h3
    go_wp2_with fail
    refine (live_any w2 (hT.below b2 (Nat.le_refl _))).mono ?_
    rintro e w3 ⟨rfl, b3⟩
    have b3 := b2.trans (b3.mono b2.size)
    go_wp2
    go_ret
    exact ⟨ret_bool (by simp), b3⟩
  · have hq1 : (quoteF s).1 = [] := by
      unfold quoteF at hg ⊢
      split at hg
      · rename_i h; rw [if_pos h]
      · rename_i h; rw [if_neg h]; exact quote_bad _ _ _ hg
    have e1 : res3 (quoteF s) = .tuple #[.string ⟨#[]⟩, .int .i64 (quoteF s).2.1, .int .i64 (quoteF s).2.2] := by unfold res3; rw [hq1]
    rw [e1] at h1
    have hb : (((quoteF s).2.2 : Int) != 0) = true := by rw [bne_iff_ne]; omega
    clear hg e1 hq1
    go_enter Tryd.func10, Tryd.ntmps10
    go_wp2_with fail
    refine h1.mono ?_
    rintro e w1 ⟨rfl, b1⟩
    clear h1
    go_wp2_with fail
    refine (live_any w1 (hT.below b1 (Nat.le_refl _))).mono ?_
    rintro e w3 ⟨rfl, b3⟩
    have b3 := b1.trans (b3.mono b1.size)
    go_wp2
    go_ret
    exact ⟨rfl, b3⟩
end Go.Proofs.YtdohgmbchmcemaaDoor
