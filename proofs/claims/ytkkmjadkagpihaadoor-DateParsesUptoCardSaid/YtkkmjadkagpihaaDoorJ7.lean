/- Date: the document's there, and both Heres. -/
import Derived.Test.YtkkmjadkagpihaaDoorJ6
namespace Go.Proofs.YtkkmjadkagpihaaDoor
open Go Go.RowKit

theorem tdiv_down (s : Int) (h : s.tdiv 86400 * 86400 > s) : s.tdiv 86400 - 1 = s / 86400 := by
  have ht := @Int.tdiv_eq_ediv s 86400
  rw [ht] at h ⊢
  split at h <;> rename_i hc
  · rw [if_pos hc]; omega
  · rw [if_neg hc]; have : Int.sign 86400 = 1 := by decide
    rw [this] at h ⊢; omega
theorem tdiv_same (s : Int) (h : ¬ s.tdiv 86400 * 86400 > s) : s.tdiv 86400 = s / 86400 := by
  have ht := @Int.tdiv_eq_ediv s 86400
  rw [ht] at h ⊢
  split at h <;> rename_i hc
  · rw [if_pos hc]; omega
  · rw [if_neg hc]; have : Int.sign 86400 = 1 := by decide
    rw [this] at h ⊢; omega
theorem tdiv_bd (s : Int) (a : Int) (h0 : 0 ≤ a) (h1 : -a ≤ s) (h2 : s ≤ a) : -a ≤ s.tdiv 86400 ∧ s.tdiv 86400 ≤ a ∧ -a - 86400 ≤ s.tdiv 86400 * 86400 ∧ s.tdiv 86400 * 86400 ≤ a + 86400 := by
  have ht := @Int.tdiv_eq_ediv s 86400
  rw [ht]
  split <;> rename_i hc
  · omega
  · have : Int.sign 86400 = 1 := by decide
    rw [this]; omega

def ThereNo (w : World) (e : Ending) (w' : World) : Prop := ∃ a b : Int, e = .returned (.tuple #[.int .i64 a, .int .i64 b, .bool false]) ∧ Below w.heap.size w w'

theorem refThere_yes (sec zone : Int) (w : World) (h : okT sec zone = true) :
    Calls Tryd.prog 60 #[timeV sec zone] w fun e w' => e = .returned (.tuple #[.int .i64 ((sec + 60 * zone) / 86400), .int .i64 ((sec + 60 * zone) % 86400), .bool true]) ∧ Below w.heap.size w w' := by
  unfold timeV
  rw [okT_iff] at h
  obtain ⟨h1, h2, h3, h4⟩ := h
  obtain ⟨y, m, d, hr, hn⟩ := day_of ((sec + 60 * zone) / 86400) (by omega) (by omega)
  have g1 : ¬ sec < -100000000000 := by omega
  have g2 : ¬ 1000000000000 < sec := by omega
  have g3 : ¬ zone < -1439 := by omega
  have g4 : ¬ 1439 < zone := by omega
  obtain ⟨t1, t2, t3, t4⟩ := tdiv_bd (sec + 60 * zone) 253402300800 (by omega) (by omega) (by omega)
  have HC := Lib.hid (fun w => refCivil_yes y m d w hr)
  rw [hn] at HC
  unfold dayV at HC
  have HM : Hid (sec + 60 * zone - 86400 * ((sec + 60 * zone) / 86400) = (sec + 60 * zone) % 86400) := Lib.hid (by omega)
  have q1 : -62135596800 ≤ 86400 * ((sec + 60 * zone) / 86400) := by omega
  have q2 : 86400 * ((sec + 60 * zone) / 86400) ≤ 253402300800 := by omega
  clear hr hn
  by_cases hd : (sec + 60 * zone).tdiv 86400 * 86400 > sec + 60 * zone
  · have HD := Lib.hid (tdiv_down _ hd)
    go_enter Tryd.func60, Tryd.ntmps60
    go_wp2_with fail
    rw [HD.out]
    refine (HC.out _).mono ?_
    rintro e w1 ⟨rfl, hb⟩
    go_wp2
    go_ret3
    rw [← HM.out]
    exact ⟨rfl, bal ((bal (Below.refl _ _) _).trans (hb.mono (by simp))) _⟩
  · have HD := Lib.hid (tdiv_same _ hd)
    go_enter Tryd.func60, Tryd.ntmps60
    go_wp2_with fail
    rw [HD.out]
    refine (HC.out _).mono ?_
    rintro e w1 ⟨rfl, hb⟩
    go_wp2
    go_ret3
    rw [← HM.out]
    exact ⟨rfl, bal ((bal (Below.refl _ _) _).trans (hb.mono (by simp))) _⟩

theorem refThere_no (sec zone : Int) (w : World) (h : okT sec zone = false) (hs1 : -9223372036854775808 ≤ sec) (hs2 : sec ≤ 9223372036854775807) (hz1 : -9223372036854775808 ≤ zone) (hz2 : zone ≤ 9223372036854775807) :
    Calls Tryd.prog 60 #[timeV sec zone] w (ThereNo w) := by
  unfold timeV
  have hno : zone < -1439 ∨ 1439 < zone ∨ sec < -100000000000 ∨ 1000000000000 < sec ∨ (-1439 ≤ zone ∧ zone ≤ 1439 ∧ -100000000000 ≤ sec ∧ sec ≤ 1000000000000 ∧ ¬ (-62135596800 ≤ sec + 60 * zone ∧ sec + 60 * zone < 253402300800)) := by
    by_cases a : zone < -1439
    · exact Or.inl a
    by_cases b : 1439 < zone
    · exact Or.inr (Or.inl b)
    by_cases c : sec < -100000000000
    · exact Or.inr (Or.inr (Or.inl c))
    by_cases d : 1000000000000 < sec
    · exact Or.inr (Or.inr (Or.inr (Or.inl d)))
    refine Or.inr (Or.inr (Or.inr (Or.inr ⟨by omega, by omega, by omega, by omega, fun ⟨x, y⟩ => ?_⟩)))
    have : okT sec zone = true := okT_iff.2 ⟨by omega, by omega, x, y⟩
    rw [this] at h; cases h
  clear h
  by_cases n1 : zone < -1439
  · clear hno
    go_enter Tryd.func60, Tryd.ntmps60
    go_wp2
    go_ret3
    exact ⟨0, 0, rfl, bal (Below.refl _ _) _⟩
  by_cases n2 : 1439 < zone
  · clear hno
    go_enter Tryd.func60, Tryd.ntmps60
    go_wp2
    go_ret3
    exact ⟨0, 0, rfl, bal (Below.refl _ _) _⟩
  by_cases n3 : sec < -100000000000
  · clear hno
    go_enter Tryd.func60, Tryd.ntmps60
    go_wp2
    go_ret3
    exact ⟨0, 0, rfl, bal (Below.refl _ _) _⟩
  by_cases n4 : 1000000000000 < sec
  · clear hno
    go_enter Tryd.func60, Tryd.ntmps60
    go_wp2
    go_ret3
    exact ⟨0, 0, rfl, bal (Below.refl _ _) _⟩
  have hx : ¬ (-62135596800 ≤ sec + 60 * zone ∧ sec + 60 * zone < 253402300800) := by
    rcases hno with a | a | a | a | a
    · exact absurd a n1
    · exact absurd a n2
    · exact absurd a n3
    · exact absurd a n4
    · exact a.2.2.2.2
  clear hno
  obtain ⟨t1, t2, t3, t4⟩ := tdiv_bd (sec + 60 * zone) 1000000086340 (by omega) (by omega) (by omega)
  have HC := Lib.hid (fun w => refCivil_no ((sec + 60 * zone) / 86400) w (by omega))
  unfold dayV at HC
  have q1 : -1000000172740 ≤ 86400 * ((sec + 60 * zone) / 86400) := by omega
  have q2 : 86400 * ((sec + 60 * zone) / 86400) ≤ 1000000086340 := by omega
  clear hx
  by_cases hd : (sec + 60 * zone).tdiv 86400 * 86400 > sec + 60 * zone
  · have HD := Lib.hid (tdiv_down _ hd)
    go_enter Tryd.func60, Tryd.ntmps60
    go_wp2_with fail
    rw [HD.out]
    refine (HC.out _).mono ?_
    rintro e w1 ⟨rfl, hb⟩
    go_wp2
    go_ret3
    exact ⟨_, _, rfl, bal ((bal (Below.refl _ _) _).trans (hb.mono (by simp))) _⟩
  · have HD := Lib.hid (tdiv_same _ hd)
    go_enter Tryd.func60, Tryd.ntmps60
    go_wp2_with fail
    rw [HD.out]
    refine (HC.out _).mono ?_
    rintro e w1 ⟨rfl, hb⟩
    go_wp2
    go_ret3
    exact ⟨_, _, rfl, bal ((bal (Below.refl _ _) _).trans (hb.mono (by simp))) _⟩
end Go.Proofs.YtkkmjadkagpihaaDoor
