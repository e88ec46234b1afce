/- The code's Parse, Same, User, local, domain. -/
import Derived.Test.YtmolifgjghbfaaaDoorC6
namespace Go.Proofs.YtmolifgjghbfaaaDoor
open Go.RowKit

def resA (t : Took) : Value := .tuple #[.agg #[.string ⟨t.1.toArray⟩, .string ⟨t.2.1.toArray⟩], .int .i64 t.2.2.1, .int .i64 t.2.2.2]

theorem run_not7 (s : ByteArray) (h : (readF s.data.toList 0 0 0).1 ≠ 7) : parseF s = ([], [], (readF s.data.toList 0 0 0).2, if (readF s.data.toList 0 0 0).1 = 9 then 4 else 3) := run_bad _ 0 0 [] (by omega) h

set_option maxHeartbeats 2000000 in
set_option maxRecDepth 100000 in
theorem parse_any (s : ByteArray) (w : World) (hT : Tabs w) (hz : s.size ≤ 140737488355000) :
    Calls Tryd.prog 9 #[.string s] w fun e w' => e = .returned (resA (parseF s)) ∧ Below w.heap.size w w' := by
  have hR := fun W => read_any s 0 W (by omega) (by omega)
  by_cases h7 : (readF s.data.toList 0 0 0).1 = 7
  · obtain ⟨a, d, x, hs, h64, hsay, _, hrun⟩ := run_good s.data.toList h7
    have hp : parseF s = finF x d := hrun
    have hP := fun W hT => parted_any s a d x W hT hz hs h64 hsay
    rw [hp]
    have e1 : res2n (readF s.data.toList 0 0 0) = .tuple #[.int .i64 7, .int .i64 (readF s.data.toList 0 0 0).2] := by unfold res2n; rw [h7]; rfl
    rw [e1] at hR
    generalize (readF s.data.toList 0 0 0).2 = n at *
    have hpl : (finF x d).2.2.1 = 0 := by unfold finF; split <;> rfl
    generalize hF : finF x d = F at *
    have hF2 : resA F = .tuple #[.agg #[.string ⟨F.1.toArray⟩, .string ⟨F.2.1.toArray⟩], .int .i64 0, .int .i64 F.2.2.2] := by unfold resA; rw [hpl]; rfl
    unfold resB at hP
    rw [hF2]
    clear h7 hs h64 hsay hrun hp e1 hpl hF hF2
    go_enter Tryd.func9, Tryd.ntmps9
    go_wp2_with fail
    refine (hR _).mono ?_
    rintro e w1 ⟨rfl, hb1⟩
    have t1 := (Two.new w 23 noStr noStr).below hb1 (by simp)
    have hz1 := hb1.size
    simp at hz1
    have hB1 := ((Below.refl _ w).alloc (Nat.le_refl _) _).trans (hb1.mono (by simp))
    clear hb1
    go_wp2_with fail
    refine (hP _ (hT.below hB1 (Nat.le_refl _))).mono ?_
    rintro e w2 ⟨rfl, hb2⟩
    have hz2 := hb2.size
    obtain ⟨r0, r1, fr0, fr1⟩ := (t1.below hb2 (by omega)).alloc (by omega) (.cells #[.string ⟨F.1.toArray⟩, .string ⟨F.2.1.toArray⟩] 23)
    unfold noStr at r0 r1
    go_wp2
    exact bodyPost_ret (v := .tuple #[.agg #[.string ⟨F.1.toArray⟩, .string ⟨F.2.1.toArray⟩], .int .i64 0, .int .i64 F.2.2.2]) (by simp [results, Tryd.results9, go_sem, r0, r1]) rfl ⟨rfl, (((hB1.trans (hb2.mono (by omega))).alloc (by omega) _).setCell (by simp) _).setCell (by simp) _⟩
  · rw [run_not7 s h7]
    by_cases h9 : (readF s.data.toList 0 0 0).1 = 9
    · rw [if_pos h9]
      have e1 : res2n (readF s.data.toList 0 0 0) = .tuple #[.int .i64 9, .int .i64 (readF s.data.toList 0 0 0).2] := by unfold res2n; rw [h9]; rfl
      rw [e1] at hR
      generalize (readF s.data.toList 0 0 0).2 = n at *
      clear h7 h9 e1
      go_enter Tryd.func9, Tryd.ntmps9
      go_wp2_with fail
      refine (hR _).mono ?_
      rintro e w1 ⟨rfl, hb1⟩
      obtain ⟨r0, r1, fr0, fr1⟩ := (Two.new w 23 noStr noStr).below hb1 (by simp)
      unfold noStr at r0 r1
      go_wp2
      exact bodyPost_ret (v := .tuple #[.agg #[.string ⟨#[]⟩, .string ⟨#[]⟩], .int .i64 n, .int .i64 4]) (by simp [results, Tryd.results9, go_sem, r0, r1]) rfl ⟨rfl, ((((Below.refl _ w).alloc (Nat.le_refl _) _).trans (hb1.mono (by simp))).setCell (by simp) _).setCell (by simp) _⟩
    · rw [if_neg h9]
      have e1 : res2n (readF s.data.toList 0 0 0) = .tuple #[.int .i64 (readF s.data.toList 0 0 0).1, .int .i64 (readF s.data.toList 0 0 0).2] := rfl
      rw [e1] at hR
      generalize (readF s.data.toList 0 0 0).2 = n at *
      generalize (readF s.data.toList 0 0 0).1 = f at *
      have b7 : ((f : Int) == 7) = false := by rw [beq_eq_false_iff_ne]; omega
      have b9 : ((f : Int) == 9) = false := by rw [beq_eq_false_iff_ne]; omega
      clear h7 h9 e1
      go_enter Tryd.func9, Tryd.ntmps9
      go_wp2_with fail
      refine (hR _).mono ?_
      rintro e w1 ⟨rfl, hb1⟩
      obtain ⟨r0, r1, fr0, fr1⟩ := (Two.new w 23 noStr noStr).below hb1 (by simp)
      unfold noStr at r0 r1
      go_wp2
      exact bodyPost_ret (v := .tuple #[.agg #[.string ⟨#[]⟩, .string ⟨#[]⟩], .int .i64 n, .int .i64 3]) (by simp [results, Tryd.results9, go_sem, r0, r1]) rfl ⟨rfl, ((((Below.refl _ w).alloc (Nat.le_refl _) _).trans (hb1.mono (by simp))).setCell (by simp) _).setCell (by simp) _⟩
end Go.Proofs.YtmolifgjghbfaaaDoor
