/- The code's Path. -/
import Derived.Test.YtmolifgjghbfaaaDoorP5
namespace Go.Proofs.YtmolifgjghbfaaaDoor
open Go.RowKit

def resP (x : Pathed) : Value := .tuple #[.agg #[.string ⟨x.1.toArray⟩, .string ⟨x.2.1.toArray⟩], .string ⟨x.2.2.1.toArray⟩, .int .i64 x.2.2.2]
theorem cut_lt (l : List UInt8) (h : l.head? = some 60) : Lib.hasPrefix l [60] = true ∧ Lib.trimPrefix l [60] = l.drop 1 := by
  cases l with
  | nil => cases h
  | cons b t =>
    injection h with h
    subst h
    have : Lib.hasPrefix (60 :: t) [60] = true := by unfold Lib.hasPrefix; simp [List.isPrefixOf]
    refine ⟨this, ?_⟩
    unfold Lib.trimPrefix
    rw [this]; rfl
theorem cut_no (l : List UInt8) (h : l.head? ≠ some 60) : Lib.hasPrefix l [60] = false ∧ Lib.trimPrefix l [60] = l := by
  have : Lib.hasPrefix l [60] = false := by
    unfold Lib.hasPrefix
    cases l with
    | nil => rfl
    | cons b t =>
      simp only [List.isPrefixOf, Bool.and_true, beq_eq_false_iff_ne]
      intro e; apply h; rw [← e]; rfl
  refine ⟨this, ?_⟩
  unfold Lib.trimPrefix
  rw [this]; rfl

set_option maxHeartbeats 4000000 in
set_option maxRecDepth 100000 in
theorem path_any (s : ByteArray) (w : World) (hT : Tabs w) (hz : s.size ≤ 140737488355000) :
    Calls Tryd.prog 14 #[.string s] w fun e w' => e = .returned (resP (pathF s.data.toList)) ∧ Below w.heap.size w w' := by
  have hC := fun W => Tryd.strings_CutPrefix s ⟨#[60]⟩ W
  rw [show (⟨#[60]⟩ : ByteArray).data.toList = [60] from rfl] at hC
  generalize hF : pathF s.data.toList = F
  unfold pathF at hF
  by_cases h60 : s.data.toList.head? = some 60
  · rw [if_pos h60] at hF
    obtain ⟨c1, c2⟩ := cut_lt _ h60
    rw [c1, c2] at hC
    have hTd : (⟨(s.data.toList.drop 1).toArray⟩ : ByteArray).data.toList = s.data.toList.drop 1 := by simp
    have hTz : (⟨(s.data.toList.drop 1).toArray⟩ : ByteArray).size ≤ 140737488355000 := by rw [Lib.size_eq, hTd, List.length_drop, ← Lib.size_eq]; omega
    generalize (⟨(s.data.toList.drop 1).toArray⟩ : ByteArray) = T at *
    rw [← hTd] at hF
    clear h60 c1 c2 hTd hz
    have hR := fun W => read_any T 0 W (by omega) (by omega)
    unfold pathT at hF
    have hlt := read_lt T.data.toList 0 0 0 (by omega)
    generalize readF T.data.toList 0 0 0 = q at *
    obtain ⟨qs, qn⟩ := q
    unfold res2n at hR
    simp only at hR hF hlt
    rw [Nat.zero_add, ← Lib.size_eq] at hlt
    by_cases h9 : qs = 9
    · subst h9
      have hlt := hlt rfl
      have hget : T.data.toList[qn]? = some (T[qn]'hlt) := by
        have hp' : qn < T.data.toList.length := by rw [← Lib.size_eq]; exact hlt
        rw [List.getElem?_eq_getElem hp']; rfl
      rw [hget] at hF
      by_cases h62 : (T[qn]'hlt).toNat = 62
      · have hb62 : T[qn]'hlt = 62 := UInt8.toNat_inj.1 h62
        rw [if_pos ⟨rfl, by rw [hb62]⟩] at hF
        have n62 : (((T[qn]'hlt).toNat : Int) != 62) = false := by rw [h62]; rfl
        have q1 : (qn : Int) ≤ (T.size : Int) := by omega
        have q2 : (qn : Int) + 1 ≤ (T.size : Int) := by omega
        have q3 : ((qn : Int) + 1).toNat = qn + 1 := by omega
        have q4 : qn + 1 ≤ T.size := by omega
        have q5 : IntKind.i64.wrap ((qn : Int) + 1) = (qn : Int) + 1 := wrap_small _ (by omega) (by omega)
        have hin : T.extract 0 qn = ⟨(T.data.toList.take qn).toArray⟩ := by rw [Lib.extract_eq]; simp
        have hrest : T.extract (qn + 1) T.size = ⟨(T.data.toList.drop (qn + 1)).toArray⟩ := by
          rw [Lib.extract_eq]
          congr 2
          rw [List.take_of_length_le]
          rw [List.length_drop, ← Lib.size_eq]; omega
        have HB := Lib.hid hb62
        clear hget h62 hb62
        by_cases h0 : qn = 0
        · rw [if_pos h0] at hF
          have hie : (T.extract 0 qn).toList.isEmpty = true := empty_nil _ (by rw [ByteArray.size_extract]; omega)
          have hie2 : (T.extract 0 qn).toList = [] := by cases hh : (T.extract 0 qn).toList with | nil => rfl | cons => rw [hh] at hie; cases hie
          rw [show T.data.toList.drop 1 = T.data.toList.drop (qn + 1) by rw [h0]] at hF
          have HF := Lib.hid hF
          have HI := Lib.hid hin
          clear hF h0 hin
          go_enter Tryd.func14, Tryd.ntmps14
          go_wp2_with fail
          refine (hC _).mono ?_
          rintro e w' ⟨rfl, rfl⟩
          go_wp2_with fail
          refine (hR _).mono ?_
          rintro e w1 ⟨rfl, hb1⟩
          have t1 := (Two.new w 23 noStr noStr).below hb1 (by simp)
          have hz1 := hb1.size
          simp at hz1
          have B1 := ((Below.refl _ w).alloc (Nat.le_refl _) _).trans (hb1.mono (by simp))
          obtain ⟨r0, r1, fr0, fr1⟩ := id t1
          unfold noStr at r0 r1
          go_wp2_with fail
          go_quiet (fail)
          go_wp2_with fail
          exact bodyPost_ret (v := .tuple #[.agg #[.string ⟨#[]⟩, .string ⟨#[]⟩], .string ⟨(T.data.toList.drop (qn + 1)).toArray⟩, .int .i64 0]) (by simp [results, Tryd.results14, go_sem, r0, r1]) rfl ⟨by rw [← HF.out]; rfl, ((bel_draws B1 _).setCell (by simp) _).setCell (by simp) _⟩
        · rw [if_neg h0] at hF
          rw [← hin] at hF
          have hie : (T.extract 0 qn).toList.isEmpty = false := empty_iff _ (by rw [ByteArray.size_extract]; omega)
          have hie2 : ¬ (T.extract 0 qn).toList = [] := by intro h; rw [h] at hie; cases hie
          have hie3 : ((T.extract 0 qn).toList == []) = false := by rw [beq_eq_false_iff_ne]; exact hie2
          have hiz : (T.extract 0 qn).size ≤ 140737488355000 := by rw [ByteArray.size_extract]; omega
          have hPA := fun W hT => parse_any (T.extract 0 qn) W hT hiz
          unfold resA at hPA
          generalize parseF (T.extract 0 qn) = G at *
          have HI := Lib.hid hin
          clear hin h0
          by_cases hg : G.2.2.2 = 0
          · rw [if_pos hg] at hF
            rw [hg] at hPA
            have HF := Lib.hid hF
            clear hF hg
            go_enter Tryd.func14, Tryd.ntmps14
            go_wp2_with fail
            refine (hC _).mono ?_
            rintro e w' ⟨rfl, rfl⟩
            go_wp2_with fail
            refine (hR _).mono ?_
            rintro e w1 ⟨rfl, hb1⟩
            have t1 := (Two.new w 23 noStr noStr).below hb1 (by simp)
            have hz1 := hb1.size
            simp at hz1
            have B1 := ((Below.refl _ w).alloc (Nat.le_refl _) _).trans (hb1.mono (by simp))
            obtain ⟨r0, r1, fr0, fr1⟩ := id t1
            unfold noStr at r0 r1
            go_wp2_with fail
            go_quiet (fail)
            have BQ := bel_draws B1 nq
            have tq := t1.drewN nq
            have hzq0 : (w1.drewN nq).heap.size = w1.heap.size := rfl
            have HZQ := Lib.hid hzq0
            clear hzq0
            generalize w1.drewN nq = wq at *
            go_wp2_with fail
            refine (hPA _ (hT.below BQ (Nat.le_refl _))).mono ?_
            rintro e w3 ⟨rfl, hb3⟩
            have hzq := BQ.size
            have hz3 := hb3.size
            have hzq2 : w.heap.size < wq.heap.size := by have : wq.heap.size = w1.heap.size := HZQ.out; omega
            have t3 := ((tq.below hb3 hzq2).alloc (by omega) (.cells #[.string ⟨G.1.toArray⟩, .string ⟨G.2.1.toArray⟩] 23))
            obtain ⟨r0, r1, fr0, fr1⟩ := t3
            unfold noStr at r0 r1
            go_wp2_with fail
            exact bodyPost_ret (v := .tuple #[.agg #[.string ⟨G.1.toArray⟩, .string ⟨G.2.1.toArray⟩], .string ⟨(T.data.toList.drop (qn + 1)).toArray⟩, .int .i64 0]) (by simp [results, Tryd.results14, go_sem, r0, r1]) rfl ⟨by rw [← HF.out]; rfl, ((((BQ.trans (hb3.mono BQ.size)).alloc (BQ.trans (hb3.mono BQ.size)).size _).setCell (by simp) _).setCell (by simp) _)⟩
          · rw [if_neg hg] at hF
            have ng : ((G.2.2.2 : Int) != 0) = true := by rw [bne_iff_ne]; omega
            have HF := Lib.hid hF
            clear hF hg
            go_enter Tryd.func14, Tryd.ntmps14
            go_wp2_with fail
            refine (hC _).mono ?_
            rintro e w' ⟨rfl, rfl⟩
            go_wp2_with fail
            refine (hR _).mono ?_
            rintro e w1 ⟨rfl, hb1⟩
            have t1 := (Two.new w 23 noStr noStr).below hb1 (by simp)
            have hz1 := hb1.size
            simp at hz1
            have B1 := ((Below.refl _ w).alloc (Nat.le_refl _) _).trans (hb1.mono (by simp))
            obtain ⟨r0, r1, fr0, fr1⟩ := id t1
            unfold noStr at r0 r1
            go_wp2_with fail
            go_quiet (fail)
            have BQ := bel_draws B1 nq
            have tq := t1.drewN nq
            have hzq0 : (w1.drewN nq).heap.size = w1.heap.size := rfl
            have HZQ := Lib.hid hzq0
            clear hzq0
            generalize w1.drewN nq = wq at *
            go_wp2_with fail
            refine (hPA _ (hT.below BQ (Nat.le_refl _))).mono ?_
            rintro e w3 ⟨rfl, hb3⟩
            have hzq := BQ.size
            have hz3 := hb3.size
            have hzq2 : w.heap.size < wq.heap.size := by have : wq.heap.size = w1.heap.size := HZQ.out; omega
            have t3 := ((tq.below hb3 hzq2).alloc (by omega) (.cells #[.string ⟨G.1.toArray⟩, .string ⟨G.2.1.toArray⟩] 23))
            obtain ⟨r0, r1, fr0, fr1⟩ := t3
            unfold noStr at r0 r1
            go_wp2_with fail
            exact bodyPost_ret (v := .tuple #[.agg #[.string ⟨#[]⟩, .string ⟨#[]⟩], .string ⟨#[]⟩, .int .i64 4]) (by simp [results, Tryd.results14, go_sem, r0, r1]) rfl ⟨by rw [← HF.out]; rfl, (((BQ.trans (hb3.mono BQ.size)).alloc (BQ.trans (hb3.mono BQ.size)).size _).setCell (by simp) _).setCell (by simp) _⟩
      · rw [if_neg (by intro h; exact h62 (by have := Option.some.inj h.2; rw [this]; rfl))] at hF
        have n62 : (((T[qn]'hlt).toNat : Int) != 62) = true := by rw [bne_iff_ne]; omega
        have HF := Lib.hid hF
        clear hF hget h62
        go_enter Tryd.func14, Tryd.ntmps14
        go_wp2_with fail
        refine (hC _).mono ?_
        rintro e w' ⟨rfl, rfl⟩
        go_wp2_with fail
        refine (hR _).mono ?_
        rintro e w1 ⟨rfl, hb1⟩
        have t1 := (Two.new w 23 noStr noStr).below hb1 (by simp)
        have hz1 := hb1.size
        simp at hz1
        have B1 := ((Below.refl _ w).alloc (Nat.le_refl _) _).trans (hb1.mono (by simp))
        obtain ⟨r0, r1, fr0, fr1⟩ := id t1
        unfold noStr at r0 r1
        go_wp2_with fail
        exact bodyPost_ret (v := .tuple #[.agg #[.string ⟨#[]⟩, .string ⟨#[]⟩], .string ⟨#[]⟩, .int .i64 4]) (by simp [results, Tryd.results14, go_sem, r0, r1]) rfl ⟨by rw [← HF.out]; rfl, (B1.setCell (by simp) _).setCell (by simp) _⟩
    · rw [if_neg (by intro h; exact h9 h.1)] at hF
      have n9 : ((qs : Int) != 9) = true := by rw [bne_iff_ne]; omega
      have HF := Lib.hid hF
      clear hF h9 hlt
      go_enter Tryd.func14, Tryd.ntmps14
      go_wp2_with fail
      refine (hC _).mono ?_
      rintro e w' ⟨rfl, rfl⟩
      go_wp2_with fail
      refine (hR _).mono ?_
      rintro e w1 ⟨rfl, hb1⟩
      have t1 := (Two.new w 23 noStr noStr).below hb1 (by simp)
      have hz1 := hb1.size
      simp at hz1
      have B1 := ((Below.refl _ w).alloc (Nat.le_refl _) _).trans (hb1.mono (by simp))
      obtain ⟨r0, r1, fr0, fr1⟩ := id t1
      unfold noStr at r0 r1
      go_wp2_with fail
      exact bodyPost_ret (v := .tuple #[.agg #[.string ⟨#[]⟩, .string ⟨#[]⟩], .string ⟨#[]⟩, .int .i64 4]) (by simp [results, Tryd.results14, go_sem, r0, r1]) rfl ⟨by rw [← HF.out]; rfl, (B1.setCell (by simp) _).setCell (by simp) _⟩
  · rw [if_neg h60] at hF
    obtain ⟨c1, c2⟩ := cut_no _ h60
    rw [c1, c2, Lib.mk_data] at hC
    have hR := fun W => read_any s 0 W (by omega) (by omega)
    unfold res2n at hR
    generalize readF s.data.toList 0 0 0 = q at *
    have HF := Lib.hid hF
    clear hF h60 c1 c2
    go_enter Tryd.func14, Tryd.ntmps14
    go_wp2_with fail
    refine (hC _).mono ?_
    rintro e w' ⟨rfl, rfl⟩
    go_wp2_with fail
    refine (hR _).mono ?_
    rintro e w1 ⟨rfl, hb1⟩
    have t1 := (Two.new w 23 noStr noStr).below hb1 (by simp)
    have hz1 := hb1.size
    simp at hz1
    have B1 := ((Below.refl _ w).alloc (Nat.le_refl _) _).trans (hb1.mono (by simp))
    obtain ⟨r0, r1, fr0, fr1⟩ := id t1
    unfold noStr at r0 r1
    go_wp2_with fail
    exact bodyPost_ret (v := .tuple #[.agg #[.string ⟨#[]⟩, .string ⟨#[]⟩], .string ⟨#[]⟩, .int .i64 4]) (by simp [results, Tryd.results14, go_sem, r0, r1]) rfl ⟨by rw [← HF.out]; rfl, (B1.setCell (by simp) _).setCell (by simp) _⟩
end Go.Proofs.YtmolifgjghbfaaaDoor
