/- The statement AddrBack, walked. -/
import Derived.Test.YtmolifgjghbfaaaDoorC11
namespace Go.Proofs.YtmolifgjghbfaaaDoor
open Go.RowKit

theorem back_path (loc dom o : List UInt8) (h : parseF ⟨o.toArray⟩ = (loc, dom, 0, 0)) : pathF (60 :: o ++ [62, 32, 120]) = (loc, dom, [32, 120], 0) := by
  have hm : (o ++ [62, 32, 120])[o.length]? = some 62 := by simp
  have ht : (o ++ [62, 32, 120]).take o.length = o := by simp
  have hd : (o ++ [62, 32, 120]).drop (o.length + 1) = [32, 120] := by rw [List.drop_append]; simp
  have := path_at (o ++ [62, 32, 120]) o.length hm (by rw [ht, h])
  rw [ht, hd, h] at this
  unfold pathF
  rw [if_pos (by rfl)]
  exact this

theorem print_small (a b o : List UInt8) (h : printF a b = (o, 0)) : a.length ≤ 64 ∧ b.length ≤ 255 := by
  unfold printF at h
  split at h
  · cases h
  split at h
  · cases h
  split at h
  · cases h
  rename_i hl
  omega
set_option maxHeartbeats 4000000 in
set_option maxRecDepth 100000 in
theorem lawBack (x d s : ByteArray) (w : World) (hT : Tabs w) (hx : x.size ≤ 140737488355000) (hd : d.size ≤ 140737488355000) (hs : s.size ≤ 140737488355000) :
    Calls Tryd.prog 6 #[.agg #[.string x, .string d], .string s] w fun e w' => e = .returned (.bool true) ∧ Below w.heap.size w w' := by
  have hP := fun W hT => print_any x d W hT hx hd
  unfold res2 at hP
  have hS := fun W hT => parse_any s W hT hs
  unfold resA at hS
  have hpb := print_back x.data.toList d.data.toList
  have htk := taken_prints s
  generalize printF x.data.toList d.data.toList = O at *
  obtain ⟨o, oe⟩ := O
  simp only at hP
  have t0 := Two.new w 23 (.string x) (.string d)
  have B0 := (Below.refl _ w).alloc (Nat.le_refl _) (.cells #[.string x, .string d] 23)
  generalize parseF s = G at *
  obtain ⟨g1, g2, g3, g4⟩ := G
  simp only at hS htk
  have PB : ∀ G1 G2 : List UInt8, (printF G1 G2).2 = 0 → ∃ o2 : List UInt8, printF G1 G2 = (o2, 0) := fun G1 G2 h => ⟨(printF G1 G2).1, by rw [← h]⟩
  go_enter Tryd.func6, Tryd.ntmps6
  go_wp2_with fail
  refine (hP _ (hT.below B0 (Nat.le_refl _))).mono ?_
  rintro e w1 ⟨rfl, b1⟩
  have B1 := B0.trans (b1.mono B0.size)
  have tb1 := t0.below b1 (by simp)
  have z1 := b1.size
  simp at z1
  by_cases hoe : oe = 0
  · subst hoe
    obtain ⟨hb1, hol⟩ := hpb o rfl
    have hQ := fun W hT => parse_any ⟨o.toArray⟩ W hT (by simp [ByteArray.size]; omega)
    rw [hb1] at hQ
    unfold resA at hQ
    simp only [Lib.mk_data] at hQ
    have hpth := back_path _ _ _ hb1
    have hcl : ((⟨#[60]⟩ : ByteArray) ++ ⟨o.toArray⟩ ++ ⟨#[62, 32, 120]⟩).data.toList = 60 :: o ++ [62, 32, 120] := by simp
    have hK := fun W hT => path_any (⟨#[60]⟩ ++ ⟨o.toArray⟩ ++ ⟨#[62, 32, 120]⟩) W hT (by rw [Lib.size_eq, hcl]; simp; omega)
    rw [hcl, hpth] at hK
    unfold resP at hK
    simp only [Lib.mk_data] at hK
    have HOL := Lib.hid hol
    have hosz : (⟨o.toArray⟩ : ByteArray).size ≤ 1000 := by simp [ByteArray.size]; exact hol
    clear hpb hb1 hpth hcl b1
    go_wp2_with fail
    refine (hQ _ (hT.below B1 (Nat.le_refl _))).mono ?_
    rintro e w2 ⟨rfl, b2⟩
    have z2 := b2.size
    have A2 := (B1.trans (b2.mono B1.size))
    have B2 := A2.alloc A2.size (.cells #[.string x, .string d] 23)
    have tb2 := (tb1.below b2 (by omega)).alloc (by omega) (.cells #[.string x, .string d] 23)
    have u2 := Two.new w2 23 (.string x) (.string d)
    clear b2
    go_wp2_with fail
    refine (hK _ (hT.below B2 (Nat.le_refl _))).mono ?_
    rintro e w3 ⟨rfl, b3⟩
    have z3 := b3.size
    simp at z3
    have A3 := (B2.trans (b3.mono B2.size))
    have B3 := A3.alloc A3.size (.cells #[.string x, .string d] 23)
    have tb3 := (tb2.below b3 (by simp; omega)).alloc (by omega) (.cells #[.string x, .string d] 23)
    have u3 := (u2.below b3 (by simp)).alloc (by omega) (.cells #[.string x, .string d] 23)
    have v3 := Two.new w3 23 (.string x) (.string d)
    obtain ⟨a0, a1, a2, a3⟩ := id tb3
    obtain ⟨e0, e1, e2, e3⟩ := id u3
    obtain ⟨f0, f1, f2, f3⟩ := id v3
    clear b3
    go_wp2_with fail
    have BK := B3
    refine (hS _ (hT.below BK (Nat.le_refl _))).mono ?_
    rintro e w4 ⟨rfl, b4⟩
    have A4 := BK.trans (b4.mono BK.size)
    have B4 := A4.alloc A4.size (.cells #[.string ⟨g1.toArray⟩, .string ⟨g2.toArray⟩] 23)
    have u4 := Two.new w4 23 (.string ⟨g1.toArray⟩) (.string ⟨g2.toArray⟩)
    obtain ⟨m0, m1, m2, m3⟩ := id u4
    clear b4
    by_cases hg : g4 = 0
    · subst hg
      by_cases he : g1 = []
      · subst he
        clear htk
        go_wp2_with fail
        refine (live_any _ (hT.below B4 (Nat.le_refl _))).mono ?_
        rintro e w5 ⟨rfl, b5⟩
        go_wp2
        go_ret
        exact ⟨rfl, B4.trans (b5.mono B4.size)⟩
      · obtain ⟨o2, ho2⟩ := PB g1 g2 (htk rfl he)
        obtain ⟨hp2, hl2⟩ := print_back g1 g2 o2 ho2
        obtain ⟨s1, s2⟩ := print_small g1 g2 o2 ho2
        have hP2 := fun W hT => print_any ⟨g1.toArray⟩ ⟨g2.toArray⟩ W hT (by simp [ByteArray.size]; omega) (by simp [ByteArray.size]; omega)
        rw [show printF ((⟨g1.toArray⟩ : ByteArray).data.toList) ((⟨g2.toArray⟩ : ByteArray).data.toList) = (o2, 0) by simpa using ho2] at hP2
        unfold res2 at hP2
        have hQ2 := fun W hT => parse_any ⟨o2.toArray⟩ W hT (by simp [ByteArray.size]; omega)
        rw [hp2] at hQ2
        unfold resA at hQ2
        have n1 : g1.isEmpty = false := by cases g1 with | nil => exact absurd rfl he | cons => rfl
        have n2 : (g1 == []) = false := by rw [beq_eq_false_iff_ne]; exact he
        clear htk ho2 hp2 PB
        go_wp2_with fail
        refine (hP2 _ (hT.below B4 (Nat.le_refl _))).mono ?_
        rintro e w5 ⟨rfl, b5⟩
        have z5 := b5.size
        simp at z5
        have B5 := B4.trans (b5.mono B4.size)
        have u5 := u4.below b5 (by simp)
        go_wp2_with fail
        refine (hQ2 _ (hT.below B5 (Nat.le_refl _))).mono ?_
        rintro e w6 ⟨rfl, b6⟩
        have z6 := b6.size
        have A6 := B5.trans (b6.mono B5.size)
        have B6 := A6.alloc A6.size (.cells #[.string ⟨g1.toArray⟩, .string ⟨g2.toArray⟩] 23)
        have u6 := (u5.below b6 (by omega)).alloc (by omega) (.cells #[.string ⟨g1.toArray⟩, .string ⟨g2.toArray⟩] 23)
        have v6 := Two.new w6 23 (.string ⟨g1.toArray⟩) (.string ⟨g2.toArray⟩)
        go_wp2_with fail
        refine (live_any _ (hT.below B6 (Nat.le_refl _))).mono ?_
        rintro e w7 ⟨rfl, b7⟩
        obtain ⟨p0, p1, p2, p3⟩ := u6.below b7 (by simp; omega)
        obtain ⟨k0, k1, k2, k3⟩ := v6.below b7 (by simp)
        go_wp2
        go_ret
        exact ⟨ret_b (by simp), B6.trans (b7.mono B6.size)⟩
    · have ng : ((g4 : Int) != 0) = true := by rw [bne_iff_ne]; omega
      clear htk hg
      go_wp2_with fail
      refine (live_any _ (hT.below B4 (Nat.le_refl _))).mono ?_
      rintro e w5 ⟨rfl, b5⟩
      go_wp2
      go_ret
      exact ⟨rfl, B4.trans (b5.mono B4.size)⟩
  · have ne : ((oe : Int) == 0) = false := by rw [beq_eq_false_iff_ne]; omega
    clear hpb hoe b1
    go_wp2_with fail
    have BK := B1
    refine (hS _ (hT.below BK (Nat.le_refl _))).mono ?_
    rintro e w4 ⟨rfl, b4⟩
    have A4 := BK.trans (b4.mono BK.size)
    have B4 := A4.alloc A4.size (.cells #[.string ⟨g1.toArray⟩, .string ⟨g2.toArray⟩] 23)
    have u4 := Two.new w4 23 (.string ⟨g1.toArray⟩) (.string ⟨g2.toArray⟩)
    obtain ⟨m0, m1, m2, m3⟩ := id u4
    clear b4
    by_cases hg : g4 = 0
    · subst hg
      by_cases he : g1 = []
      · subst he
        clear htk
        go_wp2_with fail
        refine (live_any _ (hT.below B4 (Nat.le_refl _))).mono ?_
        rintro e w5 ⟨rfl, b5⟩
        go_wp2
        go_ret
        exact ⟨rfl, B4.trans (b5.mono B4.size)⟩
      · obtain ⟨o2, ho2⟩ := PB g1 g2 (htk rfl he)
        obtain ⟨hp2, hl2⟩ := print_back g1 g2 o2 ho2
        obtain ⟨s1, s2⟩ := print_small g1 g2 o2 ho2
        have hP2 := fun W hT => print_any ⟨g1.toArray⟩ ⟨g2.toArray⟩ W hT (by simp [ByteArray.size]; omega) (by simp [ByteArray.size]; omega)
        rw [show printF ((⟨g1.toArray⟩ : ByteArray).data.toList) ((⟨g2.toArray⟩ : ByteArray).data.toList) = (o2, 0) by simpa using ho2] at hP2
        unfold res2 at hP2
        have hQ2 := fun W hT => parse_any ⟨o2.toArray⟩ W hT (by simp [ByteArray.size]; omega)
        rw [hp2] at hQ2
        unfold resA at hQ2
        have n1 : g1.isEmpty = false := by cases g1 with | nil => exact absurd rfl he | cons => rfl
        have n2 : (g1 == []) = false := by rw [beq_eq_false_iff_ne]; exact he
        clear htk ho2 hp2 PB
        go_wp2_with fail
        refine (hP2 _ (hT.below B4 (Nat.le_refl _))).mono ?_
        rintro e w5 ⟨rfl, b5⟩
        have z5 := b5.size
        simp at z5
        have B5 := B4.trans (b5.mono B4.size)
        have u5 := u4.below b5 (by simp)
        go_wp2_with fail
        refine (hQ2 _ (hT.below B5 (Nat.le_refl _))).mono ?_
        rintro e w6 ⟨rfl, b6⟩
        have z6 := b6.size
        have A6 := B5.trans (b6.mono B5.size)
        have B6 := A6.alloc A6.size (.cells #[.string ⟨g1.toArray⟩, .string ⟨g2.toArray⟩] 23)
        have u6 := (u5.below b6 (by omega)).alloc (by omega) (.cells #[.string ⟨g1.toArray⟩, .string ⟨g2.toArray⟩] 23)
        have v6 := Two.new w6 23 (.string ⟨g1.toArray⟩) (.string ⟨g2.toArray⟩)
        go_wp2_with fail
        refine (live_any _ (hT.below B6 (Nat.le_refl _))).mono ?_
        rintro e w7 ⟨rfl, b7⟩
        obtain ⟨p0, p1, p2, p3⟩ := u6.below b7 (by simp; omega)
        obtain ⟨k0, k1, k2, k3⟩ := v6.below b7 (by simp)
        go_wp2
        go_ret
        exact ⟨ret_b (by simp), B6.trans (b7.mono B6.size)⟩
    · have ng : ((g4 : Int) != 0) = true := by rw [bne_iff_ne]; omega
      clear htk hg
      go_wp2_with fail
      refine (live_any _ (hT.below B4 (Nat.le_refl _))).mono ?_
      rintro e w5 ⟨rfl, b5⟩
      go_wp2
      go_ret
      exact ⟨rfl, B4.trans (b5.mono B4.size)⟩
end Go.Proofs.YtmolifgjghbfaaaDoor
