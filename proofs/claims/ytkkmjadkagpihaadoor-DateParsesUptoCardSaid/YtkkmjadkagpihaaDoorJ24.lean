/- Date: ParseShort, ParseDay of the code; what Parse tells. -/
import Derived.Test.YtkkmjadkagpihaaDoorJ23
namespace Go.Proofs.YtkkmjadkagpihaaDoor
open Go Go.RowKit

def dayN (t : ByteArray) (k : Nat) (s : Stp) : Stp := { numS t k s with day := numV t k s }
theorem dayN_ok {t : ByteArray} {k : Nat} {s : Stp} (h : Ok t s) : Ok t (dayN t k s) := numS_ok h
def shortS (t : ByteArray) : Stp := if isR t [32] 0 then dayN t 1 (oneS t [32] s00) else dayN t 2 s00
def shortR (t : ByteArray) : Int × Int × Int × Int := momR t (placeS t [43, 45] (oneS t [32] (secondS t (hourMinuteS t (oneS t [32] (monthYearS t [45] (shortS t)))))))
def parseA (t : ByteArray) : Stp := hourMinuteS t (oneS t [32] (monthYearS t [32] (shortDayS t (if isR t figL 0 then s00 else oneS t [32] (oneS t [44] (wk0 t s00))))))
def parseR (t : ByteArray) : Int × Int × Int × Int := momR t (placeS t [43, 45, 71, 85] (oneS t [32] (if isR t [58] (parseA t).at_ then secondS t (parseA t) else parseA t)))
theorem parse_any (t : ByteArray) (w : World) (hs : t.size ≤ 9223372036854775807) (hm : Ml w) (R : Int × Int × Int × Int) (hR : parseR t = R) :
    Calls Tryd.prog 18 #[.string t] w fun e w' => e = .returned (momV R) ∧ Below w.heap.size w w' := by
  unfold parseR parseA at hR
  cases h1 : isR t figL 0 with
  | true =>
    simp only [h1, if_true] at hR
    cases h2 : isR t [58] (hourMinuteS t (oneS t [32] (monthYearS t [32] (shortDayS t s00)))).at_ with
    | true => simp only [h2, if_true] at hR; exact parse_11 t w hs hm h1 h2 R hR
    | false => simp only [h2, Bool.false_eq_true, if_false] at hR; exact parse_10 t w hs hm h1 h2 R hR
  | false =>
    simp only [h1, Bool.false_eq_true, if_false] at hR
    cases h2 : isR t [58] (hourMinuteS t (oneS t [32] (monthYearS t [32] (shortDayS t (oneS t [32] (oneS t [44] (wk0 t s00))))))).at_ with
    | true => simp only [h2, if_true] at hR; exact parse_01 t w hs hm h1 h2 R hR
    | false => simp only [h2, Bool.false_eq_true, if_false] at hR; exact parse_00 t w hs hm h1 h2 R hR
set_option maxRecDepth 100000 in
set_option maxHeartbeats 2000000 in
theorem short_1 (t : ByteArray) (w : World) (hs : t.size ≤ 9223372036854775807) (hm : Ml w) (h1 : isR t [32] 0 = true) (R : Int × Int × Int × Int) (hR : momR t (placeS t [43, 45] (oneS t [32] (secondS t (hourMinuteS t (oneS t [32] (monthYearS t [45] (dayN t 1 (oneS t [32] s00)))))))) = R) :
    Calls Tryd.prog 20 #[.string t] w fun e w' => e = .returned (momV R) ∧ Below w.heap.size w w' := by
  obtain ⟨W0, hW0⟩ : ∃ W0, (w.alloc (.cells #[.int .i64 0, .int .i64 0] 35)).alloc (.cells (cellsS t s00) 51) = W0 := ⟨_, rfl⟩
  have hB : Below w.heap.size w W0 := by rw [← hW0]; exact bal (bal (Below.refl _ _) _) _
  have P0 : PK (w.heap.size + 1) w.heap.size t 35 #[.int .i64 0, .int .i64 0] w W0 s00 := by
    refine ⟨?_, ?_, Fr.of_below _ hB, hm.below hB⟩
    · rw [← hW0]; have := heap_alloc_new (w.alloc (.cells #[.int .i64 0, .int .i64 0] 35)) (.cells (cellsS t s00) 51); rw [show (w.alloc (.cells #[.int .i64 0, .int .i64 0] 35)).heap.size = w.heap.size + 1 by simp] at this; exact this
    · have h1 : (w.alloc (.cells #[.int .i64 0, .int .i64 0] 35)).heap[w.heap.size]? = some (.cells #[.int .i64 0, .int .i64 0] 35 (0, 0)) := heap_alloc_new w _
      rw [← hW0]; exact ((Below.heap_alloc _ _ _ (Array.getElem?_eq_some_iff.1 h1).1).trans h1)
  have hBb : w.heap.size ≠ w.heap.size + 1 := by omega
  have hbb : w.heap.size ≤ w.heap.size + 1 := by omega
  have HW0 : Hid ((w.alloc (.cells #[.int .i64 0, .int .i64 0] 35)).alloc (.cells #[.string t, .int .i64 0, .int .i64 0, .int .i64 0, .int .i64 0, .int .i64 0, .bool false, .int .i64 0, .int .i64 0, .int .i64 0] 51) = W0) := Lib.hid hW0
  have HP0 := Lib.hid P0
  have k0 : Ok t s00 := ⟨Nat.zero_le _, hs⟩
  have z0 : s00.zone = 0 := rfl
  clear hB P0 hm hs hW0
  have HI0 := Lib.hid (fun (w1 : World) (h : StAt w1 (w.heap.size + 1) t s00) (hm : Ml w1) => is_S ⟨#[32]⟩ true h k0 (by exact h1))
  have H0 := Lib.hid (fun (w1 : World) (h : StAt w1 (w.heap.size + 1) t s00) (hm : Ml w1) => one_S ⟨#[32]⟩ h k0 (by show 1 ≤ _; omega))
  rw [show (⟨#[32]⟩ : ByteArray).data.toList = [32] from rfl] at H0
  have k1 := oneS_ok (g := [32]) k0
  have z1 : (oneS t [32] s00).zone = 0 := z0
  generalize oneV t [32] s00 = v1 at *
  generalize oneS t [32] s00 = s1 at *
  have H1 := Lib.hid (fun (w1 : World) (h : StAt w1 (w.heap.size + 1) t s1) (hm : Ml w1) => num_S 1 h k1 hm (by omega))
  have hset : Hid (∀ w1, PK (w.heap.size + 1) w.heap.size t 35 #[.int .i64 0, .int .i64 0] w w1 (numS t 1 s1) → PK (w.heap.size + 1) w.heap.size t 35 #[.int .i64 0, .int .i64 0] w (w1.setCell ⟨(w.heap.size + 1), 5, none⟩ (.int .i64 (numV t 1 s1))) (dayN t 1 s1)) := Lib.hid (fun w1 p => p.set6 hBb hbb 5 _ rfl)
  have k2 := dayN_ok (k := 1) k1
  have z2 : (dayN t 1 s1).zone = 0 := z1
  generalize numV t 1 s1 = vw at *
  generalize numS t 1 s1 = sw at *
  generalize dayN t 1 s1 = s2 at *
  have H2 := Lib.hid (fun (w1 : World) (h : StAt w1 (w.heap.size + 1) t s2) (hm : Ml w1) => monthYear_any (w.heap.size + 1) t ⟨#[45]⟩ s2 w1 h k2 hm (by show 1 ≤ _; omega))
  rw [show (⟨#[45]⟩ : ByteArray).data.toList = [45] from rfl] at H2
  have k3 := monthYear_ok (g := [45]) k2
  have z3 : (monthYearS t [45] s2).zone = 0 := z2
  generalize monthYearS t [45] s2 = s3 at *
  have H3 := Lib.hid (fun (w1 : World) (h : StAt w1 (w.heap.size + 1) t s3) (hm : Ml w1) => one_S ⟨#[32]⟩ h k3 (by show 1 ≤ _; omega))
  rw [show (⟨#[32]⟩ : ByteArray).data.toList = [32] from rfl] at H3
  have k4 := oneS_ok (g := [32]) k3
  have z4 : (oneS t [32] s3).zone = 0 := z3
  generalize oneV t [32] s3 = v4 at *
  generalize oneS t [32] s3 = s4 at *
  have H4 := Lib.hid (fun (w1 : World) (h : StAt w1 (w.heap.size + 1) t s4) (hm : Ml w1) => hourMinute_any (w.heap.size + 1) t s4 w1 h k4 hm)
  have k5 := hourMinute_ok k4
  have z5 : (hourMinuteS t s4).zone = 0 := z4
  have c5 := hourMinute_clock t s4
  generalize hourMinuteS t s4 = s5 at *
  have H5 := Lib.hid (fun (w1 : World) (h : StAt w1 (w.heap.size + 1) t s5) (hm : Ml w1) => second_any (w.heap.size + 1) t s5 w1 h k5 hm (by omega) (by omega))
  have k6 := second_ok k5
  have z6 : (secondS t s5).zone = 0 := z5
  have c6 := second_clock t s5
  generalize secondS t s5 = s6 at *
  have H6 := Lib.hid (fun (w1 : World) (h : StAt w1 (w.heap.size + 1) t s6) (hm : Ml w1) => one_S ⟨#[32]⟩ h k6 (by show 1 ≤ _; omega))
  rw [show (⟨#[32]⟩ : ByteArray).data.toList = [32] from rfl] at H6
  have k7 := oneS_ok (g := [32]) k6
  have z7 : (oneS t [32] s6).zone = 0 := z6
  have c7 : (oneS t [32] s6).clock = s6.clock := rfl
  generalize oneV t [32] s6 = v7 at *
  generalize oneS t [32] s6 = s7 at *
  have H7 := Lib.hid (fun (w1 : World) (h : StAt w1 (w.heap.size + 1) t s7) (hm : Ml w1) => place_any (w.heap.size + 1) t ⟨#[43, 45]⟩ s7 w1 h k7 hm (by first | exact Or.inl rfl | exact Or.inr rfl))
  rw [show (⟨#[43, 45]⟩ : ByteArray).data.toList = [43, 45] from rfl] at H7
  have k8 := place_ok (g := [43, 45]) k7
  have z8 := place_zone t [43, 45] s7 z7
  have c8 := place_clock t [43, 45] s7
  generalize placeS t [43, 45] s7 = s8 at *
  have HMo := Lib.hid (fun (w1 : World) (h : StAt w1 (w.heap.size + 1) t s8) => moment_any (w.heap.size + 1) t s8 w1 h k8 (by omega) (by omega) (by omega) (by omega) R hR)
  clear hR
  go_enter Tryd.func20, Tryd.ntmps20
  go_wp2_with fail
  rw [HW0.out]
  go_wp2_with fail
  refine (HI0.out _ HP0.out.st HP0.out.ml).mono ?_
  rintro e wi0 ⟨rfl, h1, f1⟩
  have PI0 := Lib.hid (HP0.out.step hBb hbb h1 f1)
  clear h1 f1
  go_wp2_with fail
  refine (H0.out _ PI0.out.st PI0.out.ml).mono ?_
  rintro e w1 ⟨rfl, h1, f1⟩
  have P1 := Lib.hid (PI0.out.step hBb hbb h1 f1)
  clear h1 f1
  go_wp2_with fail
  refine (H1.out _ P1.out.st P1.out.ml).mono ?_
  rintro e w2 ⟨rfl, h1, f1⟩
  have pw := P1.out.step hBb hbb h1 f1
  have n5 : w2.cell? ⟨w.heap.size + 1, 5, none⟩ = some (.int .i64 sw.day) := h1.c 5
  have m5 := h1.f 5
  have P2 := Lib.hid (hset.out _ pw)
  clear h1 f1 pw
  go_wp2_with fail
  clear n5 m5
  generalize w2.setCell ⟨w.heap.size + 1, 5, none⟩ (.int .i64 vw) = wz2 at *
  refine (H2.out _ P2.out.st P2.out.ml).mono ?_
  rintro e w3 ⟨rfl, h1, f1⟩
  have P3 := Lib.hid (P2.out.step hBb hbb h1 f1)
  clear h1 f1
  go_wp2_with fail
  refine (H3.out _ P3.out.st P3.out.ml).mono ?_
  rintro e w4 ⟨rfl, h1, f1⟩
  have P4 := Lib.hid (P3.out.step hBb hbb h1 f1)
  clear h1 f1
  go_wp2_with fail
  refine (H4.out _ P4.out.st P4.out.ml).mono ?_
  rintro e w5 ⟨rfl, h1, f1⟩
  have P5 := Lib.hid (P4.out.step hBb hbb h1 f1)
  clear h1 f1
  go_wp2_with fail
  refine (H5.out _ P5.out.st P5.out.ml).mono ?_
  rintro e w6 ⟨rfl, h1, f1⟩
  have P6 := Lib.hid (P5.out.step hBb hbb h1 f1)
  clear h1 f1
  go_wp2_with fail
  refine (H6.out _ P6.out.st P6.out.ml).mono ?_
  rintro e w7 ⟨rfl, h1, f1⟩
  have P7 := Lib.hid (P6.out.step hBb hbb h1 f1)
  clear h1 f1
  go_wp2_with fail
  refine (H7.out _ P7.out.st P7.out.ml).mono ?_
  rintro e w8 ⟨rfl, h1, f1⟩
  have P8 := Lib.hid (P7.out.step hBb hbb h1 f1)
  clear h1 f1
  go_wp2_with fail
  refine (HMo.out _ P8.out.st).mono ?_
  rintro e wr ⟨rfl, fr⟩
  obtain ⟨r1, r2, r3, r4⟩ := R
  have hrow : wr.heap[w.heap.size]? = some (.cells #[.int .i64 0, .int .i64 0] 35 (0, 0)) := (fr.block _ (Array.getElem?_eq_some_iff.1 P8.out.row).1 hBb).trans P8.out.row
  have q0 : wr.cell? ⟨w.heap.size, 0, none⟩ = some (.int .i64 0) := cell_of_row _ _ _ _ _ _ hrow
  have q1 : wr.cell? ⟨w.heap.size, 1, none⟩ = some (.int .i64 0) := cell_of_row _ _ _ _ _ _ hrow
  have p0 : wr.frozen? ⟨w.heap.size, 0, none⟩ = false := frozen_of_row _ _ _ _ _ hrow
  have p1 : wr.frozen? ⟨w.heap.size, 1, none⟩ = false := frozen_of_row _ _ _ _ _ hrow
  have hbl : Below w.heap.size w wr := (P8.out.fr.trans (o'' := fun k => w.heap.size ≤ k) fr (fun _ _ h => h) (fun k _ e => by have e' : k = w.heap.size + 1 := e; omega)).below (Nat.le_refl _) (fun k e => e)
  have HBL := Lib.hid hbl
  clear hrow hbl fr
  simp only [momV, timeV]
  go_wp2
  exact bodyPost_ret (v := .tuple #[.agg #[.int .i64 r1, .int .i64 r2], .int .i64 r3, .int .i64 r4]) (by simp [results, Tryd.results20, go_sem, q0, q1]) rfl ⟨rfl, (HBL.out.setCell (Nat.le_refl _) _).setCell (Nat.le_refl _) _⟩
set_option maxRecDepth 100000 in
set_option maxHeartbeats 2000000 in
theorem short_0 (t : ByteArray) (w : World) (hs : t.size ≤ 9223372036854775807) (hm : Ml w) (h1 : isR t [32] 0 = false) (R : Int × Int × Int × Int) (hR : momR t (placeS t [43, 45] (oneS t [32] (secondS t (hourMinuteS t (oneS t [32] (monthYearS t [45] (dayN t 2 s00))))))) = R) :
    Calls Tryd.prog 20 #[.string t] w fun e w' => e = .returned (momV R) ∧ Below w.heap.size w w' := by
  obtain ⟨W0, hW0⟩ : ∃ W0, (w.alloc (.cells #[.int .i64 0, .int .i64 0] 35)).alloc (.cells (cellsS t s00) 51) = W0 := ⟨_, rfl⟩
  have hB : Below w.heap.size w W0 := by rw [← hW0]; exact bal (bal (Below.refl _ _) _) _
  have P0 : PK (w.heap.size + 1) w.heap.size t 35 #[.int .i64 0, .int .i64 0] w W0 s00 := by
    refine ⟨?_, ?_, Fr.of_below _ hB, hm.below hB⟩
    · rw [← hW0]; have := heap_alloc_new (w.alloc (.cells #[.int .i64 0, .int .i64 0] 35)) (.cells (cellsS t s00) 51); rw [show (w.alloc (.cells #[.int .i64 0, .int .i64 0] 35)).heap.size = w.heap.size + 1 by simp] at this; exact this
    · have h1 : (w.alloc (.cells #[.int .i64 0, .int .i64 0] 35)).heap[w.heap.size]? = some (.cells #[.int .i64 0, .int .i64 0] 35 (0, 0)) := heap_alloc_new w _
      rw [← hW0]; exact ((Below.heap_alloc _ _ _ (Array.getElem?_eq_some_iff.1 h1).1).trans h1)
  have hBb : w.heap.size ≠ w.heap.size + 1 := by omega
  have hbb : w.heap.size ≤ w.heap.size + 1 := by omega
  have HW0 : Hid ((w.alloc (.cells #[.int .i64 0, .int .i64 0] 35)).alloc (.cells #[.string t, .int .i64 0, .int .i64 0, .int .i64 0, .int .i64 0, .int .i64 0, .bool false, .int .i64 0, .int .i64 0, .int .i64 0] 51) = W0) := Lib.hid hW0
  have HP0 := Lib.hid P0
  have k0 : Ok t s00 := ⟨Nat.zero_le _, hs⟩
  have z0 : s00.zone = 0 := rfl
  clear hB P0 hm hs hW0
  have HI0 := Lib.hid (fun (w1 : World) (h : StAt w1 (w.heap.size + 1) t s00) (hm : Ml w1) => is_S ⟨#[32]⟩ false h k0 (by exact h1))
  have H0 := Lib.hid (fun (w1 : World) (h : StAt w1 (w.heap.size + 1) t s00) (hm : Ml w1) => num_S 2 h k0 hm (by omega))
  have hset : Hid (∀ w1, PK (w.heap.size + 1) w.heap.size t 35 #[.int .i64 0, .int .i64 0] w w1 (numS t 2 s00) → PK (w.heap.size + 1) w.heap.size t 35 #[.int .i64 0, .int .i64 0] w (w1.setCell ⟨(w.heap.size + 1), 5, none⟩ (.int .i64 (numV t 2 s00))) (dayN t 2 s00)) := Lib.hid (fun w1 p => p.set6 hBb hbb 5 _ rfl)
  have k1 := dayN_ok (k := 2) k0
  have z1 : (dayN t 2 s00).zone = 0 := z0
  generalize numV t 2 s00 = vw at *
  generalize numS t 2 s00 = sw at *
  generalize dayN t 2 s00 = s1 at *
  have H1 := Lib.hid (fun (w1 : World) (h : StAt w1 (w.heap.size + 1) t s1) (hm : Ml w1) => monthYear_any (w.heap.size + 1) t ⟨#[45]⟩ s1 w1 h k1 hm (by show 1 ≤ _; omega))
  rw [show (⟨#[45]⟩ : ByteArray).data.toList = [45] from rfl] at H1
  have k2 := monthYear_ok (g := [45]) k1
  have z2 : (monthYearS t [45] s1).zone = 0 := z1
  generalize monthYearS t [45] s1 = s2 at *
  have H2 := Lib.hid (fun (w1 : World) (h : StAt w1 (w.heap.size + 1) t s2) (hm : Ml w1) => one_S ⟨#[32]⟩ h k2 (by show 1 ≤ _; omega))
  rw [show (⟨#[32]⟩ : ByteArray).data.toList = [32] from rfl] at H2
  have k3 := oneS_ok (g := [32]) k2
  have z3 : (oneS t [32] s2).zone = 0 := z2
  generalize oneV t [32] s2 = v3 at *
  generalize oneS t [32] s2 = s3 at *
  have H3 := Lib.hid (fun (w1 : World) (h : StAt w1 (w.heap.size + 1) t s3) (hm : Ml w1) => hourMinute_any (w.heap.size + 1) t s3 w1 h k3 hm)
  have k4 := hourMinute_ok k3
  have z4 : (hourMinuteS t s3).zone = 0 := z3
  have c4 := hourMinute_clock t s3
  generalize hourMinuteS t s3 = s4 at *
  have H4 := Lib.hid (fun (w1 : World) (h : StAt w1 (w.heap.size + 1) t s4) (hm : Ml w1) => second_any (w.heap.size + 1) t s4 w1 h k4 hm (by omega) (by omega))
  have k5 := second_ok k4
  have z5 : (secondS t s4).zone = 0 := z4
  have c5 := second_clock t s4
  generalize secondS t s4 = s5 at *
  have H5 := Lib.hid (fun (w1 : World) (h : StAt w1 (w.heap.size + 1) t s5) (hm : Ml w1) => one_S ⟨#[32]⟩ h k5 (by show 1 ≤ _; omega))
  rw [show (⟨#[32]⟩ : ByteArray).data.toList = [32] from rfl] at H5
  have k6 := oneS_ok (g := [32]) k5
  have z6 : (oneS t [32] s5).zone = 0 := z5
  have c6 : (oneS t [32] s5).clock = s5.clock := rfl
  generalize oneV t [32] s5 = v6 at *
  generalize oneS t [32] s5 = s6 at *
  have H6 := Lib.hid (fun (w1 : World) (h : StAt w1 (w.heap.size + 1) t s6) (hm : Ml w1) => place_any (w.heap.size + 1) t ⟨#[43, 45]⟩ s6 w1 h k6 hm (by first | exact Or.inl rfl | exact Or.inr rfl))
  rw [show (⟨#[43, 45]⟩ : ByteArray).data.toList = [43, 45] from rfl] at H6
  have k7 := place_ok (g := [43, 45]) k6
  have z7 := place_zone t [43, 45] s6 z6
  have c7 := place_clock t [43, 45] s6
  generalize placeS t [43, 45] s6 = s7 at *
  have HMo := Lib.hid (fun (w1 : World) (h : StAt w1 (w.heap.size + 1) t s7) => moment_any (w.heap.size + 1) t s7 w1 h k7 (by omega) (by omega) (by omega) (by omega) R hR)
  clear hR
  go_enter Tryd.func20, Tryd.ntmps20
  go_wp2_with fail
  rw [HW0.out]
  go_wp2_with fail
  refine (HI0.out _ HP0.out.st HP0.out.ml).mono ?_
  rintro e wi0 ⟨rfl, h1, f1⟩
  have PI0 := Lib.hid (HP0.out.step hBb hbb h1 f1)
  clear h1 f1
  go_wp2_with fail
  refine (H0.out _ PI0.out.st PI0.out.ml).mono ?_
  rintro e w1 ⟨rfl, h1, f1⟩
  have pw := PI0.out.step hBb hbb h1 f1
  have n5 : w1.cell? ⟨w.heap.size + 1, 5, none⟩ = some (.int .i64 sw.day) := h1.c 5
  have m5 := h1.f 5
  have P1 := Lib.hid (hset.out _ pw)
  clear h1 f1 pw
  go_wp2_with fail
  clear n5 m5
  generalize w1.setCell ⟨w.heap.size + 1, 5, none⟩ (.int .i64 vw) = wz1 at *
  refine (H1.out _ P1.out.st P1.out.ml).mono ?_
  rintro e w2 ⟨rfl, h1, f1⟩
  have P2 := Lib.hid (P1.out.step hBb hbb h1 f1)
  clear h1 f1
  go_wp2_with fail
  refine (H2.out _ P2.out.st P2.out.ml).mono ?_
  rintro e w3 ⟨rfl, h1, f1⟩
  have P3 := Lib.hid (P2.out.step hBb hbb h1 f1)
  clear h1 f1
  go_wp2_with fail
  refine (H3.out _ P3.out.st P3.out.ml).mono ?_
  rintro e w4 ⟨rfl, h1, f1⟩
  have P4 := Lib.hid (P3.out.step hBb hbb h1 f1)
  clear h1 f1
  go_wp2_with fail
  refine (H4.out _ P4.out.st P4.out.ml).mono ?_
  rintro e w5 ⟨rfl, h1, f1⟩
  have P5 := Lib.hid (P4.out.step hBb hbb h1 f1)
  clear h1 f1
  go_wp2_with fail
  refine (H5.out _ P5.out.st P5.out.ml).mono ?_
  rintro e w6 ⟨rfl, h1, f1⟩
  have P6 := Lib.hid (P5.out.step hBb hbb h1 f1)
  clear h1 f1
  go_wp2_with fail
  refine (H6.out _ P6.out.st P6.out.ml).mono ?_
  rintro e w7 ⟨rfl, h1, f1⟩
  have P7 := Lib.hid (P6.out.step hBb hbb h1 f1)
  clear h1 f1
  go_wp2_with fail
  refine (HMo.out _ P7.out.st).mono ?_
  rintro e wr ⟨rfl, fr⟩
  obtain ⟨r1, r2, r3, r4⟩ := R
  have hrow : wr.heap[w.heap.size]? = some (.cells #[.int .i64 0, .int .i64 0] 35 (0, 0)) := (fr.block _ (Array.getElem?_eq_some_iff.1 P7.out.row).1 hBb).trans P7.out.row
  have q0 : wr.cell? ⟨w.heap.size, 0, none⟩ = some (.int .i64 0) := cell_of_row _ _ _ _ _ _ hrow
  have q1 : wr.cell? ⟨w.heap.size, 1, none⟩ = some (.int .i64 0) := cell_of_row _ _ _ _ _ _ hrow
  have p0 : wr.frozen? ⟨w.heap.size, 0, none⟩ = false := frozen_of_row _ _ _ _ _ hrow
  have p1 : wr.frozen? ⟨w.heap.size, 1, none⟩ = false := frozen_of_row _ _ _ _ _ hrow
  have hbl : Below w.heap.size w wr := (P7.out.fr.trans (o'' := fun k => w.heap.size ≤ k) fr (fun _ _ h => h) (fun k _ e => by have e' : k = w.heap.size + 1 := e; omega)).below (Nat.le_refl _) (fun k e => e)
  have HBL := Lib.hid hbl
  clear hrow hbl fr
  simp only [momV, timeV]
  go_wp2
  exact bodyPost_ret (v := .tuple #[.agg #[.int .i64 r1, .int .i64 r2], .int .i64 r3, .int .i64 r4]) (by simp [results, Tryd.results20, go_sem, q0, q1]) rfl ⟨rfl, (HBL.out.setCell (Nat.le_refl _) _).setCell (Nat.le_refl _) _⟩

theorem parseShort_any (t : ByteArray) (w : World) (hs : t.size ≤ 9223372036854775807) (hm : Ml w) (R : Int × Int × Int × Int) (hR : shortR t = R) :
    Calls Tryd.prog 20 #[.string t] w fun e w' => e = .returned (momV R) ∧ Below w.heap.size w w' := by
  unfold shortR shortS at hR
  cases h1 : isR t [32] 0 with
  | true => simp only [h1, if_true] at hR; exact short_1 t w hs hm h1 R hR
  | false => simp only [h1, Bool.false_eq_true, if_false] at hR; exact short_0 t w hs hm h1 R hR

def pdE (t : ByteArray) (s : Stp) : Int × Int × Int × Int × Int :=
  if stopE t s ≠ 0 then (0, 0, 0, s.at_, stopE t s) else if rt s.year s.month s.day = true then (s.year, s.month, s.day, 0, 0) else (0, 0, 0, 0, 2)
def pdR (t : ByteArray) : Int × Int × Int × Int × Int := pdE t (monthYearS t [45] (shortDayS t s00))
def pdV (r : Int × Int × Int × Int × Int) : Value := .tuple #[dayV r.1 r.2.1 r.2.2.1, .int .i64 r.2.2.2.1, .int .i64 r.2.2.2.2]
set_option maxRecDepth 100000 in
set_option maxHeartbeats 2000000 in
theorem parseDay_any (t : ByteArray) (w : World) (hs : t.size ≤ 9223372036854775807) (hm : Ml w) (R : Int × Int × Int × Int × Int) (hR : pdR t = R) :
    Calls Tryd.prog 22 #[.string t] w fun e w' => e = .returned (pdV R) ∧ Below w.heap.size w w' := by
  unfold pdR at hR
  obtain ⟨W0, hW0⟩ : ∃ W0, (w.alloc (.cells #[.int .i64 0, .int .i64 0, .int .i64 0] 23)).alloc (.cells (cellsS t s00) 51) = W0 := ⟨_, rfl⟩
  have hB : Below w.heap.size w W0 := by rw [← hW0]; exact bal (bal (Below.refl _ _) _) _
  have P0 : PK (w.heap.size + 1) w.heap.size t 23 #[.int .i64 0, .int .i64 0, .int .i64 0] w W0 s00 := by
    refine ⟨?_, ?_, Fr.of_below _ hB, hm.below hB⟩
    · rw [← hW0]; have := heap_alloc_new (w.alloc (.cells #[.int .i64 0, .int .i64 0, .int .i64 0] 23)) (.cells (cellsS t s00) 51); rw [show (w.alloc (.cells #[.int .i64 0, .int .i64 0, .int .i64 0] 23)).heap.size = w.heap.size + 1 by simp] at this; exact this
    · have h1 : (w.alloc (.cells #[.int .i64 0, .int .i64 0, .int .i64 0] 23)).heap[w.heap.size]? = some (.cells #[.int .i64 0, .int .i64 0, .int .i64 0] 23 (0, 0)) := heap_alloc_new w _
      rw [← hW0]; exact ((Below.heap_alloc _ _ _ (Array.getElem?_eq_some_iff.1 h1).1).trans h1)
  have hBb : w.heap.size ≠ w.heap.size + 1 := by omega
  have hbb : w.heap.size ≤ w.heap.size + 1 := by omega
  have HW0 : Hid ((w.alloc (.cells #[.int .i64 0, .int .i64 0, .int .i64 0] 23)).alloc (.cells #[.string t, .int .i64 0, .int .i64 0, .int .i64 0, .int .i64 0, .int .i64 0, .bool false, .int .i64 0, .int .i64 0, .int .i64 0] 51) = W0) := Lib.hid hW0
  have HP0 := Lib.hid P0
  have k0 : Ok t s00 := ⟨Nat.zero_le _, hs⟩
  have z0 : s00.zone = 0 := rfl
  clear hB P0 hm hs hW0
  have H0 := Lib.hid (fun (w1 : World) (h : StAt w1 (w.heap.size + 1) t s00) (hm : Ml w1) => shortDay_any (w.heap.size + 1) t s00 w1 h k0.1 k0.2 hm _ rfl)
  have k1 := shortDay_ok k0
  have z1 : (shortDayS t s00).zone = 0 := (shortDay_zone t s00).trans z0
  generalize shortDayS t s00 = s1 at *
  have H1 := Lib.hid (fun (w1 : World) (h : StAt w1 (w.heap.size + 1) t s1) (hm : Ml w1) => monthYear_any (w.heap.size + 1) t ⟨#[45]⟩ s1 w1 h k1 hm (by show 1 ≤ _; omega))
  rw [show (⟨#[45]⟩ : ByteArray).data.toList = [45] from rfl] at H1
  have k2 := monthYear_ok (g := [45]) k1
  have z2 : (monthYearS t [45] s1).zone = 0 := z1
  generalize monthYearS t [45] s1 = s2 at *
  have HE := Lib.hid (fun (w1 : World) (h : StAt w1 (w.heap.size + 1) t s2) => end_any (w.heap.size + 1) t s2 w1 h k2.1 k2.2)
  rw [show (if s2.at_ < t.size then (4 : Int) else s2.stop) = stopE t s2 from rfl] at HE
  unfold pdE at hR
  generalize stopE t s2 = st at *
  by_cases hst : st = 0
  · rw [if_neg (by simpa using hst)] at hR
    subst hst
    cases hrt : rt s2.year s2.month s2.day with
    | false =>
      rw [hrt, if_neg (by decide)] at hR
      have HD := Lib.hid (fun (w : World) => days_no s2.year s2.month s2.day w hrt)
      unfold dayV at HD
      subst hR
      clear hrt
      go_enter Tryd.func22, Tryd.ntmps22
      go_wp2_with fail
      rw [HW0.out]
      go_wp2_with fail
      refine (H0.out _ HP0.out.st HP0.out.ml).mono ?_
      rintro e w1 ⟨rfl, h1, f1⟩
      have P1 := Lib.hid (HP0.out.step hBb hbb h1 f1)
      clear h1 f1
      go_wp2_with fail
      refine (H1.out _ P1.out.st P1.out.ml).mono ?_
      rintro e w2 ⟨rfl, h1, f1⟩
      have P2 := Lib.hid (P1.out.step hBb hbb h1 f1)
      clear h1 f1
      go_wp2_with fail
      refine (HE.out _ P2.out.st).mono ?_
      rintro e we ⟨rfl, h1, f1⟩
      have PE := Lib.hid (P2.out.step hBb hbb h1 f1)
      clear h1 f1
      have c3 : we.cell? ⟨w.heap.size + 1, 3, none⟩ = some (.int .i64 s2.year) := PE.out.st.c 3
      have c4 : we.cell? ⟨w.heap.size + 1, 4, none⟩ = some (.int .i64 s2.month) := PE.out.st.c 4
      have c5 : we.cell? ⟨w.heap.size + 1, 5, none⟩ = some (.int .i64 s2.day) := PE.out.st.c 5
      go_wp2_with fail
      refine (HD.out _).mono ?_
      rintro e wr ⟨rfl, hb⟩
      have PR := Lib.hid (PE.out.step hBb hbb (PE.out.st.below hb) (Fr.of_below _ hb))
      have HBL := Lib.hid (PR.out.fr.below (Nat.le_refl _) (fun k e => e))
      clear c3 c4 c5 hb
      have q0 : wr.cell? ⟨w.heap.size, 0, none⟩ = some (.int .i64 0) := cell_of_row _ _ _ _ _ _ PR.out.row
      have q1 : wr.cell? ⟨w.heap.size, 1, none⟩ = some (.int .i64 0) := cell_of_row _ _ _ _ _ _ PR.out.row
      have q2 : wr.cell? ⟨w.heap.size, 2, none⟩ = some (.int .i64 0) := cell_of_row _ _ _ _ _ _ PR.out.row
      have p0 : wr.frozen? ⟨w.heap.size, 0, none⟩ = false := frozen_of_row _ _ _ _ _ PR.out.row
      have p1 : wr.frozen? ⟨w.heap.size, 1, none⟩ = false := frozen_of_row _ _ _ _ _ PR.out.row
      have p2 : wr.frozen? ⟨w.heap.size, 2, none⟩ = false := frozen_of_row _ _ _ _ _ PR.out.row
      try dsimp only
      go_wp2
      exact bodyPost_ret (v := .tuple #[.agg #[.int .i64 0, .int .i64 0, .int .i64 0], .int .i64 0, .int .i64 2]) (by simp [results, Tryd.results22, go_sem, q0, q1, q2]) rfl ⟨rfl, ((HBL.out.setCell (Nat.le_refl _) _).setCell (Nat.le_refl _) _).setCell (Nat.le_refl _) _⟩

    | true =>
      rw [hrt, if_pos rfl] at hR
      have HD := Lib.hid (fun (w : World) => days_yes s2.year s2.month s2.day w hrt)
      unfold dayV at HD
      subst hR
      clear hrt
      go_enter Tryd.func22, Tryd.ntmps22
      go_wp2_with fail
      rw [HW0.out]
      go_wp2_with fail
      refine (H0.out _ HP0.out.st HP0.out.ml).mono ?_
      rintro e w1 ⟨rfl, h1, f1⟩
      have P1 := Lib.hid (HP0.out.step hBb hbb h1 f1)
      clear h1 f1
      go_wp2_with fail
      refine (H1.out _ P1.out.st P1.out.ml).mono ?_
      rintro e w2 ⟨rfl, h1, f1⟩
      have P2 := Lib.hid (P1.out.step hBb hbb h1 f1)
      clear h1 f1
      go_wp2_with fail
      refine (HE.out _ P2.out.st).mono ?_
      rintro e we ⟨rfl, h1, f1⟩
      have PE := Lib.hid (P2.out.step hBb hbb h1 f1)
      clear h1 f1
      have c3 : we.cell? ⟨w.heap.size + 1, 3, none⟩ = some (.int .i64 s2.year) := PE.out.st.c 3
      have c4 : we.cell? ⟨w.heap.size + 1, 4, none⟩ = some (.int .i64 s2.month) := PE.out.st.c 4
      have c5 : we.cell? ⟨w.heap.size + 1, 5, none⟩ = some (.int .i64 s2.day) := PE.out.st.c 5
      go_wp2_with fail
      refine (HD.out _).mono ?_
      rintro e wr ⟨rfl, hb⟩
      have PR := Lib.hid (PE.out.step hBb hbb (PE.out.st.below hb) (Fr.of_below _ hb))
      have HBL := Lib.hid (PR.out.fr.below (Nat.le_refl _) (fun k e => e))
      clear c3 c4 c5 hb
      have c3 : wr.cell? ⟨w.heap.size + 1, 3, none⟩ = some (.int .i64 s2.year) := PR.out.st.c 3
      have c4 : wr.cell? ⟨w.heap.size + 1, 4, none⟩ = some (.int .i64 s2.month) := PR.out.st.c 4
      have c5 : wr.cell? ⟨w.heap.size + 1, 5, none⟩ = some (.int .i64 s2.day) := PR.out.st.c 5
      have q0 : wr.cell? ⟨w.heap.size, 0, none⟩ = some (.int .i64 0) := cell_of_row _ _ _ _ _ _ PR.out.row
      have q1 : wr.cell? ⟨w.heap.size, 1, none⟩ = some (.int .i64 0) := cell_of_row _ _ _ _ _ _ PR.out.row
      have q2 : wr.cell? ⟨w.heap.size, 2, none⟩ = some (.int .i64 0) := cell_of_row _ _ _ _ _ _ PR.out.row
      have p0 : wr.frozen? ⟨w.heap.size, 0, none⟩ = false := frozen_of_row _ _ _ _ _ PR.out.row
      have p1 : wr.frozen? ⟨w.heap.size, 1, none⟩ = false := frozen_of_row _ _ _ _ _ PR.out.row
      have p2 : wr.frozen? ⟨w.heap.size, 2, none⟩ = false := frozen_of_row _ _ _ _ _ PR.out.row
      try dsimp only
      go_wp2
      exact bodyPost_ret (v := .tuple #[.agg #[.int .i64 s2.year, .int .i64 s2.month, .int .i64 s2.day], .int .i64 0, .int .i64 0]) (by simp [results, Tryd.results22, go_sem, q0, q1, q2]) rfl ⟨rfl, ((HBL.out.setCell (Nat.le_refl _) _).setCell (Nat.le_refl _) _).setCell (Nat.le_refl _) _⟩

  · rw [if_pos (by simpa using hst)] at hR
    subst hR
    have hx : (st != 0) = true := by simpa using hst
    clear hst
    go_enter Tryd.func22, Tryd.ntmps22
    go_wp2_with fail
    rw [HW0.out]
    go_wp2_with fail
    refine (H0.out _ HP0.out.st HP0.out.ml).mono ?_
    rintro e w1 ⟨rfl, h1, f1⟩
    have P1 := Lib.hid (HP0.out.step hBb hbb h1 f1)
    clear h1 f1
    go_wp2_with fail
    refine (H1.out _ P1.out.st P1.out.ml).mono ?_
    rintro e w2 ⟨rfl, h1, f1⟩
    have P2 := Lib.hid (P1.out.step hBb hbb h1 f1)
    clear h1 f1
    go_wp2_with fail
    refine (HE.out _ P2.out.st).mono ?_
    rintro e wr ⟨rfl, h1, f1⟩
    have PE := Lib.hid (P2.out.step hBb hbb h1 f1)
    clear h1 f1
    have HBL := Lib.hid (PE.out.fr.below (Nat.le_refl _) (fun k e => e))
    have q0 : wr.cell? ⟨w.heap.size, 0, none⟩ = some (.int .i64 0) := cell_of_row _ _ _ _ _ _ PE.out.row
    have q1 : wr.cell? ⟨w.heap.size, 1, none⟩ = some (.int .i64 0) := cell_of_row _ _ _ _ _ _ PE.out.row
    have q2 : wr.cell? ⟨w.heap.size, 2, none⟩ = some (.int .i64 0) := cell_of_row _ _ _ _ _ _ PE.out.row
    have p0 : wr.frozen? ⟨w.heap.size, 0, none⟩ = false := frozen_of_row _ _ _ _ _ PE.out.row
    have p1 : wr.frozen? ⟨w.heap.size, 1, none⟩ = false := frozen_of_row _ _ _ _ _ PE.out.row
    have p2 : wr.frozen? ⟨w.heap.size, 2, none⟩ = false := frozen_of_row _ _ _ _ _ PE.out.row
    try dsimp only
    go_wp2
    exact bodyPost_ret (v := .tuple #[.agg #[.int .i64 0, .int .i64 0, .int .i64 0], .int .i64 (s2.at_ : Int), .int .i64 st]) (by simp [results, Tryd.results22, go_sem, q0, q1, q2]) rfl ⟨rfl, ((HBL.out.setCell (Nat.le_refl _) _).setCell (Nat.le_refl _) _).setCell (Nat.le_refl _) _⟩
end Go.Proofs.YtkkmjadkagpihaaDoor
