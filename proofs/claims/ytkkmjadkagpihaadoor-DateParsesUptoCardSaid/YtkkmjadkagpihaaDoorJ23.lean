/- Date: Parse, ParseShort, ParseDay of the code. -/
import Derived.Test.YtkkmjadkagpihaaDoorJ22
namespace Go.Proofs.YtkkmjadkagpihaaDoor
open Go Go.RowKit

def s00 : Stp := ⟨0, 0, 0, 0, 0, false, 0, 0, 0⟩
def wk0 (t : ByteArray) (s : Stp) : Stp := { wordS t 7 weeksL s with weekly := true, week := wordV t 7 weeksL s }
theorem wk0_ok {t : ByteArray} {s : Stp} (h : Ok t s) : Ok t (wk0 t s) := wordS_ok h
theorem shortDay_ok {t : ByteArray} {s : Stp} (h : Ok t s) : Ok t (shortDayS t s) := by
  unfold shortDayS
  simp only
  have h1 := numR_le t 1 0 s.at_ s.stop h.1
  split
  · exact ⟨numR_le t 1 0 _ _ h1, h.2⟩
  · exact ⟨h1, h.2⟩
theorem shortDay_zone (t : ByteArray) (s : Stp) : (shortDayS t s).zone = s.zone := by unfold shortDayS; simp only; split <;> rfl
theorem shortDay_weekly (t : ByteArray) (s : Stp) : (shortDayS t s).weekly = s.weekly := by unfold shortDayS; simp only; split <;> rfl
theorem monthYear_ok {t : ByteArray} {g : List UInt8} {s : Stp} (h : Ok t s) : Ok t (monthYearS t g s) := numS_ok (oneS_ok (myS1_ok (oneS_ok h)))
theorem hourMinute_ok {t : ByteArray} {s : Stp} (h : Ok t s) : Ok t (hourMinuteS t s) := b60S_ok (oneS_ok (hmS1_ok h))
theorem second_ok {t : ByteArray} {s : Stp} (h : Ok t s) : Ok t (secondS t s) := b60S_ok (oneS_ok h)
theorem plus2_ok {t : ByteArray} {s : Stp} (h : Ok t s) : Ok t (plus2 t s) := b60S_ok (b24S_ok h)
theorem minus2_ok {t : ByteArray} {s : Stp} (h : Ok t s) : Ok t (minus2 t s) := b60S_ok (b24S_ok h)
theorem place_ok {t : ByteArray} {g : List UInt8} {s : Stp} (h : Ok t s) : Ok t (placeS t g s) := by
  unfold placeS
  have h1 := oneS_ok (g := g) h
  simp only
  split
  · exact plus2_ok h1
  · split
    · exact minus2_ok h1
    · split
      · exact oneS_ok (oneS_ok h1)
      · split
        · exact oneS_ok h1
        · exact h1
theorem hourMinute_clock (t : ByteArray) (s : Stp) : 0 ≤ (hourMinuteS t s).clock ∧ (hourMinuteS t s).clock ≤ 362340 := by
  have h1 := b24V_bd t s
  have h2 := b60V_bd t (oneS t [58] (hmS1 t s))
  show 0 ≤ 3600 * b24V t s + 60 * b60V t (oneS t [58] (hmS1 t s)) ∧ 3600 * b24V t s + 60 * b60V t (oneS t [58] (hmS1 t s)) ≤ 362340
  omega
theorem second_clock (t : ByteArray) (s : Stp) : s.clock ≤ (secondS t s).clock ∧ (secondS t s).clock ≤ s.clock + 99 := by
  have h2 := b60V_bd t (oneS t [58] s)
  show s.clock ≤ s.clock + b60V t (oneS t [58] s) ∧ s.clock + b60V t (oneS t [58] s) ≤ s.clock + 99
  omega
theorem place_clock (t : ByteArray) (g : List UInt8) (s : Stp) : (placeS t g s).clock = s.clock := by
  unfold placeS; simp only
  split
  · rfl
  · split
    · rfl
    · split
      · rfl
      · split <;> rfl
theorem place_zone (t : ByteArray) (g : List UInt8) (s : Stp) (h : s.zone = 0) : -1000000 ≤ (placeS t g s).zone ∧ (placeS t g s).zone ≤ 1000000 := by
  have hz : (oneS t g s).zone = s.zone := rfl
  have h1 := b24V_bd t (oneS t g s)
  have h2 := b60V_bd t (b24S t (oneS t g s))
  unfold placeS; simp only
  split
  · show -1000000 ≤ 60 * b24V t (oneS t g s) + b60V t (b24S t (oneS t g s)) ∧ 60 * b24V t (oneS t g s) + b60V t (b24S t (oneS t g s)) ≤ 1000000
    omega
  · split
    · show -1000000 ≤ -60 * b24V t (oneS t g s) - b60V t (b24S t (oneS t g s)) ∧ -60 * b24V t (oneS t g s) - b60V t (b24S t (oneS t g s)) ≤ 1000000
      omega
    · split
      · show -1000000 ≤ s.zone ∧ s.zone ≤ 1000000
        omega
      · split
        · show -1000000 ≤ s.zone ∧ s.zone ≤ 1000000
          omega
        · show -1000000 ≤ s.zone ∧ s.zone ≤ 1000000
          omega

/-- Where a parser stands: its stamp, the place of its result, and all else as it was. -/
structure PK (b B0 : Nat) (t : ByteArray) (T : TypeId) (Z : Array Value) (w w1 : World) (s : Stp) : Prop where
  st : StAt w1 b t s
  row : w1.heap[B0]? = some (.cells Z T (0, 0))
  fr : Fr (fun k => w.heap.size ≤ k) w w1
  ml : Ml w1
theorem PK.step {b B0 : Nat} {t : ByteArray} {T : TypeId} {Z : Array Value} {w w1 w2 : World} {s s2 : Stp} (h : PK b B0 t T Z w w1 s) (hB : B0 ≠ b) (hb : w.heap.size ≤ b) (hs : StAt w2 b t s2) (hf : Fr (· = b) w1 w2) : PK b B0 t T Z w w2 s2 :=
  ⟨hs, (hf.block _ (Array.getElem?_eq_some_iff.1 h.row).1 hB).trans h.row, h.fr.trans hf (fun _ _ h => h) (fun k _ e => by have e' : k = b := e; omega), h.ml.fr h.st hf⟩
theorem PK.set6 {b B0 : Nat} {t : ByteArray} {T : TypeId} {Z : Array Value} {w w1 : World} {s s2 : Stp} (h : PK b B0 t T Z w w1 s) (hB : B0 ≠ b) (hb : w.heap.size ≤ b) (j : Nat) (v : Value) (hv : (cellsS t s).setIfInBounds j v = cellsS t s2) : PK b B0 t T Z w (w1.setCell ⟨b, j, none⟩ v) s2 :=
  h.step hB hb (h.st.set j v hv) (StAt.fr j v)
set_option maxRecDepth 100000 in
set_option maxHeartbeats 2000000 in
theorem parse_11 (t : ByteArray) (w : World) (hs : t.size ≤ 9223372036854775807) (hm : Ml w) (h1 : isR t figL 0 = true) (h2 : isR t [58] (hourMinuteS t (oneS t [32] (monthYearS t [32] (shortDayS t (s00))))).at_ = true) (R : Int × Int × Int × Int) (hR : momR t (placeS t [43, 45, 71, 85] (oneS t [32] (secondS t (hourMinuteS t (oneS t [32] (monthYearS t [32] (shortDayS t (s00)))))))) = R) :
    Calls Tryd.prog 18 #[.string t] w fun e w' => e = .returned (momV R) ∧ Below w.heap.size w w' := by
  obtain ⟨W0, hW0⟩ : ∃ W0, (w.alloc (.cells #[.int .i64 0, .int .i64 0] 35)).alloc (.cells (cellsS t s00) 51) = W0 := ⟨_, rfl⟩
  have hB : Below w.heap.size w W0 := by rw [← hW0]; exact bal (bal (Below.refl _ _) _) _
  have P0 : PK (w.heap.size + 1) w.heap.size t 35 #[.int .i64 0, .int .i64 0] w W0 s00 := by
    refine ⟨?_, ?_, Fr.of_below _ hB, hm.below hB⟩
    · rw [← hW0]; have := heap_alloc_new (w.alloc (.cells #[.int .i64 0, .int .i64 0] 35)) (.cells (cellsS t s00) 51); rw [show (w.alloc (.cells #[.int .i64 0, .int .i64 0] 35)).heap.size = w.heap.size + 1 by simp] at this; exact this
    · have h1 : (w.alloc (.cells #[.int .i64 0, .int .i64 0] 35)).heap[w.heap.size]? = some (.cells #[.int .i64 0, .int .i64 0] 35 (0, 0)) := heap_alloc_new w _
      rw [← hW0]; exact ((Below.heap_alloc _ _ _ (Array.getElem?_eq_some_iff.1 h1).1).trans h1)
  have hBb : w.heap.size ≠ w.heap.size + 1 := by omega
  have hbb : w.heap.size ≤ w.heap.size + 1 := by omega
  have HW0 : Hid ((w.alloc (.cells #[.int .i64 0, .int .i64 0] 35)).alloc (.cells #[.string t, .int .i64 0, .int .i64 0, .int .i64 0, .int .i64 0, .int .i64 0, .bool false, .int .i64 0, .int .i64 0, .int .i64 0] 51) = W0) := Lib.hid hW0
  have HP0 := Lib.hid P0
  have k0 : Ok t s00 := ⟨Nat.zero_le _, hs⟩
  have z0 : s00.zone = 0 := rfl
  clear hB P0 hm hs hW0
  have HI0 := Lib.hid (fun (w1 : World) (h : StAt w1 (w.heap.size + 1) t s00) (hm : Ml w1) => is_S ⟨#[48, 49, 50, 51, 52, 53, 54, 55, 56, 57]⟩ true h k0 (by exact h1))
  have H0 := Lib.hid (fun (w1 : World) (h : StAt w1 (w.heap.size + 1) t s00) (hm : Ml w1) => shortDay_any (w.heap.size + 1) t s00 w1 h k0.1 k0.2 hm _ rfl)
  have k1 := shortDay_ok k0
  have z1 : (shortDayS t s00).zone = 0 := (shortDay_zone t s00).trans z0
  generalize shortDayS t s00 = s1 at *
  have H1 := Lib.hid (fun (w1 : World) (h : StAt w1 (w.heap.size + 1) t s1) (hm : Ml w1) => monthYear_any (w.heap.size + 1) t ⟨#[32]⟩ s1 w1 h k1 hm (by show 1 ≤ _; omega))
  rw [show (⟨#[32]⟩ : ByteArray).data.toList = [32] from rfl] at H1
  have k2 := monthYear_ok (g := [32]) k1
  have z2 : (monthYearS t [32] s1).zone = 0 := z1
  generalize monthYearS t [32] s1 = s2 at *
  have H2 := Lib.hid (fun (w1 : World) (h : StAt w1 (w.heap.size + 1) t s2) (hm : Ml w1) => one_S ⟨#[32]⟩ h k2 (by show 1 ≤ _; omega))
  rw [show (⟨#[32]⟩ : ByteArray).data.toList = [32] from rfl] at H2
  have k3 := oneS_ok (g := [32]) k2
  have z3 : (oneS t [32] s2).zone = 0 := z2
  generalize oneV t [32] s2 = v3 at *
  generalize oneS t [32] s2 = s3 at *
  have H3 := Lib.hid (fun (w1 : World) (h : StAt w1 (w.heap.size + 1) t s3) (hm : Ml w1) => hourMinute_any (w.heap.size + 1) t s3 w1 h k3 hm)
  have k4 := hourMinute_ok k3
  have z4 : (hourMinuteS t s3).zone = 0 := z3
  have c4 := hourMinute_clock t s3
  generalize hourMinuteS t s3 = s4 at *
  have HI4 := Lib.hid (fun (w1 : World) (h : StAt w1 (w.heap.size + 1) t s4) (hm : Ml w1) => is_S ⟨#[58]⟩ true h k4 (by exact h2))
  have H4 := Lib.hid (fun (w1 : World) (h : StAt w1 (w.heap.size + 1) t s4) (hm : Ml w1) => second_any (w.heap.size + 1) t s4 w1 h k4 hm (by omega) (by omega))
  have k5 := second_ok k4
  have z5 : (secondS t s4).zone = 0 := z4
  have c5 := second_clock t s4
  generalize secondS t s4 = s5 at *
  have H5 := Lib.hid (fun (w1 : World) (h : StAt w1 (w.heap.size + 1) t s5) (hm : Ml w1) => one_S ⟨#[32]⟩ h k5 (by show 1 ≤ _; omega))
  rw [show (⟨#[32]⟩ : ByteArray).data.toList = [32] from rfl] at H5
  have k6 := oneS_ok (g := [32]) k5
  have z6 : (oneS t [32] s5).zone = 0 := z5
  have c6 : (oneS t [32] s5).clock = s5.clock := rfl
  generalize oneV t [32] s5 = v6 at *
  generalize oneS t [32] s5 = s6 at *
  have H6 := Lib.hid (fun (w1 : World) (h : StAt w1 (w.heap.size + 1) t s6) (hm : Ml w1) => place_any (w.heap.size + 1) t ⟨#[43, 45, 71, 85]⟩ s6 w1 h k6 hm (by first | exact Or.inl rfl | exact Or.inr rfl))
  rw [show (⟨#[43, 45, 71, 85]⟩ : ByteArray).data.toList = [43, 45, 71, 85] from rfl] at H6
  have k7 := place_ok (g := [43, 45, 71, 85]) k6
  have z7 := place_zone t [43, 45, 71, 85] s6 z6
  have c7 := place_clock t [43, 45, 71, 85] s6
  generalize placeS t [43, 45, 71, 85] s6 = s7 at *
  have HMo := Lib.hid (fun (w1 : World) (h : StAt w1 (w.heap.size + 1) t s7) => moment_any (w.heap.size + 1) t s7 w1 h k7 (by omega) (by omega) (by omega) (by omega) R hR)
  clear hR
  go_enter Tryd.func18, Tryd.ntmps18
  go_wp2_with fail
  rw [HW0.out]
  go_wp2_with fail
  refine (HI0.out _ HP0.out.st HP0.out.ml).mono ?_
  rintro e wi0 ⟨rfl, h1, f1⟩
  have PI0 := Lib.hid (HP0.out.step hBb hbb h1 f1)
  clear h1 f1
  go_wp2_with fail
  refine (H0.out _ PI0.out.st PI0.out.ml).mono ?_
  rintro e w1 ⟨rfl, h1, f1⟩
  have P1 := Lib.hid (PI0.out.step hBb hbb h1 f1)
  clear h1 f1
  go_wp2_with fail
  refine (H1.out _ P1.out.st P1.out.ml).mono ?_
  rintro e w2 ⟨rfl, h1, f1⟩
  have P2 := Lib.hid (P1.out.step hBb hbb h1 f1)
  clear h1 f1
  go_wp2_with fail
  refine (H2.out _ P2.out.st P2.out.ml).mono ?_
  rintro e w3 ⟨rfl, h1, f1⟩
  have P3 := Lib.hid (P2.out.step hBb hbb h1 f1)
  clear h1 f1
  go_wp2_with fail
  refine (H3.out _ P3.out.st P3.out.ml).mono ?_
  rintro e w4 ⟨rfl, h1, f1⟩
  have P4 := Lib.hid (P3.out.step hBb hbb h1 f1)
  clear h1 f1
  go_wp2_with fail
  refine (HI4.out _ P4.out.st P4.out.ml).mono ?_
  rintro e wi4 ⟨rfl, h1, f1⟩
  have PI4 := Lib.hid (P4.out.step hBb hbb h1 f1)
  clear h1 f1
  go_wp2_with fail
  refine (H4.out _ PI4.out.st PI4.out.ml).mono ?_
  rintro e w5 ⟨rfl, h1, f1⟩
  have P5 := Lib.hid (PI4.out.step hBb hbb h1 f1)
  clear h1 f1
  go_wp2_with fail
  refine (H5.out _ P5.out.st P5.out.ml).mono ?_
  rintro e w6 ⟨rfl, h1, f1⟩
  have P6 := Lib.hid (P5.out.step hBb hbb h1 f1)
  clear h1 f1
  go_wp2_with fail
  refine (H6.out _ P6.out.st P6.out.ml).mono ?_
  rintro e w7 ⟨rfl, h1, f1⟩
  have P7 := Lib.hid (P6.out.step hBb hbb h1 f1)
  clear h1 f1
  go_wp2_with fail
  refine (HMo.out _ P7.out.st).mono ?_
  rintro e wr ⟨rfl, fr⟩
  obtain ⟨r1, r2, r3, r4⟩ := R
  have hrow : wr.heap[w.heap.size]? = some (.cells #[.int .i64 0, .int .i64 0] 35 (0, 0)) := (fr.block _ (Array.getElem?_eq_some_iff.1 P7.out.row).1 hBb).trans P7.out.row
  have q0 : wr.cell? ⟨w.heap.size, 0, none⟩ = some (.int .i64 0) := cell_of_row _ _ _ _ _ _ hrow
  have q1 : wr.cell? ⟨w.heap.size, 1, none⟩ = some (.int .i64 0) := cell_of_row _ _ _ _ _ _ hrow
  have p0 : wr.frozen? ⟨w.heap.size, 0, none⟩ = false := frozen_of_row _ _ _ _ _ hrow
  have p1 : wr.frozen? ⟨w.heap.size, 1, none⟩ = false := frozen_of_row _ _ _ _ _ hrow
  have hbl : Below w.heap.size w wr := (P7.out.fr.trans (o'' := fun k => w.heap.size ≤ k) fr (fun _ _ h => h) (fun k _ e => by have e' : k = w.heap.size + 1 := e; omega)).below (Nat.le_refl _) (fun k e => e)
  have HBL := Lib.hid hbl
  clear hrow hbl fr
  simp only [momV, timeV]
  go_wp2
  exact bodyPost_ret (v := .tuple #[.agg #[.int .i64 r1, .int .i64 r2], .int .i64 r3, .int .i64 r4]) (by simp [results, Tryd.results18, go_sem, q0, q1]) rfl ⟨rfl, (HBL.out.setCell (Nat.le_refl _) _).setCell (Nat.le_refl _) _⟩
set_option maxRecDepth 100000 in
set_option maxHeartbeats 2000000 in
theorem parse_10 (t : ByteArray) (w : World) (hs : t.size ≤ 9223372036854775807) (hm : Ml w) (h1 : isR t figL 0 = true) (h2 : isR t [58] (hourMinuteS t (oneS t [32] (monthYearS t [32] (shortDayS t (s00))))).at_ = false) (R : Int × Int × Int × Int) (hR : momR t (placeS t [43, 45, 71, 85] (oneS t [32] (hourMinuteS t (oneS t [32] (monthYearS t [32] (shortDayS t (s00))))))) = R) :
    Calls Tryd.prog 18 #[.string t] w fun e w' => e = .returned (momV R) ∧ Below w.heap.size w w' := by
  obtain ⟨W0, hW0⟩ : ∃ W0, (w.alloc (.cells #[.int .i64 0, .int .i64 0] 35)).alloc (.cells (cellsS t s00) 51) = W0 := ⟨_, rfl⟩
  have hB : Below w.heap.size w W0 := by rw [← hW0]; exact bal (bal (Below.refl _ _) _) _
  have P0 : PK (w.heap.size + 1) w.heap.size t 35 #[.int .i64 0, .int .i64 0] w W0 s00 := by
    refine ⟨?_, ?_, Fr.of_below _ hB, hm.below hB⟩
    · rw [← hW0]; have := heap_alloc_new (w.alloc (.cells #[.int .i64 0, .int .i64 0] 35)) (.cells (cellsS t s00) 51); rw [show (w.alloc (.cells #[.int .i64 0, .int .i64 0] 35)).heap.size = w.heap.size + 1 by simp] at this; exact this
    · have h1 : (w.alloc (.cells #[.int .i64 0, .int .i64 0] 35)).heap[w.heap.size]? = some (.cells #[.int .i64 0, .int .i64 0] 35 (0, 0)) := heap_alloc_new w _
      rw [← hW0]; exact ((Below.heap_alloc _ _ _ (Array.getElem?_eq_some_iff.1 h1).1).trans h1)
  have hBb : w.heap.size ≠ w.heap.size + 1 := by omega
  have hbb : w.heap.size ≤ w.heap.size + 1 := by omega
  have HW0 : Hid ((w.alloc (.cells #[.int .i64 0, .int .i64 0] 35)).alloc (.cells #[.string t, .int .i64 0, .int .i64 0, .int .i64 0, .int .i64 0, .int .i64 0, .bool false, .int .i64 0, .int .i64 0, .int .i64 0] 51) = W0) := Lib.hid hW0
  have HP0 := Lib.hid P0
  have k0 : Ok t s00 := ⟨Nat.zero_le _, hs⟩
  have z0 : s00.zone = 0 := rfl
  clear hB P0 hm hs hW0
  have HI0 := Lib.hid (fun (w1 : World) (h : StAt w1 (w.heap.size + 1) t s00) (hm : Ml w1) => is_S ⟨#[48, 49, 50, 51, 52, 53, 54, 55, 56, 57]⟩ true h k0 (by exact h1))
  have H0 := Lib.hid (fun (w1 : World) (h : StAt w1 (w.heap.size + 1) t s00) (hm : Ml w1) => shortDay_any (w.heap.size + 1) t s00 w1 h k0.1 k0.2 hm _ rfl)
  have k1 := shortDay_ok k0
  have z1 : (shortDayS t s00).zone = 0 := (shortDay_zone t s00).trans z0
  generalize shortDayS t s00 = s1 at *
  have H1 := Lib.hid (fun (w1 : World) (h : StAt w1 (w.heap.size + 1) t s1) (hm : Ml w1) => monthYear_any (w.heap.size + 1) t ⟨#[32]⟩ s1 w1 h k1 hm (by show 1 ≤ _; omega))
  rw [show (⟨#[32]⟩ : ByteArray).data.toList = [32] from rfl] at H1
  have k2 := monthYear_ok (g := [32]) k1
  have z2 : (monthYearS t [32] s1).zone = 0 := z1
  generalize monthYearS t [32] s1 = s2 at *
  have H2 := Lib.hid (fun (w1 : World) (h : StAt w1 (w.heap.size + 1) t s2) (hm : Ml w1) => one_S ⟨#[32]⟩ h k2 (by show 1 ≤ _; omega))
  rw [show (⟨#[32]⟩ : ByteArray).data.toList = [32] from rfl] at H2
  have k3 := oneS_ok (g := [32]) k2
  have z3 : (oneS t [32] s2).zone = 0 := z2
  generalize oneV t [32] s2 = v3 at *
  generalize oneS t [32] s2 = s3 at *
  have H3 := Lib.hid (fun (w1 : World) (h : StAt w1 (w.heap.size + 1) t s3) (hm : Ml w1) => hourMinute_any (w.heap.size + 1) t s3 w1 h k3 hm)
  have k4 := hourMinute_ok k3
  have z4 : (hourMinuteS t s3).zone = 0 := z3
  have c4 := hourMinute_clock t s3
  generalize hourMinuteS t s3 = s4 at *
  have HI4 := Lib.hid (fun (w1 : World) (h : StAt w1 (w.heap.size + 1) t s4) (hm : Ml w1) => is_S ⟨#[58]⟩ false h k4 (by exact h2))
  have H4 := Lib.hid (fun (w1 : World) (h : StAt w1 (w.heap.size + 1) t s4) (hm : Ml w1) => one_S ⟨#[32]⟩ h k4 (by show 1 ≤ _; omega))
  rw [show (⟨#[32]⟩ : ByteArray).data.toList = [32] from rfl] at H4
  have k5 := oneS_ok (g := [32]) k4
  have z5 : (oneS t [32] s4).zone = 0 := z4
  have c5 : (oneS t [32] s4).clock = s4.clock := rfl
  generalize oneV t [32] s4 = v5 at *
  generalize oneS t [32] s4 = s5 at *
  have H5 := Lib.hid (fun (w1 : World) (h : StAt w1 (w.heap.size + 1) t s5) (hm : Ml w1) => place_any (w.heap.size + 1) t ⟨#[43, 45, 71, 85]⟩ s5 w1 h k5 hm (by first | exact Or.inl rfl | exact Or.inr rfl))
  rw [show (⟨#[43, 45, 71, 85]⟩ : ByteArray).data.toList = [43, 45, 71, 85] from rfl] at H5
  have k6 := place_ok (g := [43, 45, 71, 85]) k5
  have z6 := place_zone t [43, 45, 71, 85] s5 z5
  have c6 := place_clock t [43, 45, 71, 85] s5
  generalize placeS t [43, 45, 71, 85] s5 = s6 at *
  have HMo := Lib.hid (fun (w1 : World) (h : StAt w1 (w.heap.size + 1) t s6) => moment_any (w.heap.size + 1) t s6 w1 h k6 (by omega) (by omega) (by omega) (by omega) R hR)
  clear hR
  go_enter Tryd.func18, Tryd.ntmps18
  go_wp2_with fail
  rw [HW0.out]
  go_wp2_with fail
  refine (HI0.out _ HP0.out.st HP0.out.ml).mono ?_
  rintro e wi0 ⟨rfl, h1, f1⟩
  have PI0 := Lib.hid (HP0.out.step hBb hbb h1 f1)
  clear h1 f1
  go_wp2_with fail
  refine (H0.out _ PI0.out.st PI0.out.ml).mono ?_
  rintro e w1 ⟨rfl, h1, f1⟩
  have P1 := Lib.hid (PI0.out.step hBb hbb h1 f1)
  clear h1 f1
  go_wp2_with fail
  refine (H1.out _ P1.out.st P1.out.ml).mono ?_
  rintro e w2 ⟨rfl, h1, f1⟩
  have P2 := Lib.hid (P1.out.step hBb hbb h1 f1)
  clear h1 f1
  go_wp2_with fail
  refine (H2.out _ P2.out.st P2.out.ml).mono ?_
  rintro e w3 ⟨rfl, h1, f1⟩
  have P3 := Lib.hid (P2.out.step hBb hbb h1 f1)
  clear h1 f1
  go_wp2_with fail
  refine (H3.out _ P3.out.st P3.out.ml).mono ?_
  rintro e w4 ⟨rfl, h1, f1⟩
  have P4 := Lib.hid (P3.out.step hBb hbb h1 f1)
  clear h1 f1
  go_wp2_with fail
  refine (HI4.out _ P4.out.st P4.out.ml).mono ?_
  rintro e wi4 ⟨rfl, h1, f1⟩
  have PI4 := Lib.hid (P4.out.step hBb hbb h1 f1)
  clear h1 f1
  go_wp2_with fail
  refine (H4.out _ PI4.out.st PI4.out.ml).mono ?_
  rintro e w5 ⟨rfl, h1, f1⟩
  have P5 := Lib.hid (PI4.out.step hBb hbb h1 f1)
  clear h1 f1
  go_wp2_with fail
  refine (H5.out _ P5.out.st P5.out.ml).mono ?_
  rintro e w6 ⟨rfl, h1, f1⟩
  have P6 := Lib.hid (P5.out.step hBb hbb h1 f1)
  clear h1 f1
  go_wp2_with fail
  refine (HMo.out _ P6.out.st).mono ?_
  rintro e wr ⟨rfl, fr⟩
  obtain ⟨r1, r2, r3, r4⟩ := R
  have hrow : wr.heap[w.heap.size]? = some (.cells #[.int .i64 0, .int .i64 0] 35 (0, 0)) := (fr.block _ (Array.getElem?_eq_some_iff.1 P6.out.row).1 hBb).trans P6.out.row
  have q0 : wr.cell? ⟨w.heap.size, 0, none⟩ = some (.int .i64 0) := cell_of_row _ _ _ _ _ _ hrow
  have q1 : wr.cell? ⟨w.heap.size, 1, none⟩ = some (.int .i64 0) := cell_of_row _ _ _ _ _ _ hrow
  have p0 : wr.frozen? ⟨w.heap.size, 0, none⟩ = false := frozen_of_row _ _ _ _ _ hrow
  have p1 : wr.frozen? ⟨w.heap.size, 1, none⟩ = false := frozen_of_row _ _ _ _ _ hrow
  have hbl : Below w.heap.size w wr := (P6.out.fr.trans (o'' := fun k => w.heap.size ≤ k) fr (fun _ _ h => h) (fun k _ e => by have e' : k = w.heap.size + 1 := e; omega)).below (Nat.le_refl _) (fun k e => e)
  have HBL := Lib.hid hbl
  clear hrow hbl fr
  simp only [momV, timeV]
  go_wp2
  exact bodyPost_ret (v := .tuple #[.agg #[.int .i64 r1, .int .i64 r2], .int .i64 r3, .int .i64 r4]) (by simp [results, Tryd.results18, go_sem, q0, q1]) rfl ⟨rfl, (HBL.out.setCell (Nat.le_refl _) _).setCell (Nat.le_refl _) _⟩
set_option maxRecDepth 100000 in
set_option maxHeartbeats 2000000 in
theorem parse_01 (t : ByteArray) (w : World) (hs : t.size ≤ 9223372036854775807) (hm : Ml w) (h1 : isR t figL 0 = false) (h2 : isR t [58] (hourMinuteS t (oneS t [32] (monthYearS t [32] (shortDayS t (oneS t [32] (oneS t [44] (wk0 t s00))))))).at_ = true) (R : Int × Int × Int × Int) (hR : momR t (placeS t [43, 45, 71, 85] (oneS t [32] (secondS t (hourMinuteS t (oneS t [32] (monthYearS t [32] (shortDayS t (oneS t [32] (oneS t [44] (wk0 t s00)))))))))) = R) :
    Calls Tryd.prog 18 #[.string t] w fun e w' => e = .returned (momV R) ∧ Below w.heap.size w w' := by
  obtain ⟨W0, hW0⟩ : ∃ W0, (w.alloc (.cells #[.int .i64 0, .int .i64 0] 35)).alloc (.cells (cellsS t s00) 51) = W0 := ⟨_, rfl⟩
  have hB : Below w.heap.size w W0 := by rw [← hW0]; exact bal (bal (Below.refl _ _) _) _
  have P0 : PK (w.heap.size + 1) w.heap.size t 35 #[.int .i64 0, .int .i64 0] w W0 s00 := by
    refine ⟨?_, ?_, Fr.of_below _ hB, hm.below hB⟩
    · rw [← hW0]; have := heap_alloc_new (w.alloc (.cells #[.int .i64 0, .int .i64 0] 35)) (.cells (cellsS t s00) 51); rw [show (w.alloc (.cells #[.int .i64 0, .int .i64 0] 35)).heap.size = w.heap.size + 1 by simp] at this; exact this
    · have h1 : (w.alloc (.cells #[.int .i64 0, .int .i64 0] 35)).heap[w.heap.size]? = some (.cells #[.int .i64 0, .int .i64 0] 35 (0, 0)) := heap_alloc_new w _
      rw [← hW0]; exact ((Below.heap_alloc _ _ _ (Array.getElem?_eq_some_iff.1 h1).1).trans h1)
  have hBb : w.heap.size ≠ w.heap.size + 1 := by omega
  have hbb : w.heap.size ≤ w.heap.size + 1 := by omega
  have HW0 : Hid ((w.alloc (.cells #[.int .i64 0, .int .i64 0] 35)).alloc (.cells #[.string t, .int .i64 0, .int .i64 0, .int .i64 0, .int .i64 0, .int .i64 0, .bool false, .int .i64 0, .int .i64 0, .int .i64 0] 51) = W0) := Lib.hid hW0
  have HP0 := Lib.hid P0
  have k0 : Ok t s00 := ⟨Nat.zero_le _, hs⟩
  have z0 : s00.zone = 0 := rfl
  clear hB P0 hm hs hW0
  have HI0 := Lib.hid (fun (w1 : World) (h : StAt w1 (w.heap.size + 1) t s00) (hm : Ml w1) => is_S ⟨#[48, 49, 50, 51, 52, 53, 54, 55, 56, 57]⟩ false h k0 (by exact h1))
  have H0 := Lib.hid (fun (w1 : World) (h : StAt w1 (w.heap.size + 1) t s00) (hm : Ml w1) => word_S ⟨#[77, 111, 110, 84, 117, 101, 87, 101, 100, 84, 104, 117, 70, 114, 105, 83, 97, 116, 83, 117, 110]⟩ 7 h k0 hm rfl (by omega))
  rw [show (⟨#[77, 111, 110, 84, 117, 101, 87, 101, 100, 84, 104, 117, 70, 114, 105, 83, 97, 116, 83, 117, 110]⟩ : ByteArray).data.toList = weeksL from rfl] at H0
  have hset : Hid (∀ w1, PK (w.heap.size + 1) w.heap.size t 35 #[.int .i64 0, .int .i64 0] w w1 (wordS t 7 weeksL s00) → PK (w.heap.size + 1) w.heap.size t 35 #[.int .i64 0, .int .i64 0] w ((w1.setCell ⟨(w.heap.size + 1), 6, none⟩ (.bool true)).setCell ⟨(w.heap.size + 1), 7, none⟩ (.int .i64 (wordV t 7 weeksL s00))) (wk0 t s00)) := Lib.hid (fun w1 p => (p.set6 (s2 := { wordS t 7 weeksL s00 with weekly := true }) hBb hbb 6 _ rfl).set6 hBb hbb 7 _ rfl)
  have k1 := wk0_ok k0
  have z1 : (wk0 t s00).zone = 0 := z0
  generalize wordV t 7 weeksL s00 = vw at *
  generalize wordS t 7 weeksL s00 = sw at *
  generalize wk0 t s00 = s1 at *
  have H1 := Lib.hid (fun (w1 : World) (h : StAt w1 (w.heap.size + 1) t s1) (hm : Ml w1) => one_S ⟨#[44]⟩ h k1 (by show 1 ≤ _; omega))
  rw [show (⟨#[44]⟩ : ByteArray).data.toList = [44] from rfl] at H1
  have k2 := oneS_ok (g := [44]) k1
  have z2 : (oneS t [44] s1).zone = 0 := z1
  generalize oneV t [44] s1 = v2 at *
  generalize oneS t [44] s1 = s2 at *
  have H2 := Lib.hid (fun (w1 : World) (h : StAt w1 (w.heap.size + 1) t s2) (hm : Ml w1) => one_S ⟨#[32]⟩ h k2 (by show 1 ≤ _; omega))
  rw [show (⟨#[32]⟩ : ByteArray).data.toList = [32] from rfl] at H2
  have k3 := oneS_ok (g := [32]) k2
  have z3 : (oneS t [32] s2).zone = 0 := z2
  generalize oneV t [32] s2 = v3 at *
  generalize oneS t [32] s2 = s3 at *
  have H3 := Lib.hid (fun (w1 : World) (h : StAt w1 (w.heap.size + 1) t s3) (hm : Ml w1) => shortDay_any (w.heap.size + 1) t s3 w1 h k3.1 k3.2 hm _ rfl)
  have k4 := shortDay_ok k3
  have z4 : (shortDayS t s3).zone = 0 := (shortDay_zone t s3).trans z3
  generalize shortDayS t s3 = s4 at *
  have H4 := Lib.hid (fun (w1 : World) (h : StAt w1 (w.heap.size + 1) t s4) (hm : Ml w1) => monthYear_any (w.heap.size + 1) t ⟨#[32]⟩ s4 w1 h k4 hm (by show 1 ≤ _; omega))
  rw [show (⟨#[32]⟩ : ByteArray).data.toList = [32] from rfl] at H4
  have k5 := monthYear_ok (g := [32]) k4
  have z5 : (monthYearS t [32] s4).zone = 0 := z4
  generalize monthYearS t [32] s4 = s5 at *
  have H5 := Lib.hid (fun (w1 : World) (h : StAt w1 (w.heap.size + 1) t s5) (hm : Ml w1) => one_S ⟨#[32]⟩ h k5 (by show 1 ≤ _; omega))
  rw [show (⟨#[32]⟩ : ByteArray).data.toList = [32] from rfl] at H5
  have k6 := oneS_ok (g := [32]) k5
  have z6 : (oneS t [32] s5).zone = 0 := z5
  generalize oneV t [32] s5 = v6 at *
  generalize oneS t [32] s5 = s6 at *
  have H6 := Lib.hid (fun (w1 : World) (h : StAt w1 (w.heap.size + 1) t s6) (hm : Ml w1) => hourMinute_any (w.heap.size + 1) t s6 w1 h k6 hm)
  have k7 := hourMinute_ok k6
  have z7 : (hourMinuteS t s6).zone = 0 := z6
  have c7 := hourMinute_clock t s6
  generalize hourMinuteS t s6 = s7 at *
  have HI7 := Lib.hid (fun (w1 : World) (h : StAt w1 (w.heap.size + 1) t s7) (hm : Ml w1) => is_S ⟨#[58]⟩ true h k7 (by exact h2))
  have H7 := Lib.hid (fun (w1 : World) (h : StAt w1 (w.heap.size + 1) t s7) (hm : Ml w1) => second_any (w.heap.size + 1) t s7 w1 h k7 hm (by omega) (by omega))
  have k8 := second_ok k7
  have z8 : (secondS t s7).zone = 0 := z7
  have c8 := second_clock t s7
  generalize secondS t s7 = s8 at *
  have H8 := Lib.hid (fun (w1 : World) (h : StAt w1 (w.heap.size + 1) t s8) (hm : Ml w1) => one_S ⟨#[32]⟩ h k8 (by show 1 ≤ _; omega))
  rw [show (⟨#[32]⟩ : ByteArray).data.toList = [32] from rfl] at H8
  have k9 := oneS_ok (g := [32]) k8
  have z9 : (oneS t [32] s8).zone = 0 := z8
  have c9 : (oneS t [32] s8).clock = s8.clock := rfl
  generalize oneV t [32] s8 = v9 at *
  generalize oneS t [32] s8 = s9 at *
  have H9 := Lib.hid (fun (w1 : World) (h : StAt w1 (w.heap.size + 1) t s9) (hm : Ml w1) => place_any (w.heap.size + 1) t ⟨#[43, 45, 71, 85]⟩ s9 w1 h k9 hm (by first | exact Or.inl rfl | exact Or.inr rfl))
  rw [show (⟨#[43, 45, 71, 85]⟩ : ByteArray).data.toList = [43, 45, 71, 85] from rfl] at H9
  have k10 := place_ok (g := [43, 45, 71, 85]) k9
  have z10 := place_zone t [43, 45, 71, 85] s9 z9
  have c10 := place_clock t [43, 45, 71, 85] s9
  generalize placeS t [43, 45, 71, 85] s9 = s10 at *
  have HMo := Lib.hid (fun (w1 : World) (h : StAt w1 (w.heap.size + 1) t s10) => moment_any (w.heap.size + 1) t s10 w1 h k10 (by omega) (by omega) (by omega) (by omega) R hR)
  clear hR
  go_enter Tryd.func18, Tryd.ntmps18
  go_wp2_with fail
  rw [HW0.out]
  go_wp2_with fail
  refine (HI0.out _ HP0.out.st HP0.out.ml).mono ?_
  rintro e wi0 ⟨rfl, h1, f1⟩
  have PI0 := Lib.hid (HP0.out.step hBb hbb h1 f1)
  clear h1 f1
  go_wp2_with fail
  refine (H0.out _ PI0.out.st PI0.out.ml).mono ?_
  rintro e w1 ⟨rfl, h1, f1⟩
  have pw := PI0.out.step hBb hbb h1 f1
  have n6 : w1.cell? ⟨w.heap.size + 1, 6, none⟩ = some (.bool sw.weekly) := h1.c 6
  have m6 := h1.f 6
  have n7 : w1.cell? ⟨w.heap.size + 1, 7, none⟩ = some (.int .i64 sw.week) := h1.c 7
  have m7 := h1.f 7
  have P1 := Lib.hid (hset.out _ pw)
  clear h1 f1 pw
  go_wp2_with fail
  clear n6 m6 n7 m7
  generalize (w1.setCell ⟨w.heap.size + 1, 6, none⟩ (.bool true)).setCell ⟨w.heap.size + 1, 7, none⟩ (.int .i64 vw) = wz1 at *
  refine (H1.out _ P1.out.st P1.out.ml).mono ?_
  rintro e w2 ⟨rfl, h1, f1⟩
  have P2 := Lib.hid (P1.out.step hBb hbb h1 f1)
  clear h1 f1
  go_wp2_with fail
  refine (H2.out _ P2.out.st P2.out.ml).mono ?_
  rintro e w3 ⟨rfl, h1, f1⟩
  have P3 := Lib.hid (P2.out.step hBb hbb h1 f1)
  clear h1 f1
  go_wp2_with fail
  refine (H3.out _ P3.out.st P3.out.ml).mono ?_
  rintro e w4 ⟨rfl, h1, f1⟩
  have P4 := Lib.hid (P3.out.step hBb hbb h1 f1)
  clear h1 f1
  go_wp2_with fail
  refine (H4.out _ P4.out.st P4.out.ml).mono ?_
  rintro e w5 ⟨rfl, h1, f1⟩
  have P5 := Lib.hid (P4.out.step hBb hbb h1 f1)
  clear h1 f1
  go_wp2_with fail
  refine (H5.out _ P5.out.st P5.out.ml).mono ?_
  rintro e w6 ⟨rfl, h1, f1⟩
  have P6 := Lib.hid (P5.out.step hBb hbb h1 f1)
  clear h1 f1
  go_wp2_with fail
  refine (H6.out _ P6.out.st P6.out.ml).mono ?_
  rintro e w7 ⟨rfl, h1, f1⟩
  have P7 := Lib.hid (P6.out.step hBb hbb h1 f1)
  clear h1 f1
  go_wp2_with fail
  refine (HI7.out _ P7.out.st P7.out.ml).mono ?_
  rintro e wi7 ⟨rfl, h1, f1⟩
  have PI7 := Lib.hid (P7.out.step hBb hbb h1 f1)
  clear h1 f1
  go_wp2_with fail
  refine (H7.out _ PI7.out.st PI7.out.ml).mono ?_
  rintro e w8 ⟨rfl, h1, f1⟩
  have P8 := Lib.hid (PI7.out.step hBb hbb h1 f1)
  clear h1 f1
  go_wp2_with fail
  refine (H8.out _ P8.out.st P8.out.ml).mono ?_
  rintro e w9 ⟨rfl, h1, f1⟩
  have P9 := Lib.hid (P8.out.step hBb hbb h1 f1)
  clear h1 f1
  go_wp2_with fail
  refine (H9.out _ P9.out.st P9.out.ml).mono ?_
  rintro e w10 ⟨rfl, h1, f1⟩
  have P10 := Lib.hid (P9.out.step hBb hbb h1 f1)
  clear h1 f1
  go_wp2_with fail
  refine (HMo.out _ P10.out.st).mono ?_
  rintro e wr ⟨rfl, fr⟩
  obtain ⟨r1, r2, r3, r4⟩ := R
  have hrow : wr.heap[w.heap.size]? = some (.cells #[.int .i64 0, .int .i64 0] 35 (0, 0)) := (fr.block _ (Array.getElem?_eq_some_iff.1 P10.out.row).1 hBb).trans P10.out.row
  have q0 : wr.cell? ⟨w.heap.size, 0, none⟩ = some (.int .i64 0) := cell_of_row _ _ _ _ _ _ hrow
  have q1 : wr.cell? ⟨w.heap.size, 1, none⟩ = some (.int .i64 0) := cell_of_row _ _ _ _ _ _ hrow
  have p0 : wr.frozen? ⟨w.heap.size, 0, none⟩ = false := frozen_of_row _ _ _ _ _ hrow
  have p1 : wr.frozen? ⟨w.heap.size, 1, none⟩ = false := frozen_of_row _ _ _ _ _ hrow
  have hbl : Below w.heap.size w wr := (P10.out.fr.trans (o'' := fun k => w.heap.size ≤ k) fr (fun _ _ h => h) (fun k _ e => by have e' : k = w.heap.size + 1 := e; omega)).below (Nat.le_refl _) (fun k e => e)
  have HBL := Lib.hid hbl
  clear hrow hbl fr
  simp only [momV, timeV]
  go_wp2
  exact bodyPost_ret (v := .tuple #[.agg #[.int .i64 r1, .int .i64 r2], .int .i64 r3, .int .i64 r4]) (by simp [results, Tryd.results18, go_sem, q0, q1]) rfl ⟨rfl, (HBL.out.setCell (Nat.le_refl _) _).setCell (Nat.le_refl _) _⟩
set_option maxRecDepth 100000 in
set_option maxHeartbeats 2000000 in
theorem parse_00 (t : ByteArray) (w : World) (hs : t.size ≤ 9223372036854775807) (hm : Ml w) (h1 : isR t figL 0 = false) (h2 : isR t [58] (hourMinuteS t (oneS t [32] (monthYearS t [32] (shortDayS t (oneS t [32] (oneS t [44] (wk0 t s00))))))).at_ = false) (R : Int × Int × Int × Int) (hR : momR t (placeS t [43, 45, 71, 85] (oneS t [32] (hourMinuteS t (oneS t [32] (monthYearS t [32] (shortDayS t (oneS t [32] (oneS t [44] (wk0 t s00))))))))) = R) :
    Calls Tryd.prog 18 #[.string t] w fun e w' => e = .returned (momV R) ∧ Below w.heap.size w w' := by
  obtain ⟨W0, hW0⟩ : ∃ W0, (w.alloc (.cells #[.int .i64 0, .int .i64 0] 35)).alloc (.cells (cellsS t s00) 51) = W0 := ⟨_, rfl⟩
  have hB : Below w.heap.size w W0 := by rw [← hW0]; exact bal (bal (Below.refl _ _) _) _
  have P0 : PK (w.heap.size + 1) w.heap.size t 35 #[.int .i64 0, .int .i64 0] w W0 s00 := by
    refine ⟨?_, ?_, Fr.of_below _ hB, hm.below hB⟩
    · rw [← hW0]; have := heap_alloc_new (w.alloc (.cells #[.int .i64 0, .int .i64 0] 35)) (.cells (cellsS t s00) 51); rw [show (w.alloc (.cells #[.int .i64 0, .int .i64 0] 35)).heap.size = w.heap.size + 1 by simp] at this; exact this
    · have h1 : (w.alloc (.cells #[.int .i64 0, .int .i64 0] 35)).heap[w.heap.size]? = some (.cells #[.int .i64 0, .int .i64 0] 35 (0, 0)) := heap_alloc_new w _
      rw [← hW0]; exact ((Below.heap_alloc _ _ _ (Array.getElem?_eq_some_iff.1 h1).1).trans h1)
  have hBb : w.heap.size ≠ w.heap.size + 1 := by omega
  have hbb : w.heap.size ≤ w.heap.size + 1 := by omega
  have HW0 : Hid ((w.alloc (.cells #[.int .i64 0, .int .i64 0] 35)).alloc (.cells #[.string t, .int .i64 0, .int .i64 0, .int .i64 0, .int .i64 0, .int .i64 0, .bool false, .int .i64 0, .int .i64 0, .int .i64 0] 51) = W0) := Lib.hid hW0
  have HP0 := Lib.hid P0
  have k0 : Ok t s00 := ⟨Nat.zero_le _, hs⟩
  have z0 : s00.zone = 0 := rfl
  clear hB P0 hm hs hW0
  have HI0 := Lib.hid (fun (w1 : World) (h : StAt w1 (w.heap.size + 1) t s00) (hm : Ml w1) => is_S ⟨#[48, 49, 50, 51, 52, 53, 54, 55, 56, 57]⟩ false h k0 (by exact h1))
  have H0 := Lib.hid (fun (w1 : World) (h : StAt w1 (w.heap.size + 1) t s00) (hm : Ml w1) => word_S ⟨#[77, 111, 110, 84, 117, 101, 87, 101, 100, 84, 104, 117, 70, 114, 105, 83, 97, 116, 83, 117, 110]⟩ 7 h k0 hm rfl (by omega))
  rw [show (⟨#[77, 111, 110, 84, 117, 101, 87, 101, 100, 84, 104, 117, 70, 114, 105, 83, 97, 116, 83, 117, 110]⟩ : ByteArray).data.toList = weeksL from rfl] at H0
  have hset : Hid (∀ w1, PK (w.heap.size + 1) w.heap.size t 35 #[.int .i64 0, .int .i64 0] w w1 (wordS t 7 weeksL s00) → PK (w.heap.size + 1) w.heap.size t 35 #[.int .i64 0, .int .i64 0] w ((w1.setCell ⟨(w.heap.size + 1), 6, none⟩ (.bool true)).setCell ⟨(w.heap.size + 1), 7, none⟩ (.int .i64 (wordV t 7 weeksL s00))) (wk0 t s00)) := Lib.hid (fun w1 p => (p.set6 (s2 := { wordS t 7 weeksL s00 with weekly := true }) hBb hbb 6 _ rfl).set6 hBb hbb 7 _ rfl)
  have k1 := wk0_ok k0
  have z1 : (wk0 t s00).zone = 0 := z0
  generalize wordV t 7 weeksL s00 = vw at *
  generalize wordS t 7 weeksL s00 = sw at *
  generalize wk0 t s00 = s1 at *
  have H1 := Lib.hid (fun (w1 : World) (h : StAt w1 (w.heap.size + 1) t s1) (hm : Ml w1) => one_S ⟨#[44]⟩ h k1 (by show 1 ≤ _; omega))
  rw [show (⟨#[44]⟩ : ByteArray).data.toList = [44] from rfl] at H1
  have k2 := oneS_ok (g := [44]) k1
  have z2 : (oneS t [44] s1).zone = 0 := z1
  generalize oneV t [44] s1 = v2 at *
  generalize oneS t [44] s1 = s2 at *
  have H2 := Lib.hid (fun (w1 : World) (h : StAt w1 (w.heap.size + 1) t s2) (hm : Ml w1) => one_S ⟨#[32]⟩ h k2 (by show 1 ≤ _; omega))
  rw [show (⟨#[32]⟩ : ByteArray).data.toList = [32] from rfl] at H2
  have k3 := oneS_ok (g := [32]) k2
  have z3 : (oneS t [32] s2).zone = 0 := z2
  generalize oneV t [32] s2 = v3 at *
  generalize oneS t [32] s2 = s3 at *
  have H3 := Lib.hid (fun (w1 : World) (h : StAt w1 (w.heap.size + 1) t s3) (hm : Ml w1) => shortDay_any (w.heap.size + 1) t s3 w1 h k3.1 k3.2 hm _ rfl)
  have k4 := shortDay_ok k3
  have z4 : (shortDayS t s3).zone = 0 := (shortDay_zone t s3).trans z3
  generalize shortDayS t s3 = s4 at *
  have H4 := Lib.hid (fun (w1 : World) (h : StAt w1 (w.heap.size + 1) t s4) (hm : Ml w1) => monthYear_any (w.heap.size + 1) t ⟨#[32]⟩ s4 w1 h k4 hm (by show 1 ≤ _; omega))
  rw [show (⟨#[32]⟩ : ByteArray).data.toList = [32] from rfl] at H4
  have k5 := monthYear_ok (g := [32]) k4
  have z5 : (monthYearS t [32] s4).zone = 0 := z4
  generalize monthYearS t [32] s4 = s5 at *
  have H5 := Lib.hid (fun (w1 : World) (h : StAt w1 (w.heap.size + 1) t s5) (hm : Ml w1) => one_S ⟨#[32]⟩ h k5 (by show 1 ≤ _; omega))
  rw [show (⟨#[32]⟩ : ByteArray).data.toList = [32] from rfl] at H5
  have k6 := oneS_ok (g := [32]) k5
  have z6 : (oneS t [32] s5).zone = 0 := z5
  generalize oneV t [32] s5 = v6 at *
  generalize oneS t [32] s5 = s6 at *
  have H6 := Lib.hid (fun (w1 : World) (h : StAt w1 (w.heap.size + 1) t s6) (hm : Ml w1) => hourMinute_any (w.heap.size + 1) t s6 w1 h k6 hm)
  have k7 := hourMinute_ok k6
  have z7 : (hourMinuteS t s6).zone = 0 := z6
  have c7 := hourMinute_clock t s6
  generalize hourMinuteS t s6 = s7 at *
  have HI7 := Lib.hid (fun (w1 : World) (h : StAt w1 (w.heap.size + 1) t s7) (hm : Ml w1) => is_S ⟨#[58]⟩ false h k7 (by exact h2))
  have H7 := Lib.hid (fun (w1 : World) (h : StAt w1 (w.heap.size + 1) t s7) (hm : Ml w1) => one_S ⟨#[32]⟩ h k7 (by show 1 ≤ _; omega))
  rw [show (⟨#[32]⟩ : ByteArray).data.toList = [32] from rfl] at H7
  have k8 := oneS_ok (g := [32]) k7
  have z8 : (oneS t [32] s7).zone = 0 := z7
  have c8 : (oneS t [32] s7).clock = s7.clock := rfl
  generalize oneV t [32] s7 = v8 at *
  generalize oneS t [32] s7 = s8 at *
  have H8 := Lib.hid (fun (w1 : World) (h : StAt w1 (w.heap.size + 1) t s8) (hm : Ml w1) => place_any (w.heap.size + 1) t ⟨#[43, 45, 71, 85]⟩ s8 w1 h k8 hm (by first | exact Or.inl rfl | exact Or.inr rfl))
  rw [show (⟨#[43, 45, 71, 85]⟩ : ByteArray).data.toList = [43, 45, 71, 85] from rfl] at H8
  have k9 := place_ok (g := [43, 45, 71, 85]) k8
  have z9 := place_zone t [43, 45, 71, 85] s8 z8
  have c9 := place_clock t [43, 45, 71, 85] s8
  generalize placeS t [43, 45, 71, 85] s8 = s9 at *
  have HMo := Lib.hid (fun (w1 : World) (h : StAt w1 (w.heap.size + 1) t s9) => moment_any (w.heap.size + 1) t s9 w1 h k9 (by omega) (by omega) (by omega) (by omega) R hR)
  clear hR
  go_enter Tryd.func18, Tryd.ntmps18
  go_wp2_with fail
  rw [HW0.out]
  go_wp2_with fail
  refine (HI0.out _ HP0.out.st HP0.out.ml).mono ?_
  rintro e wi0 ⟨rfl, h1, f1⟩
  have PI0 := Lib.hid (HP0.out.step hBb hbb h1 f1)
  clear h1 f1
  go_wp2_with fail
  refine (H0.out _ PI0.out.st PI0.out.ml).mono ?_
  rintro e w1 ⟨rfl, h1, f1⟩
  have pw := PI0.out.step hBb hbb h1 f1
  have n6 : w1.cell? ⟨w.heap.size + 1, 6, none⟩ = some (.bool sw.weekly) := h1.c 6
  have m6 := h1.f 6
  have n7 : w1.cell? ⟨w.heap.size + 1, 7, none⟩ = some (.int .i64 sw.week) := h1.c 7
  have m7 := h1.f 7
  have P1 := Lib.hid (hset.out _ pw)
  clear h1 f1 pw
  go_wp2_with fail
  clear n6 m6 n7 m7
  generalize (w1.setCell ⟨w.heap.size + 1, 6, none⟩ (.bool true)).setCell ⟨w.heap.size + 1, 7, none⟩ (.int .i64 vw) = wz1 at *
  refine (H1.out _ P1.out.st P1.out.ml).mono ?_
  rintro e w2 ⟨rfl, h1, f1⟩
  have P2 := Lib.hid (P1.out.step hBb hbb h1 f1)
  clear h1 f1
  go_wp2_with fail
  refine (H2.out _ P2.out.st P2.out.ml).mono ?_
  rintro e w3 ⟨rfl, h1, f1⟩
  have P3 := Lib.hid (P2.out.step hBb hbb h1 f1)
  clear h1 f1
  go_wp2_with fail
  refine (H3.out _ P3.out.st P3.out.ml).mono ?_
  rintro e w4 ⟨rfl, h1, f1⟩
  have P4 := Lib.hid (P3.out.step hBb hbb h1 f1)
  clear h1 f1
  go_wp2_with fail
  refine (H4.out _ P4.out.st P4.out.ml).mono ?_
  rintro e w5 ⟨rfl, h1, f1⟩
  have P5 := Lib.hid (P4.out.step hBb hbb h1 f1)
  clear h1 f1
  go_wp2_with fail
  refine (H5.out _ P5.out.st P5.out.ml).mono ?_
  rintro e w6 ⟨rfl, h1, f1⟩
  have P6 := Lib.hid (P5.out.step hBb hbb h1 f1)
  clear h1 f1
  go_wp2_with fail
  refine (H6.out _ P6.out.st P6.out.ml).mono ?_
  rintro e w7 ⟨rfl, h1, f1⟩
  have P7 := Lib.hid (P6.out.step hBb hbb h1 f1)
  clear h1 f1
  go_wp2_with fail
  refine (HI7.out _ P7.out.st P7.out.ml).mono ?_
  rintro e wi7 ⟨rfl, h1, f1⟩
  have PI7 := Lib.hid (P7.out.step hBb hbb h1 f1)
  clear h1 f1
  go_wp2_with fail
  refine (H7.out _ PI7.out.st PI7.out.ml).mono ?_
  rintro e w8 ⟨rfl, h1, f1⟩
  have P8 := Lib.hid (PI7.out.step hBb hbb h1 f1)
  clear h1 f1
  go_wp2_with fail
  refine (H8.out _ P8.out.st P8.out.ml).mono ?_
  rintro e w9 ⟨rfl, h1, f1⟩
  have P9 := Lib.hid (P8.out.step hBb hbb h1 f1)
  clear h1 f1
  go_wp2_with fail
  refine (HMo.out _ P9.out.st).mono ?_
  rintro e wr ⟨rfl, fr⟩
  obtain ⟨r1, r2, r3, r4⟩ := R
  have hrow : wr.heap[w.heap.size]? = some (.cells #[.int .i64 0, .int .i64 0] 35 (0, 0)) := (fr.block _ (Array.getElem?_eq_some_iff.1 P9.out.row).1 hBb).trans P9.out.row
  have q0 : wr.cell? ⟨w.heap.size, 0, none⟩ = some (.int .i64 0) := cell_of_row _ _ _ _ _ _ hrow
  have q1 : wr.cell? ⟨w.heap.size, 1, none⟩ = some (.int .i64 0) := cell_of_row _ _ _ _ _ _ hrow
  have p0 : wr.frozen? ⟨w.heap.size, 0, none⟩ = false := frozen_of_row _ _ _ _ _ hrow
  have p1 : wr.frozen? ⟨w.heap.size, 1, none⟩ = false := frozen_of_row _ _ _ _ _ hrow
  have hbl : Below w.heap.size w wr := (P9.out.fr.trans (o'' := fun k => w.heap.size ≤ k) fr (fun _ _ h => h) (fun k _ e => by have e' : k = w.heap.size + 1 := e; omega)).below (Nat.le_refl _) (fun k e => e)
  have HBL := Lib.hid hbl
  clear hrow hbl fr
  simp only [momV, timeV]
  go_wp2
  exact bodyPost_ret (v := .tuple #[.agg #[.int .i64 r1, .int .i64 r2], .int .i64 r3, .int .i64 r4]) (by simp [results, Tryd.results18, go_sem, q0, q1]) rfl ⟨rfl, (HBL.out.setCell (Nat.le_refl _) _).setCell (Nat.le_refl _) _⟩
end Go.Proofs.YtkkmjadkagpihaaDoor
