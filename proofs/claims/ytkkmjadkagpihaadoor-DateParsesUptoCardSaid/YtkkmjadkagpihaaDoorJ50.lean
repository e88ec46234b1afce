/- Date: the document's ParseDay and ParseShort. -/
import Derived.Test.YtkkmjadkagpihaaDoorJ44
import Derived.Deep.DeepCutAuto
import Derived.StillTailTactics
namespace Go.Proofs.YtkkmjadkagpihaaDoor
open Go Go.RowKit

theorem Ltr.lit (w : World) (l : List ByteArray) (cs : Array Value) (h : cs = (l.map Value.string).toArray) (n : Nat) (hn : n = l.length) : Ltr (w.alloc (.cells cs 9)) (.slice (some ⟨w.heap.size, 0, none⟩) n n) l := by
  subst h; subst hn
  refine ⟨some ⟨w.heap.size, 0, none⟩, l.length, rfl, Nat.le_refl _, fun i hi => ⟨w.heap.size, rfl, by rw [World.size_alloc]; exact Nat.lt_succ_self _, ?_⟩⟩
  refine (World.cell?_alloc_mark _ _ _ _ _).trans ?_
  simp [hi]
def dayPL : List (List UInt8) := [patD 0, patD 1]
theorem dayPL_ok : ∀ k (h : k < dayPL.length), Pat dayPL[k] := by
  intro k h
  have h' : k < 2 := h
  rcases (show k = 0 ∨ k = 1 by omega) with rfl | rfl
  · exact pat_ok (P := patD 0) (by decide +kernel)
  · exact pat_ok (P := patD 1) (by decide +kernel)
theorem dayPL_get (d : Nat) (h : d < 2) (h' : d < dayPL.length) : dayPL[d] = patD d := by
  rcases (show d = 0 ∨ d = 1 by omega) with rfl | rfl <;> rfl
theorem dayPL_cells : #[Value.string ⟨#[57, 45, 77, 77, 77, 45, 57, 57, 57, 57]⟩, Value.string ⟨#[57, 57, 45, 77, 77, 77, 45, 57, 57, 57, 57]⟩] = ((dayPL.map toB).map Value.string).toArray := rfl
theorem best_day (W : World) (v v2 : Value) (t : ByteArray) (bs : List UInt8) (L : List ByteArray) (n : Nat) (F : LtrF t bs L n) (hv : Ltr W v L) (hv2 : Ltr W v2 (dayPL.map toB)) (s : Stp) (d : Nat) (H : DayP bs s d) (I : Int)
    (hI : (if s.at_ = (patD d).length ∧ s.at_ = bs.length then (d : Int) else -1) = I) :
    Calls Tryd.prog 45 #[v, v2] W fun e w' => e = .returned (.tuple #[.int .i64 I, .int .i64 (s.at_ : Int)]) ∧ Below W.heap.size W w' := by
  have h2 : dayPL.length = 2 := rfl
  refine best_own W v v2 t bs L n F hv dayPL dayPL_ok hv2 (by omega) d (by have := H.d2; omega) s.at_ (by rw [dayPL_get d H.d2]; exact H.run.at_) (fun j h hne => ?_) I (by rw [dayPL_get d H.d2]; exact hI)
  rw [dayPL_get j (by omega)]
  exact H.other j (by omega) hne

/-- A day's cell ahead of a walk. -/
structure DK (w W0 w1 : World) : Prop where
  b : Below w.heap.size w w1
  b0 : Below W0.heap.size W0 w1
  row : DayAt w1 w.heap.size 0 0 0
theorem DK.new (w : World) : DK w (w.alloc (.cells #[.int .i64 0, .int .i64 0, .int .i64 0] 23)) (w.alloc (.cells #[.int .i64 0, .int .i64 0, .int .i64 0] 23)) :=
  ⟨bal (Below.refl _ _) _, Below.refl _ _, heap_alloc_new w _⟩
theorem DK.go {w W0 w1 w2 : World} (h : DK w W0 w1) (hb : Below w1.heap.size w1 w2) : DK w W0 w2 :=
  ⟨h.b.trans (hb.mono h.b.size), h.b0.trans (hb.mono h.b0.size), h.row.below hb⟩
theorem DK.end3 {w W0 w1 : World} (h : DK w W0 w1) (x y z : Value) : Below w.heap.size w (((w1.setCell ⟨w.heap.size, 0, none⟩ x).setCell ⟨w.heap.size, 1, none⟩ y).setCell ⟨w.heap.size, 2, none⟩ z) := ((h.b.setCell (Nat.le_refl _) _).setCell (Nat.le_refl _) _).setCell (Nat.le_refl _) _

set_option maxRecDepth 100000 in
theorem refDay_no (t : ByteArray) (w : World) (hT : Tabs w) (hs : t.size ≤ 4398046511104) (s : Stp) (d : Nat) (H : DayP t.data.toList s d) (hno : ¬ (s.at_ = (patD d).length ∧ s.at_ = t.data.toList.length)) :
    Calls Tryd.prog 23 #[.string t] w fun e w' => e = .returned (pdV (pdE t s)) ∧ Below w.heap.size w w' := by
  have F := ltrs_fact t
  have hn : s.at_ ≤ nAF t.data.toList := by
    rw [H.run.at_.uniq (mF_at _ _)]
    have h := dayPL_ok d (by have := H.d2; show d < 2; omega)
    rw [dayPL_get d H.d2] at h
    exact mF_n F h
  obtain ⟨e1, e2⟩ := stop_no rfl F H.run hn hno
  have hm : pdE t s = (0, 0, 0, (s.at_ : Int), if s.at_ = (ltrs t).length then 3 else 4) := by
    unfold pdE
    rw [if_pos e2, e1]
  rw [hm]
  have HB := Lib.hid (fun (W : World) (v v2 : Value) (hv : Ltr W v (ltrs t)) (hv2 : Ltr W v2 (dayPL.map toB)) => best_day W v v2 t _ _ _ F hv hv2 s d H (-1) (if_neg hno))
  obtain ⟨p, hp⟩ : ∃ p, s.at_ = p := ⟨_, rfl⟩
  rw [hp] at HB ⊢
  have HWr := Lib.hid (fun (W : World) (v : Value) (hv : Ltr W v (ltrs t)) => wrong_any W v (ltrs t) hv p)
  generalize (if p = (ltrs t).length then (3 : Int) else 4) = er at *
  clear hm e1 e2 hn hno H F hp s
  have HL := Lib.hid (fun (W : World) (hT : Tabs W) => refLetters t W hT hs)
  generalize hLL : ltrs t = L at *
  clear hLL hs
  unfold pdV dayV
  obtain ⟨W0, hW⟩ : ∃ W0, w.alloc (.cells #[.int .i64 0, .int .i64 0, .int .i64 0] 23) = W0 := ⟨_, rfl⟩
  have K0 := Lib.hid (DK.new w)
  rw [hW] at K0
  have hT0 := Lib.hid (hT.below K0.out.b (Nat.le_refl _))
  have HW := Lib.hid hW
  clear hW hT
  go_enter Tryd.func23, Tryd.ntmps23
  go_wp2_with fail
  rw [HW.out]
  refine (HL.out _ hT0.out).mono ?_
  rintro e w1 ⟨v, rfl, hv, hb1⟩
  have K1 := Lib.hid (K0.out.go hb1)
  obtain ⟨W2, hW2⟩ : ∃ W2, w1.alloc (.cells #[Value.string ⟨#[57, 45, 77, 77, 77, 45, 57, 57, 57, 57]⟩, Value.string ⟨#[57, 57, 45, 77, 77, 77, 45, 57, 57, 57, 57]⟩] 9) = W2 := ⟨_, rfl⟩
  have hb2 : Below w1.heap.size w1 W2 := by rw [← hW2]; exact bal (Below.refl _ _) _
  have HV2 := Lib.hid (hv.below hb2)
  have HP2 := Lib.hid (show Ltr W2 (.slice (some ⟨w1.heap.size, 0, none⟩) 2 2) (dayPL.map toB) by rw [← hW2]; exact Ltr.lit w1 _ _ dayPL_cells 2 rfl)
  have K2 := Lib.hid (K1.out.go hb2)
  have HW2 := Lib.hid hW2
  clear K0 hv hb1 hW2 hb2 K1
  go_wp2_with fail
  rw [HW2.out]
  refine (HB.out _ _ _ HV2.out HP2.out).mono ?_
  rintro e w3 ⟨rfl, hb3⟩
  have K3 := Lib.hid (K2.out.go hb3)
  have HV3 := Lib.hid (HV2.out.below hb3)
  clear K2 HV2 HP2 hb3
  go_wp2_with fail
  refine (HWr.out _ _ HV3.out).mono ?_
  rintro e w4 ⟨rfl, rfl⟩
  have k0 := K3.out.row.c0
  have k1 := K3.out.row.c1
  have k2 := K3.out.row.c2
  have f0 := K3.out.row.f 0
  have f1 := K3.out.row.f 1
  have f2 := K3.out.row.f 2
  go_wp2
  exact bodyPost_ret (v := .tuple #[.agg #[.int .i64 0, .int .i64 0, .int .i64 0], .int .i64 (p : Int), .int .i64 er]) (by simp [results, Tryd.results23, go_sem, k0, k1, k2]) rfl ⟨rfl, K3.out.end3 _ _ _⟩

structure YD (Wb : World) (v : Value) (d : Nat) (D MO Y : Int) : Prop where
  day : ∀ wx, Below Wb.heap.size Wb wx → ∀ x : Int, x = (d : Int) + 1 → Calls Tryd.prog 49 #[v, .int .i64 0, .int .i64 x] wx fun e w' => e = .returned (.int .i64 D) ∧ wx = w'
  mon : ∀ wx g, Below Wb.heap.size Wb wx → Names monthsL 12 g wx → ∀ x : Int, x = (d : Int) + 2 → Calls Tryd.prog 47 #[v, .int .i64 x, .slice (some ⟨g, 0, none⟩) 12 12] wx fun e w' => e = .returned (.int .i64 MO) ∧ Below wx.heap.size wx w'
  year : ∀ wx, Below Wb.heap.size Wb wx → ∀ x : Int, x = (d : Int) + 6 → Calls Tryd.prog 49 #[v, .int .i64 x, .int .i64 4] wx fun e w' => e = .returned (.int .i64 Y) ∧ wx = w'
theorem yd_of {t : ByteArray} {bs : List UInt8} {L : List ByteArray} {Wb : World} {v : Value} (hv : Ltr Wb v L) (hS : Sg L bs) {s : Stp} {d : Nat} (hd : d < 2) (D : FullD bs s d) : YD Wb v d s.day (s.month - 1) s.year := by
  have h0 : 0 < L.length := by rw [hS.len]; have := D.month.1; omega
  refine ⟨fun wx hb x hx => ?_, fun wx g hb hN x hx => ?_, fun wx hb x hx => ?_⟩
  · rw [D.day.2]; exact val_call hv hS hb _ _ D.day.1 (by omega) h0 (by omega) _ _ rfl (by rw [hx]; omega)
  · have hm : idxF monthsL (low [nb bs (d + 2), nb bs (d + 2 + 1), nb bs (d + 2 + 2)]) 0 12 + 1 = s.month := D.month.2
    exact idx_call (t := t) hv hS monthsL 12 g hb hN (d + 2) (by have := D.month.1; omega) (by omega) (by omega) (by omega) _ (by omega) _ (by rw [hx]; omega)
  · rw [D.year.2]; exact val_call hv hS hb (d + 6) _ D.year.1 (by omega) h0 (by omega) _ _ (by rw [hx]; omega) rfl
theorem idxF_bd (l x : List UInt8) : ∀ f k, -1 ≤ idxF l x k f ∧ idxF l x k f < (k : Int) + f
  | 0, k => by unfold idxF; omega
  | f + 1, k => by
    unfold idxF
    have := idxF_bd l x f (k + 1)
    split <;> omega

set_option maxRecDepth 100000 in
theorem refDay_yes (t : ByteArray) (w : World) (hT : Tabs w) (hs : t.size ≤ 4398046511104) (s : Stp) (d : Nat) (H : DayP t.data.toList s d) (h1 : s.at_ = (patD d).length) (h2 : s.at_ = t.data.toList.length) :
    Calls Tryd.prog 23 #[.string t] w fun e w' => e = .returned (pdV (pdE t s)) ∧ Below w.heap.size w w' := by
  have F := ltrs_fact t
  have D := H.full h1
  have hn : s.at_ ≤ nAF t.data.toList := by
    rw [H.run.at_.uniq (mF_at _ _)]
    have h := dayPL_ok d (by have := H.d2; show d < 2; omega)
    rw [dayPL_get d H.d2] at h
    exact mF_n F h
  have hS := sg_of F (by have := F.le; omega)
  have hst := stop_yes rfl H.run h1 h2
  have hm : pdE t s = if rt s.year s.month s.day = true then (s.year, s.month, s.day, 0, 0) else (0, 0, 0, 0, 2) := by
    unfold pdE
    rw [hst, if_neg (by decide)]
  rw [hm]
  have hmb := idxF_bd monthsL (low [nb t.data.toList (d + 2), nb t.data.toList (d + 3), nb t.data.toList (d + 4)]) 12 0
  have hme := D.month.2
  have hd2 := H.d2
  have HB := Lib.hid (fun (W : World) (v v2 : Value) (hv : Ltr W v (ltrs t)) (hv2 : Ltr W v2 (dayPL.map toB)) => best_day W v v2 t _ _ _ F hv hv2 s d H d (if_pos ⟨h1, h2⟩))
  have HY := Lib.hid (fun (W : World) (v : Value) (hv : Ltr W v (ltrs t)) => yd_of (t := t) hv hS hd2 D)
  obtain ⟨p, hp⟩ : ∃ p, s.at_ = p := ⟨_, rfl⟩
  rw [hp] at HB
  have HL := Lib.hid (fun (W : World) (hT : Tabs W) => refLetters t W hT hs)
  obtain ⟨MO, hMO⟩ : ∃ MO, s.month - 1 = MO := ⟨_, rfl⟩
  rw [hMO] at HY
  have qm : IntKind.i64.wrap (1 + MO) = s.month := by rw [IntWalk.i64_in _ (by omega)]; omega
  have qd1 : IntKind.i64.wrap ((d : Int) + 1) = (d : Int) + 1 := IntWalk.i64_in _ (by omega)
  have qd2 : IntKind.i64.wrap ((d : Int) + 2) = (d : Int) + 2 := IntWalk.i64_in _ (by omega)
  have qd6 : IntKind.i64.wrap ((d : Int) + 6) = (d : Int) + 6 := IntWalk.i64_in _ (by omega)
  have qdn : ¬ (d : Int) < 0 := by omega
  have HR := Lib.hid (fun (W : World) => refRight s.year s.month s.day W)
  generalize s.year = Y at *
  generalize s.month = M1 at *
  generalize s.day = DD at *
  generalize hLL : ltrs t = L at *
  clear hm hS hst hLL hs hmb hme D H F hp h1 h2 hn s hMO
  unfold dayV at HR
  unfold pdV dayV
  obtain ⟨W0, hW⟩ : ∃ W0, w.alloc (.cells #[.int .i64 0, .int .i64 0, .int .i64 0] 23) = W0 := ⟨_, rfl⟩
  have K0 := Lib.hid (DK.new w)
  rw [hW] at K0
  have hT0 := Lib.hid (hT.below K0.out.b (Nat.le_refl _))
  have HW := Lib.hid hW
  clear hW hT
  go_enter Tryd.func23, Tryd.ntmps23
  go_wp2_with fail
  rw [HW.out]
  refine (HL.out _ hT0.out).mono ?_
  rintro e w1 ⟨v, rfl, hv, hb1⟩
  have K1 := Lib.hid (K0.out.go hb1)
  obtain ⟨W2, hW2⟩ : ∃ W2, w1.alloc (.cells #[Value.string ⟨#[57, 45, 77, 77, 77, 45, 57, 57, 57, 57]⟩, Value.string ⟨#[57, 57, 45, 77, 77, 77, 45, 57, 57, 57, 57]⟩] 9) = W2 := ⟨_, rfl⟩
  have hb2 : Below w1.heap.size w1 W2 := by rw [← hW2]; exact bal (Below.refl _ _) _
  have HV2 := Lib.hid (hv.below hb2)
  have HP2 := Lib.hid (show Ltr W2 (.slice (some ⟨w1.heap.size, 0, none⟩) 2 2) (dayPL.map toB) by rw [← hW2]; exact Ltr.lit w1 _ _ dayPL_cells 2 rfl)
  have K2 := Lib.hid (K1.out.go hb2)
  have HW2 := Lib.hid hW2
  clear K0 hv hb1 hW2 hb2 K1
  go_wp2_with fail
  rw [HW2.out]
  refine (HB.out _ _ _ HV2.out HP2.out).mono ?_
  rintro e w3 ⟨rfl, hb3⟩
  have K3 := Lib.hid (K2.out.go hb3)
  have HY3 := Lib.hid (HY.out _ _ (HV2.out.below hb3))
  clear K2 HV2 HP2 hb3
  go_wp2_with fail
  refine (HY3.out.day _ (Below.refl _ _) _ rfl).mono ?_
  rintro e w4 ⟨rfl, rfl⟩
  go_wp2_with fail
  refine (refMonths _).mono ?_
  rintro e w5 ⟨rfl, hb5, hN5⟩
  have HN5 := Lib.hid hN5
  have HB5 := Lib.hid hb5
  clear hN5 hb5
  go_wp2_with fail
  refine (HY3.out.mon _ _ HB5.out HN5.out _ rfl).mono ?_
  rintro e w6 ⟨rfl, hb6⟩
  have hb60 := HB5.out.trans (hb6.mono HB5.out.size)
  have HB6 := Lib.hid hb60
  clear hb6 hb60 HB5 HN5
  go_wp2_with fail
  refine (HY3.out.year _ HB6.out _ rfl).mono ?_
  rintro e w7 ⟨rfl, rfl⟩
  have K6 := Lib.hid (K3.out.go HB6.out)
  obtain ⟨W7, hW7⟩ : ∃ W7, w6.alloc (.cells #[.int .i64 Y, .int .i64 M1, .int .i64 DD] 23) = W7 := ⟨_, rfl⟩
  have hd7 : DayAt W7 w6.heap.size Y M1 DD := by rw [← hW7]; exact heap_alloc_new w6 _
  have hb7 : Below w6.heap.size w6 W7 := by rw [← hW7]; exact bal (Below.refl _ _) _
  have K7 := Lib.hid (K6.out.go hb7)
  have HD7 := Lib.hid hd7
  have HW7 := Lib.hid hW7
  clear hd7 hb7 hW7 K6 HB6
  go_wp2_with fail
  rw [HW7.out]
  refine (HR.out _).mono ?_
  rintro e w8 ⟨rfl, hb8⟩
  have K8 := Lib.hid (K7.out.go hb8)
  have hd8 := HD7.out.below hb8
  have d0 := hd8.c0
  have d1 := hd8.c1
  have d2 := hd8.c2
  have k0 := K8.out.row.c0
  have k1 := K8.out.row.c1
  have k2 := K8.out.row.c2
  have f0 := K8.out.row.f 0
  have f1 := K8.out.row.f 1
  have f2 := K8.out.row.f 2
  clear hd8 hb8
  cases hr : rt Y M1 DD with
  | true =>
    go_wp2
    exact bodyPost_ret (v := .tuple #[.agg #[.int .i64 Y, .int .i64 M1, .int .i64 DD], .int .i64 0, .int .i64 0]) (by simp [results, Tryd.results23, go_sem, k0, k1, k2]) rfl ⟨rfl, K8.out.end3 _ _ _⟩
  | false =>
    go_wp2
    all_goals exact bodyPost_ret (v := .tuple #[.agg #[.int .i64 0, .int .i64 0, .int .i64 0], .int .i64 0, .int .i64 2]) (by simp [results, Tryd.results23, go_sem, k0, k1, k2]) rfl ⟨rfl, K8.out.end3 _ _ _⟩
theorem refParseDay (t : ByteArray) (w : World) (hT : Tabs w) (hs : t.size ≤ 4398046511104) :
    Calls Tryd.prog 23 #[.string t] w fun e w' => e = .returned (pdV (pdR t)) ∧ Below w.heap.size w w' := by
  obtain ⟨d, H⟩ := day_run (t := t) (bs := t.data.toList) rfl
  unfold pdR
  by_cases h : (monthYearS t [45] (shortDayS t s00)).at_ = (patD d).length ∧ (monthYearS t [45] (shortDayS t s00)).at_ = t.data.toList.length
  · exact refDay_yes t w hT hs _ d H h.1 h.2
  · exact refDay_no t w hT hs _ d H h
end Go.Proofs.YtkkmjadkagpihaaDoor
namespace Go.Proofs.YtkkmjadkagpihaaDoor
open Go Go.RowKit

def shortPL : List (List UInt8) := [patR 0 0, patR 0 1, patR 1 0, patR 1 1]
theorem shortPL_ok : ∀ k (h : k < shortPL.length), Pat shortPL[k] := by
  intro k h
  have h' : k < 4 := h
  rcases (show k = 0 ∨ k = 1 ∨ k = 2 ∨ k = 3 by omega) with rfl | rfl | rfl | rfl
  · exact pat_ok (P := patR 0 0) (by decide +kernel)
  · exact pat_ok (P := patR 0 1) (by decide +kernel)
  · exact pat_ok (P := patR 1 0) (by decide +kernel)
  · exact pat_ok (P := patR 1 1) (by decide +kernel)
theorem shortPL_get (b z : Nat) (hb : b < 2) (hz : z < 2) (h' : 2 * b + z < shortPL.length) : shortPL[2 * b + z] = patR b z := by
  rcases (show b = 0 ∨ b = 1 by omega) with rfl | rfl <;> rcases (show z = 0 ∨ z = 1 by omega) with rfl | rfl <;> rfl
def sc0 : List UInt8 := [57, 57, 45, 77, 77, 77, 45, 57, 57, 57, 57, 32, 50, 51, 58, 53, 57, 58, 53, 57, 32, 43, 50, 51, 53, 57]
theorem shortPL_cells : #[Value.string ⟨#[57, 57, 45, 77, 77, 77, 45, 57, 57, 57, 57, 32, 50, 51, 58, 53, 57, 58, 53, 57, 32, 43, 50, 51, 53, 57]⟩, Value.string ⟨#[57, 57, 45, 77, 77, 77, 45, 57, 57, 57, 57, 32, 50, 51, 58, 53, 57, 58, 53, 57, 32, 45, 50, 51, 53, 57]⟩, Value.string ⟨#[32, 57, 45, 77, 77, 77, 45, 57, 57, 57, 57, 32, 50, 51, 58, 53, 57, 58, 53, 57, 32, 43, 50, 51, 53, 57]⟩, Value.string ⟨#[32, 57, 45, 77, 77, 77, 45, 57, 57, 57, 57, 32, 50, 51, 58, 53, 57, 58, 53, 57, 32, 45, 50, 51, 53, 57]⟩] = ((shortPL.map toB).map Value.string).toArray := rfl
theorem best_short (W : World) (v v2 : Value) (t : ByteArray) (bs : List UInt8) (L : List ByteArray) (n : Nat) (F : LtrF t bs L n) (hv : Ltr W v L) (hv2 : Ltr W v2 (shortPL.map toB)) (s : Stp) (b z : Nat) (H : ShortP bs s b z) (I : Int)
    (hI : (if s.at_ = (patR b z).length ∧ s.at_ = bs.length then ((2 * b + z : Nat) : Int) else -1) = I) :
    Calls Tryd.prog 45 #[v, v2] W fun e w' => e = .returned (.tuple #[.int .i64 I, .int .i64 (s.at_ : Int)]) ∧ Below W.heap.size W w' := by
  have h2 : shortPL.length = 4 := rfl
  have hb := H.b2
  have hz := H.z2
  refine best_own W v v2 t bs L n F hv shortPL shortPL_ok hv2 (by omega) (2 * b + z) (by omega) s.at_ (by rw [shortPL_get b z hb hz]; exact H.run.at_) (fun j h hne => ?_) I (by rw [shortPL_get b z hb hz]; exact hI)
  obtain ⟨b', z', hb', hz', rfl⟩ : ∃ b' z', b' < 2 ∧ z' < 2 ∧ j = 2 * b' + z' := ⟨j / 2, j % 2, by omega, by omega, by omega⟩
  rw [shortPL_get b' z' hb' hz']
  exact H.other b' z' hb' hz' (fun ⟨x, y⟩ => hne (by rw [x, y]))

set_option maxRecDepth 100000 in
theorem refPS_no (t : ByteArray) (w : World) (hT : Tabs w) (hs : t.size ≤ 4398046511104) (s : Stp) (b z : Nat) (H : ShortP t.data.toList s b z) (hno : ¬ (s.at_ = (patR b z).length ∧ s.at_ = t.data.toList.length)) :
    Calls Tryd.prog 21 #[.string t] w fun e w' => e = .returned (momV (momR t s)) ∧ Below w.heap.size w w' := by
  have F := ltrs_fact t
  have hn : s.at_ ≤ nAF t.data.toList := by
    rw [H.run.at_.uniq (mF_at _ _)]
    have h := shortPL_ok (2 * b + z) (by have := H.b2; have := H.z2; show 2 * b + z < 4; omega)
    rw [shortPL_get b z H.b2 H.z2] at h
    exact mF_n F h
  obtain ⟨e1, e2⟩ := stop_no rfl F H.run hn hno
  have hm : momR t s = (0, 0, (s.at_ : Int), if s.at_ = (ltrs t).length then 3 else 4) := by
    unfold momR
    rw [if_pos e2, e1]
  rw [hm]
  have HB := Lib.hid (fun (W : World) (v v2 : Value) (hv : Ltr W v (ltrs t)) (hv2 : Ltr W v2 (shortPL.map toB)) => best_short W v v2 t _ _ _ F hv hv2 s b z H (-1) (if_neg hno))
  obtain ⟨p, hp⟩ : ∃ p, s.at_ = p := ⟨_, rfl⟩
  rw [hp] at HB ⊢
  have HWr := Lib.hid (fun (W : World) (v : Value) (hv : Ltr W v (ltrs t)) => wrong_any W v (ltrs t) hv p)
  generalize (if p = (ltrs t).length then (3 : Int) else 4) = er at *
  clear hm e1 e2 hn hno H F hp s
  have HL := Lib.hid (fun (W : World) (hT : Tabs W) => refLetters t W hT hs)
  generalize hLL : ltrs t = L at *
  clear hLL hs
  unfold momV timeV
  obtain ⟨W0, hW⟩ : ∃ W0, w.alloc (.cells #[.int .i64 0, .int .i64 0] 35) = W0 := ⟨_, rfl⟩
  have K0 := Lib.hid (TK.new w)
  rw [hW] at K0
  have hT0 := Lib.hid (hT.below K0.out.b (Nat.le_refl _))
  have HW := Lib.hid hW
  clear hW hT
  go_enter Tryd.func21, Tryd.ntmps21
  go_wp2_with fail
  rw [HW.out]
  refine (HL.out _ hT0.out).mono ?_
  rintro e w1 ⟨v, rfl, hv, hb1⟩
  have K1 := Lib.hid (K0.out.go hb1)
  obtain ⟨W2, hW2⟩ : ∃ W2, w1.alloc (.cells (((shortPL.map toB).map Value.string).toArray) 9) = W2 := ⟨_, rfl⟩
  have hb2 : Below w1.heap.size w1 W2 := by rw [← hW2]; exact bal (Below.refl _ _) _
  have HV2 := Lib.hid (hv.below hb2)
  have HP2 := Lib.hid (show Ltr W2 (.slice (some ⟨w1.heap.size, 0, none⟩) 4 4) (shortPL.map toB) by rw [← hW2]; exact Ltr.lit w1 _ _ rfl 4 rfl)
  have K2 := Lib.hid (K1.out.go hb2)
  rw [← shortPL_cells] at hW2
  have HW2 := Lib.hid hW2
  clear K0 hv hb1 hW2 hb2 K1
  go_wp2_with fail
  rw [HW2.out]
  refine (HB.out _ _ _ HV2.out HP2.out).mono ?_
  rintro e w3 ⟨rfl, hb3⟩
  have K3 := Lib.hid (K2.out.go hb3)
  have HV3 := Lib.hid (HV2.out.below hb3)
  clear K2 HV2 HP2 hb3
  go_wp2_with fail
  refine (HWr.out _ _ HV3.out).mono ?_
  rintro e w4 ⟨rfl, rfl⟩
  have k0 := K3.out.c0
  have k1 := K3.out.c1
  have f0 := K3.out.f0
  have f1 := K3.out.f1
  go_wp2
  exact bodyPost_ret (v := .tuple #[.agg #[.int .i64 0, .int .i64 0], .int .i64 (p : Int), .int .i64 er]) (by simp [results, Tryd.results21, go_sem, k0, k1]) rfl ⟨rfl, (K3.out.b.setCell (Nat.le_refl _) _).setCell (Nat.le_refl _) _⟩
end Go.Proofs.YtkkmjadkagpihaaDoor
namespace Go.Proofs.YtkkmjadkagpihaaDoor
open Go Go.RowKit

structure YS (Wb : World) (v : Value) (L : List ByteArray) (b : Nat) (D1 D MO Y H MI S Z : Int) : Prop where
  day1 : ∀ wx, Below Wb.heap.size Wb wx → Calls Tryd.prog 49 #[v, .int .i64 1, .int .i64 1] wx fun e w' => e = .returned (.int .i64 D1) ∧ wx = w'
  day2 : b = 0 → ∀ wx, Below Wb.heap.size Wb wx → Calls Tryd.prog 49 #[v, .int .i64 0, .int .i64 2] wx fun e w' => e = .returned (.int .i64 D) ∧ wx = w'
  day3 : b = 1 → D = D1
  mon : ∀ wx g, Below Wb.heap.size Wb wx → Names monthsL 12 g wx → Calls Tryd.prog 47 #[v, .int .i64 3, .slice (some ⟨g, 0, none⟩) 12 12] wx fun e w' => e = .returned (.int .i64 MO) ∧ Below wx.heap.size wx w'
  year : ∀ wx, Below Wb.heap.size Wb wx → Calls Tryd.prog 49 #[v, .int .i64 7, .int .i64 4] wx fun e w' => e = .returned (.int .i64 Y) ∧ wx = w'
  hour : ∀ wx, Ltr wx v L → Calls Tryd.prog 49 #[v, .int .i64 12, .int .i64 2] wx fun e w' => e = .returned (.int .i64 H) ∧ w' = wx
  min : ∀ wx, Ltr wx v L → Calls Tryd.prog 49 #[v, .int .i64 15, .int .i64 2] wx fun e w' => e = .returned (.int .i64 MI) ∧ w' = wx
  sec : ∀ wx, Ltr wx v L → Calls Tryd.prog 49 #[v, .int .i64 18, .int .i64 2] wx fun e w' => e = .returned (.int .i64 S) ∧ w' = wx
  off : ∀ wx, Ltr wx v L → Calls Tryd.prog 52 #[v, .int .i64 21] wx fun e w' => e = .returned (.int .i64 Z) ∧ w' = wx
theorem ys_of {t : ByteArray} {bs : List UInt8} {L : List ByteArray} {Wb : World} {v : Value} (hv : Ltr Wb v L) (hS : Sg L bs) {s : Stp} {b z : Nat} (hb : b < 2) (D : FullS bs s b z) :
    YS Wb v L b (valR bs 1 1) s.day (s.month - 1) s.year (valR bs 12 2) (valR bs 15 2) (valR bs 18 2) s.zone := by
  have h0 : 0 < L.length := by rw [hS.len]; have := D.month.1; omega
  refine ⟨fun wx hb => ?_, fun h wx hb => ?_, fun h => ?_, fun wx g hb hN => ?_, fun wx hb => ?_, fun wx hb => ?_, fun wx hb => ?_, fun wx hb => ?_, fun wx hb => ?_⟩
  · exact val_call hv hS hb 1 1 D.day1 (by omega) h0 (by omega) _ _ rfl rfl
  · have := D.day
    rw [if_neg (by omega)] at this
    rw [this.2]
    exact val_call hv hS hb 0 2 this.1 (by omega) h0 (by omega) _ _ rfl rfl
  · have := D.day
    rwa [if_pos h] at this
  · have hm : idxF monthsL (low [nb bs 3, nb bs (3 + 1), nb bs (3 + 2)]) 0 12 + 1 = s.month := D.month.2
    exact idx_call (t := t) hv hS monthsL 12 g hb hN 3 (by have := D.month.1; omega) (by omega) (by omega) (by omega) _ (by omega) _ rfl
  · rw [D.year.2]; exact val_call hv hS hb 7 4 D.year.1 (by omega) h0 (by omega) _ _ rfl rfl
  · exact (val_call hb hS (Below.refl _ _) 12 2 D.hour (by omega) h0 (by omega) _ _ rfl rfl).mono fun _ _ q => ⟨q.1, q.2.symm⟩
  · exact (val_call hb hS (Below.refl _ _) 15 2 D.min (by omega) h0 (by omega) _ _ rfl rfl).mono fun _ _ q => ⟨q.1, q.2.symm⟩
  · exact (val_call hb hS (Below.refl _ _) 18 2 D.sec (by omega) h0 (by omega) _ _ rfl rfl).mono fun _ _ q => ⟨q.1, q.2.symm⟩
  · exact (off_call hb hS (Below.refl _ _) 21 z _ D.zone (by omega) _ rfl).mono fun _ _ q => ⟨q.1, q.2.symm⟩
theorem DayAt.set2 {w : World} {b : Nat} {y m d : Int} (h : DayAt w b y m d) (x : Int) : DayAt (w.setCell ⟨b, 2, none⟩ (.int .i64 x)) b y m x := by
  unfold DayAt at *
  rw [heap_setCell_same w b 2 _ _ _ h]; rfl

theorem fr_day {R bd : Nat} {W u : World} {y m d : Int} (h : DayAt W bd y m d) (hne : bd ≠ R) (hu : Fr (· = R) W u) : DayAt u bd y m d := (hu.block _ h.lt hne).trans h
theorem fr_ltr {R : Nat} {W u : World} {v : Value} {L : List ByteArray} (h : Ltr W v L) (hg : ∀ g n c, v = .slice (some ⟨g, 0, none⟩) n c → g ≠ R) (hu : Fr (· = R) W u) : Ltr u v L := by
  obtain ⟨a, c, rfl, hc, hx⟩ := h
  refine ⟨a, c, rfl, hc, fun i hi => ?_⟩
  obtain ⟨g, rfl, hg1, hcc⟩ := hx i hi
  refine ⟨g, rfl, Nat.lt_of_lt_of_le hg1 hu.size, ?_⟩
  have hb := hu.block g hg1 (hg g _ _ rfl)
  rw [← hcc]
  simp [World.cell?, hb]
theorem fr_two {R : Nat} {W u : World} (h : Fr (· = R) W u) (x y : Value) : Fr (· = R) W ((u.setCell ⟨R, 0, none⟩ x).setCell ⟨R, 1, none⟩ y) := Fr.setCell (Fr.setCell h ⟨R, 0, none⟩ (Or.inl rfl) x) ⟨R, 1, none⟩ (Or.inl rfl) y
theorem ltr_ne {W : World} {v : Value} {L : List ByteArray} {R : Nat} {k : Int} (h : Ltr W v L) (h0 : 0 < L.length) (hR : W.cell? ⟨R, 0, none⟩ = some (.int .i64 k)) : ∀ g n c, v = .slice (some ⟨g, 0, none⟩) n c → g ≠ R := by
  rintro g n c rfl rfl
  obtain ⟨a, c', e, hc, hx⟩ := h
  obtain ⟨g', e2, _, hcc⟩ := hx 0 h0
  injection e with e3
  rw [e2] at e3
  injection e3 with e4
  injection e4 with e5
  rw [← e5, hR] at hcc
  injection hcc with e6
  exact Value.noConfusion e6
set_option maxRecDepth 100000 in
set_option maxHeartbeats 2000000 in
theorem short_walk (t : ByteArray) (w : World) (L : List ByteArray) (n0 p b : Nat) (D1 D MO Y H MI S Z : Int) (hT : Tabs w)
    (HL : Hid (∀ W, Tabs W → Calls Tryd.prog 43 #[.string t] W fun e w' => ∃ v, e = .returned v ∧ Ltr w' v L ∧ Below W.heap.size W w'))
    (HB : Hid (∀ W v v2, Ltr W v L → Ltr W v2 (shortPL.map toB) → Calls Tryd.prog 45 #[v, v2] W fun e w' => e = .returned (.tuple #[.int .i64 (n0 : Int), .int .i64 (p : Int)]) ∧ Below W.heap.size W w'))
    (HY : Hid (∀ W v, Ltr W v L → YS W v L b D1 D MO Y H MI S Z))
    (hb : b < 2) (hL0 : 0 < L.length) (hn0 : n0 < 2 ↔ b = 0)
    (hMO : 0 ≤ MO + 1) (hMO2 : MO ≤ 12) (hH0 : 0 ≤ 3600 * H + 60 * MI + S) (hH1 : 3600 * H + 60 * MI + S < 86400) (hh0 : 0 ≤ H) (hh1 : H ≤ 99) (hm0 : 0 ≤ MI) (hm1 : MI ≤ 99) (hZ0 : -1439 ≤ Z) (hZ1 : Z ≤ 1439) :
    Calls Tryd.prog 21 #[.string t] w fun e w' => e = .returned (momV (if rt Y (MO + 1) D = true then (num Y (MO + 1) D * 86400 + (3600 * H + 60 * MI + S) - 60 * Z, Z, 0, 0) else (0, 0, 0, 2))) ∧ Below w.heap.size w w' := by
  obtain ⟨M1, hM1⟩ : ∃ M1, MO + 1 = M1 := ⟨_, rfl⟩
  obtain ⟨CL, hCL⟩ : ∃ CL, 3600 * H + 60 * MI + S = CL := ⟨_, rfl⟩
  rw [hM1, hCL]
  obtain ⟨SC, ZC, ER, HMo, hRes⟩ : ∃ SC ZC ER : Int, Hid (∀ W, Calls Tryd.prog 51 #[.agg #[.int .i64 Y, .int .i64 M1, .int .i64 D], .int .i64 CL, .int .i64 Z] W fun e w' => e = .returned (.tuple #[.agg #[.int .i64 SC, .int .i64 ZC], .int .i64 0, .int .i64 ER]) ∧ Below W.heap.size W w') ∧ (if rt Y M1 D = true then (num Y M1 D * 86400 + CL - 60 * Z, Z, 0, 0) else (0, 0, 0, 2)) = ((SC, ZC, 0, ER) : Int × Int × Int × Int) := by
    cases hr : rt Y M1 D with
    | true => exact ⟨_, _, _, Lib.hid (fun W => refMoment_yes Y M1 D CL Z W hr (by omega) (by omega) hZ0 hZ1), by rw [if_pos rfl]⟩
    | false => exact ⟨_, _, _, Lib.hid (fun W => refMoment_no Y M1 D CL Z W hr (by omega) (by omega) hZ0 hZ1), by rw [if_neg (by decide)]⟩
  rw [hRes]
  clear hRes
  obtain ⟨W0, hW⟩ : ∃ W0, w.alloc (.cells #[.int .i64 0, .int .i64 0] 35) = W0 := ⟨_, rfl⟩
  have K0 := Lib.hid (TK.new w)
  rw [hW] at K0
  have hT0 := Lib.hid (hT.below K0.out.b (Nat.le_refl _))
  have HW := Lib.hid hW
  have hn0i : ¬ (n0 : Int) < 0 := by omega
  obtain ⟨q0, hq0⟩ : ∃ q0 : Bool, decide ((n0 : Int) < 2) = q0 := ⟨_, rfl⟩
  have hq0b : (q0 = true ↔ b = 0) := by rw [← hq0, decide_eq_true_iff]; constructor <;> intro h <;> omega
  have HQ0 := Lib.hid hq0
  have HQB := Lib.hid hq0b
  have qm : IntKind.i64.wrap (1 + MO) = M1 := by rw [IntWalk.i64_in _ (by omega)]; omega
  have qm2 : IntKind.i64.wrap (3600 * H) = 3600 * H := IntWalk.i64_in _ (by omega)
  have qm3 : IntKind.i64.wrap (60 * MI) = 60 * MI := IntWalk.i64_in _ (by omega)
  have qm4 : IntKind.i64.wrap (3600 * H + 60 * MI) = 3600 * H + 60 * MI := IntWalk.i64_in _ (by omega)
  have qm5 : IntKind.i64.wrap (3600 * H + 60 * MI + S) = CL := by rw [hCL]; exact IntWalk.i64_in _ (by omega)
  have HB2 := Lib.hid hb
  unfold momV timeV
  clear hW hT hq0 hq0b hMO hMO2 hH0 hH1 hh0 hh1 hm0 hm1 hZ0 hZ1 hM1 hCL hn0 hb
  go_enter Tryd.func21, Tryd.ntmps21
  go_wp2_with fail
  rw [HW.out]
  refine (HL.out _ hT0.out).mono ?_
  rintro e w1 ⟨v, rfl, hv, hb1⟩
  have K1 := Lib.hid (K0.out.go hb1)
  obtain ⟨W2, hW2⟩ : ∃ W2, w1.alloc (.cells (((shortPL.map toB).map Value.string).toArray) 9) = W2 := ⟨_, rfl⟩
  have hb2 : Below w1.heap.size w1 W2 := by rw [← hW2]; exact bal (Below.refl _ _) _
  have HV2 := Lib.hid (hv.below hb2)
  have HP2 := Lib.hid (show Ltr W2 (.slice (some ⟨w1.heap.size, 0, none⟩) 4 4) (shortPL.map toB) by rw [← hW2]; exact Ltr.lit w1 _ _ rfl 4 rfl)
  have K2 := Lib.hid (K1.out.go hb2)
  rw [← shortPL_cells] at hW2
  have HW2 := Lib.hid hW2
  clear K0 hv hb1 hW2 hb2 K1
  go_wp2_with fail
  rw [HW2.out]
  refine (HB.out _ _ _ HV2.out HP2.out).mono ?_
  rintro e w3 ⟨rfl, hb3⟩
  have K3 := Lib.hid (K2.out.go hb3)
  have HV3 := Lib.hid (HV2.out.below hb3)
  have HY3 := Lib.hid (HY.out _ _ HV3.out)
  have HVG := Lib.hid (show ∀ g n c, v = .slice (some ⟨g, 0, none⟩) n c → g ≠ w.heap.size from ltr_ne HV3.out hL0 K3.out.c0)
  clear K2 HV2 HP2 hb3 HW HW2 hT0
  go_wp2_with fail
  refine (HY3.out.day1 _ (Below.refl _ _)).mono ?_
  rintro e w4 ⟨rfl, rfl⟩
  go_wp2_with fail
  refine (refMonths _).mono ?_
  rintro e w5 ⟨rfl, hb5, hN5⟩
  have HN5 := Lib.hid hN5
  have HB5 := Lib.hid hb5
  clear hN5 hb5
  go_wp2_with fail
  refine (HY3.out.mon _ _ HB5.out HN5.out).mono ?_
  rintro e w6 ⟨rfl, hb6⟩
  have HB6 := Lib.hid (HB5.out.trans (hb6.mono HB5.out.size))
  clear hb6 HB5 HN5
  go_wp2_with fail
  refine (HY3.out.year _ HB6.out).mono ?_
  rintro e w7 ⟨rfl, rfl⟩
  obtain ⟨W7, hW7⟩ : ∃ W7, w6.alloc (.cells #[.int .i64 Y, .int .i64 M1, .int .i64 D1] 23) = W7 := ⟨_, rfl⟩
  have HD7 := Lib.hid (show DayAt W7 w6.heap.size Y M1 D1 by rw [← hW7]; exact heap_alloc_new w6 _)
  have HB7 := Lib.hid (show Below w3.heap.size w3 W7 by rw [← hW7]; exact bal HB6.out _)
  have hsz := HB6.out.size
  have HW7 := Lib.hid hW7
  obtain ⟨bd, hbd⟩ : ∃ bd, w6.heap.size = bd := ⟨_, rfl⟩
  clear hW7 HB6
  go_upto_if 42 with fail
  rw [HW7.out, HQ0.out]
  rw [hbd] at HD7 hsz
  go_cut [] from 43 (fun wx => DayAt wx bd Y M1 D ∧ Below w3.heap.size w3 wx)
  case first =>
    cases q0 with
    | true =>
      have hb0 := HQB.out.1 rfl
      go_wp2_with fail
      refine (HY3.out.day2 hb0 _ HB7.out).mono ?_
      rintro e w8 ⟨rfl, rfl⟩
      have c2 := HD7.out.c2
      have f2 := HD7.out.f 2
      go_wp2_with fail
      go_meet
      exact ⟨HD7.out.set2 D, HB7.out.setCell hsz _⟩
    | false =>
      have hb1 : b = 1 := by
        have := HQB.out; have := HB2.out
        by_cases h : b = 0
        · have := HQB.out.2 h; exact Bool.noConfusion this
        · omega
      go_wp2_with fail
      go_meet
      exact ⟨by rw [HY3.out.day3 hb1]; exact HD7.out, HB7.out⟩
  case rest =>
    obtain ⟨hday, hbc⟩ := hcut
    have hKc := K3.out.go hbc
    have HF0 := Lib.hid (show Fr (· = w.heap.size) wc.drew wc.drew from Fr.refl _ _)
    have hrow : wc.drew.heap[w.heap.size]? = some (.cells #[.int .i64 0, .int .i64 0] 35 (0, 0)) := hKc.row
    have hdy : DayAt wc.drew bd Y M1 D := hday
    have hvv : Ltr wc.drew v L := HV3.out.below (hbc.drew)
    have hne : bd ≠ w.heap.size := by have := hKc.b0.size; have := K3.out.b0.size; have h3 := (Array.getElem?_eq_some_iff.1 K3.out.row).1; omega
    have hg3 : ∀ g n c, v = .slice (some ⟨g, 0, none⟩) n c → g ≠ w.heap.size := HVG.out
    have HSD := Lib.hid (fun (u : World) (hu : Fr (· = w.heap.size) wc.drew u) => fr_day hdy hne hu)
    have HSL := Lib.hid (fun (u : World) (hu : Fr (· = w.heap.size) wc.drew u) => fr_ltr hvv hg3 hu)
    have d0 := hdy.c0
    have d1 := hdy.c1
    have d2 := hdy.c2
    have HROW := Lib.hid hrow
    have HBE := Lib.hid (show Below w.heap.size w wc.drew from hKc.b.drew)
    have HKS : Hid (∀ u : World, Fr (· = w.heap.size) wc.drew u → Fr (· = w.heap.size) wc.drew u ∧ u.cell? ⟨bd, 0, none⟩ = some (.int .i64 Y) ∧ u.cell? ⟨bd, 1, none⟩ = some (.int .i64 M1) ∧ u.cell? ⟨bd, 2, none⟩ = some (.int .i64 D)) := Lib.hid (fun u hu => ⟨hu, (fr_day hdy hne hu).c0, (fr_day hdy hne hu).c1, (fr_day hdy hne hu).c2⟩)
    clear hday hbc HD7 HB7 HW7 hKc hrow hdy hvv hne hg3 HSD
    go_upto_region 10 with fail
    go_region_held3 (fun u => Fr (· = w.heap.size) wc.drew u ∧ u.cell? ⟨bd, 0, none⟩ = some (.int .i64 Y) ∧ u.cell? ⟨bd, 1, none⟩ = some (.int .i64 M1) ∧ u.cell? ⟨bd, 2, none⟩ = some (.int .i64 D))
      (first | exact HKS.out _ HF0.out | exact HKS.out _ (by assumption) | exact HKS.out _ (fr_two (by assumption) _ _))
      (first
        | (go_at_call 49; ((with_reducible refine (HY3.out.hour _ (HSL.out _ (by first | assumption | exact HF0.out))).mono ?_); rintro e wn ⟨rfl, rfl⟩))
        | (go_at_call 49; ((with_reducible refine (HY3.out.min _ (HSL.out _ (by first | assumption | exact HF0.out))).mono ?_); rintro e wn ⟨rfl, rfl⟩))
        | (go_at_call 49; ((with_reducible refine (HY3.out.sec _ (HSL.out _ (by first | assumption | exact HF0.out))).mono ?_); rintro e wn ⟨rfl, rfl⟩))
        | (go_at_call 52; ((with_reducible refine (HY3.out.off _ (HSL.out _ (by first | assumption | exact HF0.out))).mono ?_); rintro e wn ⟨rfl, rfl⟩))
        | (go_at_call 51; ((with_reducible refine (HMo.out _).mono ?_); rintro e wm ⟨rfl, hbm⟩; have hfm : Fr (· = w.heap.size) wc.drew wm := Fr.of_below _ hbm; have hrm : wm.heap[w.heap.size]? = some (.cells #[.int .i64 0, .int .i64 0] 35 (0, 0)) := (hbm.block _ (Array.getElem?_eq_some_iff.1 HROW.out).1).trans HROW.out; have k0 := cell_of_row _ _ 0 _ _ _ hrm; have k1 := cell_of_row _ _ 1 _ _ _ hrm; have f0 := frozen_of_row _ _ 0 _ _ hrm; have f1 := frozen_of_row _ _ 1 _ _ hrm; have HBM := Lib.hid (HBE.out.trans (hbm.mono HBE.out.size)); clear hbm hrm)))
    all_goals
      go_wp2
      exact bodyPost_ret (v := .tuple #[.agg #[.int .i64 SC, .int .i64 ZC], .int .i64 0, .int .i64 ER]) (by simp [results, Tryd.results21, go_sem, k0, k1]) rfl ⟨rfl, (HBM.out.setCell (Nat.le_refl _) _).setCell (Nat.le_refl _) _⟩
theorem refPS_yes (t : ByteArray) (w : World) (hT : Tabs w) (hs : t.size ≤ 4398046511104) (s : Stp) (b z : Nat) (H : ShortP t.data.toList s b z) (h1 : s.at_ = (patR b z).length) (h2 : s.at_ = t.data.toList.length) :
    Calls Tryd.prog 21 #[.string t] w fun e w' => e = .returned (momV (momR t s)) ∧ Below w.heap.size w w' := by
  have F := ltrs_fact t
  have D := H.full h1
  have hn : s.at_ ≤ nAF t.data.toList := by
    rw [H.run.at_.uniq (mF_at _ _)]
    have h := shortPL_ok (2 * b + z) (by have := H.b2; have := H.z2; show 2 * b + z < 4; omega)
    rw [shortPL_get b z H.b2 H.z2] at h
    exact mF_n F h
  have hS := sg_of F (by have := F.le; omega)
  have hst := stop_yes rfl H.run h1 h2
  have hb2 := H.b2
  have hz2 := H.z2
  have hlen := hS.len
  have hml := D.month.1
  have hmb := idxF_bd monthsL (low [nb t.data.toList 3, nb t.data.toList 4, nb t.data.toList 5]) 12 0
  have hme := D.month.2
  have hh := valR_bd D.hour 2 (by omega)
  have hm := valR_bd D.min 2 (by omega)
  have hm' : momR t s = (if rt s.year s.month s.day = true then (num s.year s.month s.day * 86400 + s.clock - 60 * s.zone, s.zone, 0, 0) else (0, 0, 0, 2)) := by
    unfold momR
    rw [hst, if_neg (by decide), H.weekly]
    simp
  rw [hm', D.clock]
  have hk := short_walk t w (ltrs t) (2 * b + z) s.at_ b (valR t.data.toList 1 1) s.day (s.month - 1) s.year (valR t.data.toList 12 2) (valR t.data.toList 15 2) (valR t.data.toList 18 2) s.zone hT
    (Lib.hid (fun W hT => refLetters t W hT hs)) (Lib.hid (fun W v v2 hv hv2 => best_short W v v2 t _ _ _ F hv hv2 s b z H _ (if_pos ⟨h1, h2⟩)))
    (Lib.hid (fun W v hv => ys_of (t := t) hv hS hb2 D)) hb2 (by omega) (by omega) (by omega) (by omega) (by have := D.clo; rw [D.clock] at this; exact this) (by have := D.chi; rw [D.clock] at this; exact this)
    hh.1 (by omega) hm.1 (by omega) D.zone.lo D.zone.hi
  rw [show s.month - 1 + 1 = s.month by omega] at hk
  exact hk
theorem refParseShort (t : ByteArray) (w : World) (hT : Tabs w) (hs : t.size ≤ 4398046511104) :
    Calls Tryd.prog 21 #[.string t] w fun e w' => e = .returned (momV (shortR t)) ∧ Below w.heap.size w w' := by
  obtain ⟨b, z, H⟩ := short_run (t := t) (bs := t.data.toList) rfl
  show Calls _ _ _ _ (fun e w' => e = .returned (momV (momR t (endT t))) ∧ _)
  by_cases h : (endT t).at_ = (patR b z).length ∧ (endT t).at_ = t.data.toList.length
  · exact refPS_yes t w hT hs _ b z H h.1 h.2
  · exact refPS_no t w hT hs _ b z H h
end Go.Proofs.YtkkmjadkagpihaaDoor
