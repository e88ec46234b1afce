/- Deed: the document's TakeUser, walked. -/
import Derived.Test.YtjljbnilckkjnaaDoorGR4
namespace Go.Proofs.YtjljbnilckkjnaaDoor
open Go Go.RowKit

theorem out_reads {w0 wr : World} {D V : Nat} {sv : Value} {s : RS} {name : ByteArray} {valid : Int} {lv : Value} {bs : List Bx} (h : OutS w0 wr D V sv s name valid lv bs) : wr.cell? ⟨D, 0, none⟩ = some sv ∧ wr.cell? ⟨D, 1, none⟩ = some (.bool s.1) ∧ wr.cell? ⟨V, 2, none⟩ = some lv ∧ wr.frozen? ⟨V, 2, none⟩ = false :=
  ⟨cell_of_row _ _ _ _ _ _ h.rd.rd.blk, cell_of_row _ _ _ _ _ _ h.rd.rd.blk, cell_of_row _ _ _ _ _ _ h.var, frozen_of_row _ _ _ _ _ h.var⟩
theorem in_reads {w0 wX wr : World} {D X : Nat} {sv : Value} {s : RS} {bn : ByteArray} {bv bx : Int} {lv : Value} {ls : List LV} (h : InS w0 wX wr D X sv s bn bv bx lv ls) : wr.cell? ⟨D, 1, none⟩ = some (.bool s.1) ∧ wr.cell? ⟨X, 3, none⟩ = some lv ∧ wr.frozen? ⟨X, 3, none⟩ = false :=
  ⟨cell_of_row _ _ _ _ _ _ h.rd.rd.blk, cell_of_row _ _ _ _ _ _ h.box, frozen_of_row _ _ _ _ _ h.box⟩
theorem text_size (s : RS) : (⟨(rText s).1.toArray⟩ : ByteArray).size ≤ 255 := by
  have h1 := rNum_lt s 1
  have h2 := (rCut_len (rNum s 1).2 (rNum s 1).1).1
  rw [size_arr]
  show (rCut (rNum s 1).2 (rNum s 1).1).1.length ≤ 255
  omega
theorem Row.down {B B' : Nat} {w : World} {v : Value} {l : List UInt8} (h : Row B w v l) (hB : B' ≤ B) : Row B' w v l := ⟨h.1, fun ad n c e => by obtain ⟨a1, a2, a3⟩ := h.2 ad n c e; exact ⟨by omega, a2, a3⟩⟩
theorem InS.b1 {w0 wX wr : World} {D X : Nat} {sv : Value} {s : RS} {bn : ByteArray} {bv bx : Int} {lv : Value} {ls : List LV} (h : InS w0 wX wr D X sv s bn bv bx lv ls) (hN : w0.heap.size ≤ X) (hD : D < X) (z : Int) : InS w0 wX (wr.setCell ⟨X, 1, none⟩ (.int .i64 z)) D X sv s bn z bx lv ls := by
  have hf : Fr (· = X) wr (wr.setCell ⟨X, 1, none⟩ (.int .i64 z)) := (Fr.refl (· = X) wr).setCell ⟨X, 1, none⟩ (Or.inl rfl) _
  exact ⟨h.rd.fr hf (fun k _ e => by omega), heap_setCell_same wr X 1 _ _ _ h.box, h.lsat.fr hf (fun g e => Or.inl (by omega)), h.fr.trans hf (fun _ _ h => h) (fun k _ e => Or.inr (by omega))⟩
theorem InS.b2 {w0 wX wr : World} {D X : Nat} {sv : Value} {s : RS} {bn : ByteArray} {bv bx : Int} {lv : Value} {ls : List LV} (h : InS w0 wX wr D X sv s bn bv bx lv ls) (hN : w0.heap.size ≤ X) (hD : D < X) (z : Int) : InS w0 wX (wr.setCell ⟨X, 2, none⟩ (.int .i64 z)) D X sv s bn bv z lv ls := by
  have hf : Fr (· = X) wr (wr.setCell ⟨X, 2, none⟩ (.int .i64 z)) := (Fr.refl (· = X) wr).setCell ⟨X, 2, none⟩ (Or.inl rfl) _
  exact ⟨h.rd.fr hf (fun k _ e => by omega), heap_setCell_same wr X 2 _ _ _ h.box, h.lsat.fr hf (fun g e => Or.inl (by omega)), h.fr.trans hf (fun _ _ h => h) (fun k _ e => Or.inr (by omega))⟩
set_option maxHeartbeats 16000000 in
set_option maxRecDepth 100000 in
theorem refTakeUser (w : World) (sv : Value) (l : List UInt8) (hsv : Byz w sv l) (hl : l.length ≤ 9223372036854775807) (hT : Tabs w) :
    Calls Tryd.prog 28 #[sv] w (TakeUR l w) := by
  obtain ⟨sa, sc, rfl⟩ := hsv.1
  obtain ⟨w1, hw1⟩ : ∃ w1, w1 = (w.alloc (.cells #[.string ⟨#[]⟩, .int .i64 0, .slice none 0 0] 43)).alloc (.cells #[.slice sa l.length sc, .bool false] 73) := ⟨_, rfl⟩
  have hb1 : Below w.heap.size w w1 := by rw [hw1]; exact ((Below.refl _ w).alloc (Nat.le_refl _) _).alloc (by simp) _
  have r0 : w1.heap[w.heap.size]? = some (.cells #[.string ⟨#[]⟩, .int .i64 0, .slice none 0 0] 43 (0, 0)) := by rw [hw1]; exact heap_alloc2_old w _ _
  have r1 : w1.heap[w.heap.size + 1]? = some (.cells #[.slice sa l.length sc, .bool false] 73 (0, 0)) := by rw [hw1]; exact heap_alloc2_new w _ _
  have hz1 : w1.heap.size = w.heap.size + 2 := by rw [hw1]; simp
  have hR1 : RdS w1 w.heap.size (w.heap.size + 1) (.slice sa l.length sc) (false, l) := ⟨⟨r1, hsv.below hb1, fun hn e => by have := hsv.lt _ e hn; omega⟩, fun g hg hn => hsv.lt g hg hn, hl⟩
  obtain ⟨S0, hS0⟩ : ∃ S0 : RS, ((false, l) : RS) = S0 := ⟨_, rfl⟩
  rw [hS0] at hR1
  have HS0 := Lib.hid hS0
  have HW1 := Lib.hid (show (w.alloc (.cells #[.string ⟨#[]⟩, .int .i64 0, .slice none 0 0] 43)).alloc (.cells #[.slice sa l.length sc, .bool false] 73) = w1 from hw1.symm)
  have HR1 := Lib.hid hR1
  have HB1 := Lib.hid hb1
  have HROW0 := Lib.hid r0
  have HTT : Hid (∀ u, Below w.heap.size w u → Tabs u) := Lib.hid (fun u hu => hT.below hu (Nat.le_refl _))
  have HC1 := Lib.hid (rs_num w1 _ _ _ _ 1 hR1 (by omega))
  have HZ1 := Lib.hid hz1
  clear hw1 hb1 r0 r1 hz1 hR1 hS0 hsv hl hT
  go_enter Tryd.func28, Tryd.ntmps28
  go_wp2_with (first | rw [HW1.out])
  refine HC1.out.mono ?_
  rintro e w2 ⟨s2, rfl, hr2, hf2⟩
  have HR2 := Lib.hid hr2
  have HF2 := Lib.hid hf2
  have HC2 := Lib.hid (rs_cut w2 _ _ _ _ (rNum S0 1).1 hr2 (by have := rNum_lt S0 1; omega))
  clear hr2 hf2 HC1 HW1 HR1
  obtain ⟨n1, hn1⟩ : ∃ n1, (rNum S0 1).1 = n1 := ⟨_, rfl⟩
  rw [hn1] at HC2 ⊢
  have HN1 := Lib.hid hn1
  clear hn1
  go_wp2_with fail
  refine HC2.out.mono ?_
  rintro e w3 ⟨pv, s3, rfl, hp3, hr3, hf3⟩
  have cv := run_byz_string w3 _ _ 5 Tryd.underlying26 Tryd.underlying5 Tryd.underlying9 hp3.1.z
  have HTX : Hid ((rCut (rNum S0 1).2 n1) = rText S0) := Lib.hid (by rw [← HN1.out]; rfl)
  rw [HTX.out] at hp3 hr3 cv
  have hszn := text_size S0
  obtain ⟨nm, hnm⟩ : ∃ nm : ByteArray, ⟨(rText S0).1.toArray⟩ = nm := ⟨_, rfl⟩
  rw [hnm] at cv hszn
  have HNM := Lib.hid hnm
  obtain ⟨pn, hpn⟩ : ∃ pn, (rText S0).1.length = pn := ⟨_, rfl⟩
  obtain ⟨pa, pc, hpv, _⟩ := hp3.1.shape
  rw [hpn] at hpv
  subst hpv
  have hB3 : Below w.heap.size w w3 := (HB1.out.trans ((HF2.out.below (B := w.heap.size) (by have := HB1.out.size; omega) (fun k e => by omega)))).trans (hf3.below (by have := HF2.out.size; have := HB1.out.size; omega) (fun k e => by omega))
  have hrow3 : w3.heap[w.heap.size]? = some (.cells #[.string ⟨#[]⟩, .int .i64 0, .slice none 0 0] 43 (0, 0)) := by
    have h2 := (HF2.out.block w.heap.size (Array.getElem?_eq_some_iff.1 HROW0.out).1 (by omega)).trans HROW0.out
    exact (hf3.block w.heap.size (Array.getElem?_eq_some_iff.1 h2).1 (by omega)).trans h2
  obtain ⟨V, hV⟩ : ∃ V, w3.heap.size = V := ⟨_, rfl⟩
  have hDV : w.heap.size < w.heap.size + 1 ∧ w.heap.size + 1 < V := by
    have h1 := HZ1.out
    have h2 := HF2.out.size
    have h3 := hf3.size
    omega
  obtain ⟨w4, hw4⟩ : ∃ w4, w4 = w3.alloc (.cells #[.string nm, .int .i64 0, .slice none 0 0] 43) := ⟨_, rfl⟩
  have hb4 : Below w3.heap.size w3 w4 := by rw [hw4]; exact (Below.refl _ w3).alloc (Nat.le_refl _) _
  have hO4 : OutS w w4 (w.heap.size + 1) V s3 (rText S0).2 nm 0 (.slice none 0 0) [] := by
    refine ⟨hr3.below hb4, ?_, BsAt.nil _ _, below_row hrow3 hb4 (by omega), hB3.trans (hb4.mono hB3.size)⟩
    rw [hw4, ← hV]
    exact heap_alloc_new w3 _
  have HW4 := Lib.hid (show w3.alloc (.cells #[.string nm, .int .i64 0, .slice none 0 0] 43) = w4 from hw4.symm)
  have HO4 := Lib.hid hO4
  have HC4 := Lib.hid (rs_num w4 _ _ _ _ 4 hO4.rd (by omega))
  have HV := Lib.hid hV
  have HDV := Lib.hid hDV
  clear hp3 hr3 hf3 hnm hpn hB3 hrow3 hV hDV hw4 hb4 hO4 HC2 HR2 HF2 HN1 HTX HROW0 HZ1
  go_wp2_with (first | rw [HW4.out])
  rw [HV.out]
  refine HC4.out.mono ?_
  rintro e w5 ⟨s5, rfl, hr5, hf5⟩
  have hO5 := HO4.out.read HDV.out hr5 hf5
  obtain ⟨vl, hvl⟩ : ∃ vl, (rNum (rText S0).2 4).1 = vl := ⟨_, rfl⟩
  have HVL := Lib.hid hvl
  rw [hvl]
  obtain ⟨w6, hw6⟩ : ∃ w6, w6 = w5.setCell ⟨V, 1, none⟩ (.int .i64 (vl : Int)) := ⟨_, rfl⟩
  have hf6 : Fr (· = V) w5 w6 := by rw [hw6]; exact (Fr.refl (· = V) w5).setCell ⟨V, 1, none⟩ (Or.inl rfl) _
  have hO6 : OutS w w6 (w.heap.size + 1) V s5 (rUser1 S0).2 nm (vl : Int) (.slice none 0 0) [] := by
    have hdv := HDV.out
    refine ⟨hO5.rd.fr hf6 (fun k _ e => by omega), ?_, BsAt.nil _ _, (hf6.block _ (Array.getElem?_eq_some_iff.1 hO5.res).1 (by omega)).trans hO5.res, hO5.below.trans (hf6.below hO5.below.size (fun k e => by omega))⟩
    rw [hw6]
    exact heap_setCell_same w5 V 1 _ _ _ hO5.var
  have c51 : w5.cell? ⟨V, 1, none⟩ = some (.int .i64 0) := cell_of_row _ _ _ _ _ _ hO5.var
  have f51 := frozen_of_row w5 V 1 _ _ hO5.var
  have HW6 := Lib.hid (show w5.setCell ⟨V, 1, none⟩ (.int .i64 (vl : Int)) = w6 from hw6.symm)
  have HO6 := Lib.hid hO6
  have HC6 := Lib.hid (rs_num w6 _ _ _ _ 1 hO6.rd (by omega))
  clear hr5 hf5 hO5 hvl hw6 hf6 hO6 HO4 HC4 HW4
  go_wp2_with (first | rw [HW6.out])
  refine HC6.out.mono ?_
  rintro e w7 ⟨s7, rfl, hr7, hf7⟩
  have hO7 := HO6.out.read HDV.out hr7 hf7
  have hnl := rNum_lt (rUser1 S0).2 1
  obtain ⟨n, hn⟩ : ∃ n, (rNum (rUser1 S0).2 1).1 = n := ⟨_, rfl⟩
  have HN := Lib.hid (show (rUser2 S0).1 = n from hn)
  rw [hn] at hnl ⊢
  have HO7 := Lib.hid hO7
  clear hr7 hf7 hO7 hn HO6 HC6 HW6 c51 f51
  go_wp2_with fail
  go_loopw [7] (fun iv wr => ∃ (i : Nat) (sv : Value) (s : RS) (la : Option Addr) (lc : Nat) (bs : List Bx), i ≤ n ∧ iv = .int .i64 (i : Int) ∧ bs.length = i ∧ Hid (OutS w wr (w.heap.size + 1) V sv s nm (vl : Int) (.slice la i lc) bs ∧ rBoxs (n - i) s (bs.map Bx.dat) = rUser3 S0 ∧ ∀ b ∈ bs, b.name.size ≤ 255 ∧ b.ls.length ≤ 255)) (fun iv _ => n - (intOf iv).toNat)
  case atStart => exact ⟨0, s7, (rUser2 S0).2, none, 0, [], Nat.zero_le _, rfl, rfl, Lib.hid ⟨HO7.out, by rw [← HN.out]; rfl, fun b hb => by cases hb⟩⟩
  case round =>
    clear HO7
    obtain ⟨i, sv, s, la, lc, bs, hi, rfl, hbl, hH⟩ := hrel
    obtain ⟨hO, hgo, hbn⟩ := hH.out
    obtain ⟨cD0, cD1, cV2, fV2⟩ := out_reads hO
    have HO := Lib.hid hO
    have HGO := Lib.hid hgo
    have HBN := Lib.hid hbn
    clear hO hgo hbn hH
    obtain ⟨off, rest⟩ := s
    simp only at cD1
    by_cases hgo : i < n ∧ off = false
    · obtain ⟨hin, rfl⟩ := hgo
      have hin' : (i : Int) < (n : Int) := by omega
      have HC1 := Lib.hid (rs_num wr _ _ _ _ 1 HO.out.rd (by omega))
      go_wp2_with fail
      refine HC1.out.mono ?_
      rintro e a1 ⟨t1, rfl, hr1, hf1⟩
      have HO1 := Lib.hid (HO.out.read HDV.out hr1 hf1)
      have HC2 := Lib.hid (rs_cut a1 _ _ _ _ (rNum (false, rest) 1).1 hr1 (by have := rNum_lt (false, rest) 1; omega))
      clear hr1 hf1 HC1 cD0 cD1 cV2 fV2
      obtain ⟨n2, hn2⟩ : ∃ n2, (rNum (false, rest) 1).1 = n2 := ⟨_, rfl⟩
      rw [hn2] at HC2 ⊢
      have HN2 := Lib.hid hn2
      clear hn2
      go_wp2_with fail
      refine HC2.out.mono ?_
      rintro e a2 ⟨pv2, t2, rfl, hp2, hr2, hf2⟩
      have hO2 := HO1.out.read HDV.out hr2 hf2
      have cv2 := run_byz_string a2 _ _ 5 Tryd.underlying26 Tryd.underlying5 Tryd.underlying9 hp2.1.z
      have HTX : Hid ((rCut (rNum (false, rest) 1).2 n2) = rText (false, rest)) := Lib.hid (by rw [← HN2.out]; rfl)
      rw [HTX.out] at hp2 hr2 cv2 hO2
      have hszb := text_size (false, rest)
      obtain ⟨bn, hbn⟩ : ∃ bn : ByteArray, ⟨(rText (false, rest)).1.toArray⟩ = bn := ⟨_, rfl⟩
      rw [hbn] at cv2 hszb
      have HBNM := Lib.hid hbn
      obtain ⟨pn2, hpn2⟩ : ∃ pn, (rText (false, rest)).1.length = pn := ⟨_, rfl⟩
      obtain ⟨pa2, pc2, hpv2, _⟩ := hp2.1.shape
      rw [hpn2] at hpv2
      subst hpv2
      obtain ⟨X, hX⟩ : ∃ X, a2.heap.size = X := ⟨_, rfl⟩
      have hVX : V < X := by rw [← hX]; exact (Array.getElem?_eq_some_iff.1 hO2.var).1
      have hdv := HDV.out
      have hDX : w.heap.size + 1 < X := by omega
      have hNX : w.heap.size ≤ X := by omega
      obtain ⟨a3, ha3⟩ : ∃ a3, a3 = a2.alloc (.cells #[.string bn, .int .i64 0, .int .i64 0, .slice none 0 0] 52) := ⟨_, rfl⟩
      have hb3 : Below a2.heap.size a2 a3 := by rw [ha3]; exact (Below.refl _ a2).alloc (Nat.le_refl _) _
      have hI3 : InS w a2 a3 (w.heap.size + 1) X t2 (rText (false, rest)).2 bn 0 0 (.slice none 0 0) [] := by
        refine ⟨hr2.below hb3, ?_, LsAt.nil _ _, Fr.of_below _ hb3⟩
        rw [ha3, ← hX]
        exact heap_alloc_new a2 _
      have HI3 := Lib.hid hI3
      have HO2 := Lib.hid hO2
      have HW3 := Lib.hid (show a2.alloc (.cells #[.string bn, .int .i64 0, .int .i64 0, .slice none 0 0] 52) = a3 from ha3.symm)
      have HX := Lib.hid hX
      have HC3 := Lib.hid (rs_num a3 _ _ _ _ 4 hI3.rd (by omega))
      clear hp2 hr2 hf2 hO2 hbn hpn2 hX hdv ha3 hb3 hI3 HC2 HO1 HN2 HTX
      go_wp2_with (first | rw [HW3.out])
      rw [HX.out]
      refine HC3.out.mono ?_
      rintro e a4 ⟨t4, rfl, hr4, hf4⟩
      have hI4 := HI3.out.read hDX hr4 hf4
      obtain ⟨bv, hbv⟩ : ∃ bv, (rNum (rText (false, rest)).2 4).1 = bv := ⟨_, rfl⟩
      have HBV := Lib.hid (show (rBox1 (false, rest)).1 = bv from hbv)
      rw [hbv]
      have hI5 := hI4.b1 hNX hDX (bv : Int)
      have x41 : a4.cell? ⟨X, 1, none⟩ = some (.int .i64 0) := cell_of_row _ _ _ _ _ _ hI4.box
      have g41 := frozen_of_row a4 X 1 _ _ hI4.box
      obtain ⟨a5, ha5⟩ : ∃ a5, a4.setCell ⟨X, 1, none⟩ (.int .i64 (bv : Int)) = a5 := ⟨_, rfl⟩
      rw [ha5] at hI5
      have HI5 := Lib.hid hI5
      have HW5 := Lib.hid ha5
      have HC5 := Lib.hid (rs_num a5 _ _ _ _ 4 hI5.rd (by omega))
      clear hr4 hf4 hI4 hbv hI5 ha5 HI3 HC3 HW3
      go_wp2_with (first | rw [HW5.out])
      refine HC5.out.mono ?_
      rintro e a6 ⟨t6, rfl, hr6, hf6⟩
      have hI6 := HI5.out.read hDX hr6 hf6
      obtain ⟨bx, hbx⟩ : ∃ bx, (rNum (rNum (rText (false, rest)).2 4).2 4).1 = bx := ⟨_, rfl⟩
      have HBX := Lib.hid (show (rBox2 (false, rest)).1 = bx from hbx)
      rw [hbx]
      have hI7 := hI6.b2 hNX hDX (bx : Int)
      have x62 : a6.cell? ⟨X, 2, none⟩ = some (.int .i64 0) := cell_of_row _ _ _ _ _ _ hI6.box
      have g62 := frozen_of_row a6 X 2 _ _ hI6.box
      obtain ⟨a7, ha7⟩ : ∃ a7, a6.setCell ⟨X, 2, none⟩ (.int .i64 (bx : Int)) = a7 := ⟨_, rfl⟩
      rw [ha7] at hI7
      have HI7 := Lib.hid hI7
      have HW7 := Lib.hid ha7
      have HC7 := Lib.hid (rs_num a7 _ _ _ _ 1 hI7.rd (by omega))
      clear hr6 hf6 hI6 hbx hI7 ha7 HI5 HC5 HW5 x41 g41
      go_wp2_with (first | rw [HW7.out])
      refine HC7.out.mono ?_
      rintro e a8 ⟨t8, rfl, hr8, hf8⟩
      have hI8 := HI7.out.read hDX hr8 hf8
      have hml := rNum_lt (rNum (rNum (rText (false, rest)).2 4).2 4).2 1
      obtain ⟨m, hm⟩ : ∃ m, (rNum (rNum (rNum (rText (false, rest)).2 4).2 4).2 1).1 = m := ⟨_, rfl⟩
      have HM := Lib.hid (show (rBox3 (false, rest)).1 = m from hm)
      rw [hm] at hml ⊢
      have HI8 := Lib.hid hI8
      clear hr8 hf8 hI8 hm HI7 HC7 HW7 x62 g62
      go_wp2_with fail
      go_loopw [10] (fun iv wr => ∃ (j : Nat) (sv : Value) (s : RS) (la : Option Addr) (lc : Nat) (ls : List LV), j ≤ m ∧ iv = .int .i64 (j : Int) ∧ ls.length = j ∧ Hid (InS w a2 wr (w.heap.size + 1) X sv s bn (bv : Int) (bx : Int) (.slice la j lc) ls ∧ rLets (m - j) s (ls.map (·.1)) = rBox4 (false, rest))) (fun iv _ => m - (intOf iv).toNat)
      case atStart => exact ⟨0, t8, (rBox3 (false, rest)).2, none, 0, [], Nat.zero_le _, rfl, rfl, Lib.hid ⟨HI8.out, by rw [← HM.out]; rfl⟩⟩
      case round =>
        clear HI8
        obtain ⟨j, sv2, s2, la2, lc2, ls, hj, rfl, hlj, hH2⟩ := hrel
        obtain ⟨hI, hgo2⟩ := hH2.out
        obtain ⟨yD1, yX3, gX3⟩ := in_reads hI
        have HI := Lib.hid hI
        have HGO2 := Lib.hid hgo2
        clear hI hgo2 hH2
        obtain ⟨off2, rest2⟩ := s2
        simp only at yD1
        by_cases hgo3 : j < m ∧ off2 = false
        · obtain ⟨hjm, rfl⟩ := hgo3
          have hjm' : (j : Int) < (m : Int) := by omega
          have HD1 := Lib.hid (rs_num wr _ _ _ _ 4 HI.out.rd (by omega))
          go_wp2_with fail
          refine HD1.out.mono ?_
          rintro e b1 ⟨u1, rfl, hr1, hf1⟩
          have hI1 := HI.out.read hDX hr1 hf1
          obtain ⟨uid, huid⟩ : ∃ uid, (rNum (false, rest2) 4).1 = uid := ⟨_, rfl⟩
          have HUID := Lib.hid (show (rLet1 (false, rest2)).1 = uid from huid)
          rw [huid]
          obtain ⟨Y, hY⟩ : ∃ Y, b1.heap.size = Y := ⟨_, rfl⟩
          have hXY : X < Y := by rw [← hY]; exact (Array.getElem?_eq_some_iff.1 hI1.box).1
          have hlsY : ∀ g, ((Value.slice la2 j lc2).ownBlock = some g ∨ ∃ p ∈ ls, p.2.ownBlock = some g) → g ≠ Y := by
            intro g hg
            rcases hg with hg | ⟨p, hp, hg⟩
            · have := (hI1.lsat.lt.1 g hg).2; omega
            · have := (hI1.lsat.lt.2 p hp g hg).2; omega
          obtain ⟨b2, hb2⟩ : ∃ b2, b1.alloc (.cells #[.int .i64 (uid : Int), .int .u8 0, .slice none 0 0] 79) = b2 := ⟨_, rfl⟩
          have hbl2 : Below b1.heap.size b1 b2 := by rw [← hb2]; exact (Below.refl _ b1).alloc (Nat.le_refl _) _
          have hI2 := hI1.new hbl2
          have hy2 : b2.heap[Y]? = some (.cells #[.int .i64 (uid : Int), .int .u8 0, .slice none 0 0] 79 (0, 0)) := by rw [← hb2, ← hY]; exact heap_alloc_new b1 _
          have HI2 := Lib.hid hI2
          have HY2 := Lib.hid hy2
          have HWB2 := Lib.hid hb2
          have HYY := Lib.hid hY
          have HLSY := Lib.hid hlsY
          have HD2 := Lib.hid (rs_num b2 _ _ _ _ 1 hI2.rd (by omega))
          clear hr1 hf1 hI1 huid hY hlsY hb2 hbl2 hI2 hy2 HD1 yD1 yX3 gX3
          go_wp2_with (first | rw [HWB2.out])
          rw [HYY.out]
          refine HD2.out.mono ?_
          rintro e b3 ⟨u3, rfl, hr3, hf3⟩
          have hI3 := HI2.out.read hDX hr3 hf3
          have hy3 := (hf3.block Y (Array.getElem?_eq_some_iff.1 HY2.out).1 (by omega)).trans HY2.out
          have hfl := rNum_lt (rNum (false, rest2) 4).2 1
          obtain ⟨fl, hflg⟩ : ∃ fl, (rNum (rNum (false, rest2) 4).2 1).1 = fl := ⟨_, rfl⟩
          have HFL := Lib.hid (show (rLet2 (false, rest2)).1 = fl from hflg)
          rw [hflg] at hfl ⊢
          have hfl256 : fl < 256 := by omega
          have y31 : b3.cell? ⟨Y, 1, none⟩ = some (.int .u8 0) := cell_of_row _ _ _ _ _ _ hy3
          have g31 := frozen_of_row b3 Y 1 _ _ hy3
          have hI4 := hI3.put hNX hDX hXY HLSY.out 1 (.int .u8 (fl : Int))
          have hy4 : (b3.setCell ⟨Y, 1, none⟩ (.int .u8 (fl : Int))).heap[Y]? = some (.cells #[.int .i64 (uid : Int), .int .u8 (fl : Int), .slice none 0 0] 79 (0, 0)) := heap_setCell_same b3 Y 1 _ _ _ hy3
          obtain ⟨b4, hb4⟩ : ∃ b4, b3.setCell ⟨Y, 1, none⟩ (.int .u8 (fl : Int)) = b4 := ⟨_, rfl⟩
          rw [hb4] at hI4 hy4
          have HI4 := Lib.hid hI4
          have HY4 := Lib.hid hy4
          have HWB4 := Lib.hid hb4
          have HD4 := Lib.hid (rs_num b4 _ _ _ _ 2 hI4.rd (by omega))
          clear hr3 hf3 hI3 hy3 hflg hI4 hy4 hb4 HI2 HY2 HD2 HWB2 HYY
          go_wp2_with (first | rw [HWB4.out])
          refine HD4.out.mono ?_
          rintro e b5 ⟨u5, rfl, hr5, hf5⟩
          have hI5 := HI4.out.read hDX hr5 hf5
          have hy5 := (hf5.block Y (Array.getElem?_eq_some_iff.1 HY4.out).1 (by omega)).trans HY4.out
          have HD5 := Lib.hid (rs_cut b5 _ _ _ _ (rNum (rNum (rNum (false, rest2) 4).2 1).2 2).1 hr5 (by have := rNum_lt (rNum (rNum (false, rest2) 4).2 1).2 2; omega))
          obtain ⟨n5, hn5⟩ : ∃ n5, (rNum (rNum (rNum (false, rest2) 4).2 1).2 2).1 = n5 := ⟨_, rfl⟩
          have HN5 := Lib.hid hn5
          rw [hn5] at HD5 ⊢
          have HI5 := Lib.hid hI5
          have HY5 := Lib.hid hy5
          clear hr5 hf5 hI5 hy5 hn5 HI4 HY4 HD4 HWB4 y31 g31
          go_wp2_with fail
          refine HD5.out.mono ?_
          rintro e b6 ⟨pv6, u6, rfl, hp6, hr6, hf6⟩
          have hI6 := HI5.out.read hDX hr6 hf6
          have hy6 := (hf6.block Y (Array.getElem?_eq_some_iff.1 HY5.out).1 (by omega)).trans HY5.out
          have HLT : Hid (rCut (rNum (rNum (rNum (false, rest2) 4).2 1).2 2).2 n5 = rLet3 (false, rest2)) := Lib.hid (by rw [← HN5.out]; rfl)
          rw [HLT.out] at hp6 hI6
          obtain ⟨q, hq⟩ : ∃ q, (rLet3 (false, rest2)).1 = q := ⟨_, rfl⟩
          rw [hq] at hp6
          have HQ := Lib.hid hq
          obtain ⟨pa6, pc6, hpv6, _⟩ := hp6.1.shape
          subst hpv6
          have y62 : b6.cell? ⟨Y, 2, none⟩ = some (.slice none 0 0) := cell_of_row _ _ _ _ _ _ hy6
          have g62 := frozen_of_row b6 Y 2 _ _ hy6
          have hY5 := (Array.getElem?_eq_some_iff.1 HY5.out).1
          have hpl : ∀ g, (Value.slice pa6 q.length pc6).ownBlock = some g → b5.heap.size ≤ g := row_base hp6
          have hI7 := hI6.put hNX hDX hXY HLSY.out 2 (.slice pa6 q.length pc6)
          have hy7 : (b6.setCell ⟨Y, 2, none⟩ (.slice pa6 q.length pc6)).heap[Y]? = some (.cells #[.int .i64 (uid : Int), .int .u8 (fl : Int), .slice pa6 q.length pc6] 79 (0, 0)) := heap_setCell_same b6 Y 2 _ _ _ hy6
          have hp7 : Row (X + 1) (b6.setCell ⟨Y, 2, none⟩ (.slice pa6 q.length pc6)) (.slice pa6 q.length pc6) q := (hp6.kept (by simp [World.setCell]) (fun g hg => heap_setCell_other b6 ⟨Y, 2, none⟩ g _ (by have := hpl g hg; simp; omega))).down (by omega)
          obtain ⟨b7, hb7⟩ : ∃ b7, b6.setCell ⟨Y, 2, none⟩ (.slice pa6 q.length pc6) = b7 := ⟨_, rfl⟩
          rw [hb7] at hI7 hy7 hp7
          have hflc : (((UInt8.ofNat fl).toNat : Nat) : Int) = (fl : Int) := by have : (UInt8.ofNat fl).toNat = fl := by simp only [UInt8.toNat_ofNat']; omega
                                                                                omega
          obtain ⟨a, c, b8, hrun, hls8, hg8, hwh⟩ := appL1 b7 (B := X + 1) ((⟨(uid : Int), UInt8.ofNat fl, q⟩ : Letr), Value.slice pa6 q.length pc6) hI7.lsat (by have := (Array.getElem?_eq_some_iff.1 hI7.box).1; omega) (by omega) hp7
            (fun g hg e => by have h1 := hpl g hg; have h2 := HLSY.out g (Or.inl e); have h3 := (HI5.out.lsat.lt.1 g e).2; omega)
          have hlen8 : (ls ++ [((⟨(uid : Int), UInt8.ofNat fl, q⟩ : Letr), Value.slice pa6 q.length pc6)]).length = j + 1 := by simp [hlj]
          rw [hlen8] at hrun hls8 hwh
          have hrun' : ∀ ty, (Builtin.append_ #[50, 50] ty #[.slice la2 j lc2, .slice (some ⟨b7.heap.size, 0, none⟩) 1 1]).run Tryd.prog (b7.alloc (.cells #[.int .i64 (uid : Int), .int .u8 (fl : Int), .slice pa6 q.length pc6] 79)) = .ok (.slice a (j + 1) c) b8 := fun ty => by
            have := hrun ty
            unfold ltC at this
            rw [hflc] at this
            exact this
          have hlvb : ∀ k, (Value.slice la2 j lc2).ownBlock = some k → X < k ∧ k < b7.heap.size := fun k e => by have := hI7.lsat.lt.1 k e; omega
          have hf8 : Fr (fun k => X < k) b7 b8 := (Fr.refl (fun k => X < k) b7).grown hg8 (fun k e => Or.inl (hlvb k e).1)
          have hbox8 := (hf8.block X (Array.getElem?_eq_some_iff.1 hI7.box).1 (by omega)).trans hI7.box
          have hf9 : Fr (· = X) b8 (b8.setCell ⟨X, 3, none⟩ (.slice a (j + 1) c)) := (Fr.refl (· = X) b8).setCell ⟨X, 3, none⟩ (Or.inl rfl) _
          have hI9 : InS w a2 (b8.setCell ⟨X, 3, none⟩ (.slice a (j + 1) c)) (w.heap.size + 1) X u6 (rLet3 (false, rest2)).2 bn (bv : Int) (bx : Int) (.slice a (j + 1) c) (ls ++ [((⟨(uid : Int), UInt8.ofNat fl, q⟩ : Letr), Value.slice pa6 q.length pc6)]) :=
            ⟨(hI7.rd.fr hf8 (fun k _ e => by omega)).fr hf9 (fun k _ e => by omega), heap_setCell_same b8 X 3 _ _ _ hbox8, hls8.fr hf9 (fun g e => Or.inl (by omega)), (hI7.fr.trans hf8 (fun _ _ h => h) (fun k _ e => Or.inr (by omega))).trans hf9 (fun _ _ h => h) (fun k _ e => Or.inr (by omega))⟩
          have HI9 := Lib.hid hI9
          have z73 : b7.cell? ⟨X, 3, none⟩ = some (.slice la2 j lc2) := cell_of_row _ _ _ _ _ _ hI7.box
          have z83 : b8.cell? ⟨X, 3, none⟩ = some (.slice la2 j lc2) := cell_of_row _ _ _ _ _ _ hbox8
          have f83 := frozen_of_row b8 X 3 _ _ hbox8
          have z70 : b7.cell? ⟨Y, 0, none⟩ = some (.int .i64 (uid : Int)) := cell_of_row _ _ _ _ _ _ hy7
          have z71 : b7.cell? ⟨Y, 1, none⟩ = some (.int .u8 (fl : Int)) := cell_of_row _ _ _ _ _ _ hy7
          have z72 : b7.cell? ⟨Y, 2, none⟩ = some (.slice pa6 q.length pc6) := cell_of_row _ _ _ _ _ _ hy7
          have HAP := Lib.hid hrun'
          have HWB7 := Lib.hid hb7
          have HG3 : Hid (rLets (m - (j + 1)) (rLet3 (false, rest2)).2 ((ls ++ [((⟨(uid : Int), UInt8.ofNat fl, q⟩ : Letr), Value.slice pa6 q.length pc6)]).map (·.1)) = rBox4 (false, rest)) := Lib.hid (by
            have h1 := HGO2.out
            rw [show m - j = (m - (j + 1)) + 1 by omega, rLets_go _ _ _ rfl] at h1
            rw [← h1, List.map_append]
            have e1 : (rLet (false, rest2)).1 = (⟨(uid : Int), UInt8.ofNat fl, q⟩ : Letr) := by unfold rLet; rw [HUID.out, HFL.out, HQ.out]
            rw [e1]
            rfl)
          clear hp6 hr6 hf6 hI6 hy6 hq hpl hI7 hy7 hp7 hb7 hrun hls8 hg8 hwh hlen8 hrun' hlvb hf8 hbox8 hf9 hI9 HI5 HY5 HD5 HN5 HLT hY5 HLSY HGO2 HI hflc
          go_wp2_with (first | rw [HWB7.out] | (at_builtin; refine wpList_append_run _ rfl _ _ 50 50 rfl _ _ rfl rfl _ b8 HAP.out ?_))
          go_roundw
          case rel => exact ⟨j + 1, u6, _, a, c, _, by omega, by go_num, by simp [hlj], Lib.hid ⟨HI9.out, HG3.out⟩⟩
          case measure => simp [intOf]; omega
        · have hst := HGO2.out
          rw [rLets_stop _ _ _ (by
            by_cases h1 : j < m
            · right
              cases off2 with
              | true => rfl
              | false => exact absurd ⟨h1, rfl⟩ hgo3
            · left; omega)] at hst
          have HST := Lib.hid hst
          have hI := HI.out
          have hX2 := HX.out
          have hO2 := HO2.out
          have hdv := HDV.out
          have hVlt := (Array.getElem?_eq_some_iff.1 hO2.var).1
          have hNlt := (Array.getElem?_eq_some_iff.1 hO2.res).1
          have hvar := (hI.fr.block V hVlt (by omega)).trans hO2.var
          have hres := (hI.fr.block w.heap.size hNlt (by omega)).trans hO2.res
          have hbs := hO2.bsat.fr hI.fr (fun g e => by omega)
          have hlvX : ∀ g, (Value.slice la i lc).ownBlock = some g → g < X := fun g e => by have := (World.ownsRow.lt hO2.bsat.own g e).2; omega
          have hVr := (Array.getElem?_eq_some_iff.1 hvar).1
          have hlsa : LsAt (X + 1) wr (⟨bn, (bv : Int), (bx : Int), ls, .slice la2 j lc2⟩ : Bx).lv (⟨bn, (bv : Int), (bx : Int), ls, .slice la2 j lc2⟩ : Bx).ls := hI.lsat
          obtain ⟨a, c, w8, hrun, hbs8, hg8, hwh⟩ := appB1 wr (B := V + 1) ⟨bn, (bv : Int), (bx : Int), ls, .slice la2 j lc2⟩ hbs (by omega) (by omega) (LsAt.down hlsa (by omega))
            (fun g hg e => by have h1 := (LsAt.has hlsa g hg).1; have h2 := hlvX g e; omega)
          have hlen8 : (bs ++ [(⟨bn, (bv : Int), (bx : Int), ls, .slice la2 j lc2⟩ : Bx)]).length = i + 1 := by simp [hbl]
          rw [hlen8] at hrun hbs8 hwh
          have hlvb : ∀ k, (Value.slice la i lc).ownBlock = some k → V < k := fun k e => by have := (World.ownsRow.lt hbs.own k e).1; omega
          have hf8 : Fr (fun k => V < k) wr w8 := (Fr.refl (fun k => V < k) wr).grown hg8 (fun k e => Or.inl (hlvb k e))
          have hvar8 := (hf8.block V hVr (by omega)).trans hvar
          have hres8 := (hf8.block w.heap.size (Array.getElem?_eq_some_iff.1 hres).1 (by omega)).trans hres
          have hf9 : Fr (· = V) w8 (w8.setCell ⟨V, 2, none⟩ (.slice a (i + 1) c)) := (Fr.refl (· = V) w8).setCell ⟨V, 2, none⟩ (Or.inl rfl) _
          have hbel : Below w.heap.size w wr := hO2.below.trans (hI.fr.below hO2.below.size (fun k e => by omega))
          have hbel8 : Below w.heap.size w w8 := hbel.trans (hf8.below hbel.size (fun k e => by omega))
          have hrd8 : RdS w8 w.heap.size (w.heap.size + 1) sv2 (off2, rest2) := by
            refine ⟨⟨?_, hI.rd.rd.byz.kept hf8.size (fun g hg hn => hf8.block g (hI.rd.rd.byz.lt g hg hn) (by have := hI.rd.ob g hg hn; omega)), hI.rd.rd.ne⟩, hI.rd.ob, hI.rd.len⟩
            exact (hf8.block _ hI.rd.rd.lt (by omega)).trans hI.rd.rd.blk
          have hO9 : OutS w (w8.setCell ⟨V, 2, none⟩ (.slice a (i + 1) c)) (w.heap.size + 1) V sv2 (off2, rest2) nm (vl : Int) (.slice a (i + 1) c) (bs ++ [⟨bn, (bv : Int), (bx : Int), ls, .slice la2 j lc2⟩]) :=
            ⟨hrd8.fr hf9 (fun k _ e => by omega), heap_setCell_same w8 V 2 _ _ _ hvar8, hbs8.fr hf9 (fun g e => Or.inl (by omega)), (hf9.block _ (Array.getElem?_eq_some_iff.1 hres8).1 (by omega)).trans hres8, hbel8.trans (hf9.below hbel8.size (fun k e => by omega))⟩
          have HO9 := Lib.hid hO9
          have z0 : wr.cell? ⟨X, 0, none⟩ = some (.string bn) := cell_of_row _ _ _ _ _ _ hI.box
          have z1 : wr.cell? ⟨X, 1, none⟩ = some (.int .i64 (bv : Int)) := cell_of_row _ _ _ _ _ _ hI.box
          have z2 : wr.cell? ⟨X, 2, none⟩ = some (.int .i64 (bx : Int)) := cell_of_row _ _ _ _ _ _ hI.box
          have zV : wr.cell? ⟨V, 2, none⟩ = some (.slice la i lc) := cell_of_row _ _ _ _ _ _ hvar
          have z8 : w8.cell? ⟨V, 2, none⟩ = some (.slice la i lc) := cell_of_row _ _ _ _ _ _ hvar8
          have f8 := frozen_of_row w8 V 2 _ _ hvar8
          have HAP := Lib.hid hrun
          have HG9 : Hid (rBoxs (n - (i + 1)) (off2, rest2) ((bs ++ [(⟨bn, (bv : Int), (bx : Int), ls, .slice la2 j lc2⟩ : Bx)]).map Bx.dat) = rUser3 S0) := Lib.hid (by
            have h1 := HGO.out
            rw [show n - i = (n - (i + 1)) + 1 by omega, rBoxs_go _ _ _ rfl] at h1
            rw [← h1, List.map_append]
            have e2 : (rBox (false, rest)).2 = (off2, rest2) := by show (rBox4 (false, rest)).2 = _; rw [← HST.out]
            have e1 : (rBox (false, rest)).1 = (⟨bn, (bv : Int), (bx : Int), ls, .slice la2 j lc2⟩ : Bx).dat := by unfold rBox Bx.dat; rw [HBNM.out, HBV.out, HBX.out, ← HST.out]
            rw [e2, e1]
            rfl)
          have HBN9 : Hid (∀ b ∈ bs ++ [(⟨bn, (bv : Int), (bx : Int), ls, .slice la2 j lc2⟩ : Bx)], b.name.size ≤ 255 ∧ b.ls.length ≤ 255) := Lib.hid (fun b hb => by
            rcases List.mem_append.1 hb with hb | hb
            · exact HBN.out b hb
            · rw [List.mem_singleton.1 hb]
              exact ⟨hszb, by show ls.length ≤ 255; omega⟩)
          unfold bxC at HAP
          have hcase : (j < m ∧ off2 = true) ∨ ¬ j < m := by
            by_cases h1 : j < m
            · left
              refine ⟨h1, ?_⟩
              cases off2 with
              | true => rfl
              | false => exact absurd ⟨h1, rfl⟩ hgo3
            · right; exact h1
          clear hst hI hX2 hO2 hdv hVlt hNlt hvar hres hbs hlvX hVr hlsa hrun hbs8 hg8 hwh hlen8 hlvb hf8 hvar8 hres8 hf9 hbel hbel8 hrd8 hO9 hgo3
          rcases hcase with ⟨hjm, hoff⟩ | hjm
          case' inl =>
            have hjm' : (j : Int) < (m : Int) := by omega
            rw [hoff] at yD1
            clear hoff
          case' inr =>
            have hjm' : ¬ (j : Int) < (m : Int) := by omega
          all_goals
            go_wp2_with (at_builtin; refine wpList_append_run _ rfl _ _ 41 41 rfl _ _ rfl rfl _ w8 HAP.out ?_)
            go_roundw
            case rel => exact ⟨i + 1, sv2, (off2, rest2), a, c, _, by omega, by go_num, by simp [hbl], Lib.hid ⟨HO9.out, HG9.out, HBN9.out⟩⟩
            case measure => simp [intOf]; omega
    · have hst := HGO.out
      rw [rBoxs_stop _ _ _ (by
        by_cases h1 : i < n
        · right
          cases off with
          | true => rfl
          | false => exact absurd ⟨h1, rfl⟩ hgo
        · left; omega)] at hst
      have hru : rUser (false, l) = (⟨nm, (vl : Int), bs.map Bx.dat⟩, (off, rest)) := by
        rw [HS0.out]
        unfold rUser
        rw [← hst, HNM.out, show (rUser1 S0).1 = vl from HVL.out]
      have htk := takeU_ref l
      rw [hru] at htk
      simp only at htk
      have HTK := Lib.hid htk
      have hO := HO.out
      have HRES := Lib.hid hO.res
      have HVAR := Lib.hid hO.var
      have HBEL := Lib.hid hO.below
      have HI1 : ∀ cs : Array Value, cs.size = 3 → Hid ((Tryd.prog.info? 43).map (·.size) = some cs.size) := fun cs h => Lib.hid (by rw [h]; kernel_rfl)
      have HZ1 := HI1 #[.string ⟨#[]⟩, .int .i64 0, .slice none 0 0] rfl
      have HZ2 : Hid ((#[.string ⟨#[]⟩, .int .i64 0, .slice none 0 0] : Array Value).all (·.oneCell') = true) := Lib.hid (by rw [Array.all_eq_true_iff_forall_mem]; intro u hu; simp only [List.mem_toArray, List.mem_cons, List.not_mem_nil, or_false] at hu; rcases hu with rfl | rfl | rfl <;> rfl)
      have HSR : Hid (∀ (u : World) (cs : Array Value), u.heap[w.heap.size]? = some (.cells #[.string ⟨#[]⟩, .int .i64 0, .slice none 0 0] 43 (0, 0)) → (u.setRow w.heap.size cs).heap[w.heap.size]? = some (.cells cs 43 (0, 0))) := Lib.hid (fun u cs h => setRow_heap u w.heap.size _ cs 43 (0, 0) h)
      have HBF : Hid (∀ (u : World) (cs : Array Value), Below w.heap.size w u → Below w.heap.size w (u.setRow w.heap.size cs)) := Lib.hid (fun u cs h => ⟨h.os, h.tape, h.output, by rw [setRow_size]; exact h.size, fun k hk => (setRow_other _ _ _ _ (by omega)).trans (h.block k hk)⟩)
      have HBAD : Hid (∀ (u : World) (K : Int), K ≠ 0 → takeUE l = K → Below w.heap.size w u → TakeUR l w (.returned (.tuple #[.agg #[.string ⟨#[]⟩, .int .i64 0, .slice none 0 0], .int .i64 K])) (u.setRow w.heap.size #[.string ⟨#[]⟩, .int .i64 0, .slice none 0 0])) := Lib.hid (fun u K hk h hb => ⟨HBF.out _ _ hb, Or.inl ⟨by rw [h]; exact hk, by rw [h]⟩⟩)
      clear hst hru htk hO HGO
      have hcase : (i < n ∧ off = true) ∨ (¬ i < n ∧ off = true) ∨ (¬ i < n ∧ off = false) := by
        by_cases h1 : i < n
        · left
          refine ⟨h1, ?_⟩
          cases off with
          | true => rfl
          | false => exact absurd ⟨h1, rfl⟩ hgo
        · right
          cases off with
          | true => exact Or.inl ⟨h1, rfl⟩
          | false => exact Or.inr ⟨h1, rfl⟩
      clear hgo
      rcases hcase with ⟨hin, rfl⟩ | ⟨hin, rfl⟩ | ⟨hin, rfl⟩
      · have hin' : (i : Int) < (n : Int) := by omega
        have k0 : (wr.setRow w.heap.size #[.string ⟨#[]⟩, .int .i64 0, .slice none 0 0]).cell? ⟨w.heap.size, 0, none⟩ = some (.string ⟨#[]⟩) := cell_of_row _ _ _ _ _ _ (HSR.out _ _ HRES.out)
        have k1 : (wr.setRow w.heap.size #[.string ⟨#[]⟩, .int .i64 0, .slice none 0 0]).cell? ⟨w.heap.size, 1, none⟩ = some (.int .i64 0) := cell_of_row _ _ _ _ _ _ (HSR.out _ _ HRES.out)
        have k2 : (wr.setRow w.heap.size #[.string ⟨#[]⟩, .int .i64 0, .slice none 0 0]).cell? ⟨w.heap.size, 2, none⟩ = some (.slice none 0 0) := cell_of_row _ _ _ _ _ _ (HSR.out _ _ HRES.out)
        have HF := Lib.hid (HBAD.out wr 3 (by decide) (by rw [takeUE_err (k := 3) (by have := HTK.out; rwa [if_pos rfl] at this)]) HBEL.out)
        go_wp2_with (refine wpList_store_row rfl 43 _ _ rfl w.heap.size _ rfl rfl 43 _ HRES.out HZ1.out rfl HZ2.out ?_)
        exact bodyPost_ret (v := .tuple #[.agg #[.string ⟨#[]⟩, .int .i64 0, .slice none 0 0], .int .i64 3]) (by simp [results, Tryd.results28, go_sem, k0, k1, k2]) rfl HF.out
      · have hin' : ¬ (i : Int) < (n : Int) := by omega
        have k0 : (wr.setRow w.heap.size #[.string ⟨#[]⟩, .int .i64 0, .slice none 0 0]).cell? ⟨w.heap.size, 0, none⟩ = some (.string ⟨#[]⟩) := cell_of_row _ _ _ _ _ _ (HSR.out _ _ HRES.out)
        have k1 : (wr.setRow w.heap.size #[.string ⟨#[]⟩, .int .i64 0, .slice none 0 0]).cell? ⟨w.heap.size, 1, none⟩ = some (.int .i64 0) := cell_of_row _ _ _ _ _ _ (HSR.out _ _ HRES.out)
        have k2 : (wr.setRow w.heap.size #[.string ⟨#[]⟩, .int .i64 0, .slice none 0 0]).cell? ⟨w.heap.size, 2, none⟩ = some (.slice none 0 0) := cell_of_row _ _ _ _ _ _ (HSR.out _ _ HRES.out)
        have HF := Lib.hid (HBAD.out wr 3 (by decide) (by rw [takeUE_err (k := 3) (by have := HTK.out; rwa [if_pos rfl] at this)]) HBEL.out)
        go_wp2_with (refine wpList_store_row rfl 43 _ _ rfl w.heap.size _ rfl rfl 43 _ HRES.out HZ1.out rfl HZ2.out ?_)
        exact bodyPost_ret (v := .tuple #[.agg #[.string ⟨#[]⟩, .int .i64 0, .slice none 0 0], .int .i64 3]) (by simp [results, Tryd.results28, go_sem, k0, k1, k2]) rfl HF.out
      · have hin' : ¬ (i : Int) < (n : Int) := by omega
        have hbyz := HO.out.rd.rd.byz
        simp only at hbyz
        obtain ⟨ra, rc, hrv⟩ := hbyz.1
        subst hrv
        have hrl := HO.out.rd.len
        simp only at hrl
        by_cases hr0 : rest = []
        case neg =>
          have hrp : (0 : Int) < (rest.length : Int) := by
            rcases rest with _ | ⟨c, t⟩
            · exact absurd rfl hr0
            · simp only [List.length_cons]; omega
          have k0 : (wr.setRow w.heap.size #[.string ⟨#[]⟩, .int .i64 0, .slice none 0 0]).cell? ⟨w.heap.size, 0, none⟩ = some (.string ⟨#[]⟩) := cell_of_row _ _ _ _ _ _ (HSR.out _ _ HRES.out)
          have k1 : (wr.setRow w.heap.size #[.string ⟨#[]⟩, .int .i64 0, .slice none 0 0]).cell? ⟨w.heap.size, 1, none⟩ = some (.int .i64 0) := cell_of_row _ _ _ _ _ _ (HSR.out _ _ HRES.out)
          have k2 : (wr.setRow w.heap.size #[.string ⟨#[]⟩, .int .i64 0, .slice none 0 0]).cell? ⟨w.heap.size, 2, none⟩ = some (.slice none 0 0) := cell_of_row _ _ _ _ _ _ (HSR.out _ _ HRES.out)
          have HF := Lib.hid (HBAD.out wr 4 (by decide) (by rw [takeUE_err (k := 4) (by have := HTK.out; rwa [if_neg (by simp), if_neg hr0] at this)]) HBEL.out)
          clear hbyz hr0
          go_wp2_with (refine wpList_store_row rfl 43 _ _ rfl w.heap.size _ rfl rfl 43 _ HRES.out HZ1.out rfl HZ2.out ?_)
          exact bodyPost_ret (v := .tuple #[.agg #[.string ⟨#[]⟩, .int .i64 0, .slice none 0 0], .int .i64 4]) (by simp [results, Tryd.results28, go_sem, k0, k1, k2]) rfl HF.out
        have hok := HTK.out
        rw [if_neg (by simp), if_pos hr0] at hok
        have hK := takeUE_ok hok
        have HOK := Lib.hid hok
        have hbs := HO.out.bsat
        have hCK := refCheckUser nm (vl : Int) _ bs wr (hbs.boxes (fun b hb => by have := (HBN.out b hb).2; omega)) (by omega) (by omega) (fun b hb => by have := (HBN.out b hb).1; omega) (HTT.out wr HBEL.out)
        obtain ⟨K, hKK⟩ : ∃ K, ckUser ⟨nm, (vl : Int), bs.map Bx.dat⟩ = K := ⟨_, rfl⟩
        rw [hKK] at hCK hK
        have HCK := Lib.hid hCK
        have HKU := Lib.hid hK
        have HBS := Lib.hid hbs
        subst hr0
        clear hok hK hbs hCK hKK hbyz HTK
        go_wp2_with (refine wpList_load_row rfl 43 _ rfl V rfl 43 _ (0, 0) _ HVAR.out Tryd.underlying43 rfl (by kernel_rfl) ?_)
        refine HCK.out.mono ?_
        rintro e wK ⟨rfl, hbK⟩
        have HRESK := Lib.hid (below_row HRES.out hbK (Array.getElem?_eq_some_iff.1 HRES.out).1)
        have HVARK := Lib.hid (below_row HVAR.out hbK (Array.getElem?_eq_some_iff.1 HVAR.out).1)
        have HBELK := Lib.hid (HBEL.out.trans (hbK.mono HBEL.out.size))
        have HBSK := Lib.hid (HBS.out.fr (Fr.of_below (fun _ => False) hbK) (fun _ e => e.elim))
        clear hbK HCK cD0 cD1 cV2 fV2
        by_cases hk0 : K = 0
        · subst hk0
          have HY1 := HI1 #[.string nm, .int .i64 (vl : Int), .slice la i lc] rfl
          have HY2 : Hid ((#[.string nm, .int .i64 (vl : Int), .slice la i lc] : Array Value).all (·.oneCell') = true) := Lib.hid (by rw [Array.all_eq_true_iff_forall_mem]; intro u hu; simp only [List.mem_toArray, List.mem_cons, List.not_mem_nil, or_false] at hu; rcases hu with rfl | rfl | rfl <;> rfl)
          have k0 : (wK.setRow w.heap.size #[.string nm, .int .i64 (vl : Int), .slice la i lc]).cell? ⟨w.heap.size, 0, none⟩ = some (.string nm) := cell_of_row _ _ _ _ _ _ (HSR.out _ _ HRESK.out)
          have k1 : (wK.setRow w.heap.size #[.string nm, .int .i64 (vl : Int), .slice la i lc]).cell? ⟨w.heap.size, 1, none⟩ = some (.int .i64 (vl : Int)) := cell_of_row _ _ _ _ _ _ (HSR.out _ _ HRESK.out)
          have k2 : (wK.setRow w.heap.size #[.string nm, .int .i64 (vl : Int), .slice la i lc]).cell? ⟨w.heap.size, 2, none⟩ = some (.slice la i lc) := cell_of_row _ _ _ _ _ _ (HSR.out _ _ HRESK.out)
          have HF : Hid (TakeUR l w (.returned (.tuple #[.agg #[.string nm, .int .i64 (vl : Int), .slice la i lc], .int .i64 0])) (wK.setRow w.heap.size #[.string nm, .int .i64 (vl : Int), .slice la i lc])) := Lib.hid ⟨HBF.out _ _ HBELK.out, Or.inr ⟨HKU.out, _, bs, _, HOK.out, rfl, ((HBSK.out.fr (⟨rfl, rfl, rfl, by rw [setRow_size]; exact Nat.le_refl _, fun k hk hn => setRow_other _ _ _ _ hn⟩ : Fr (· = w.heap.size) wK (wK.setRow w.heap.size #[.string nm, .int .i64 (vl : Int), .slice la i lc])) (fun g e => Or.inl (by have := HDV.out; omega))).down (by have := HDV.out; omega)), rfl⟩⟩
          go_wp2_with (first | (refine wpList_load_row rfl 43 _ rfl V rfl 43 _ (0, 0) _ HVARK.out Tryd.underlying43 rfl (by kernel_rfl) ?_) | (refine wpList_store_row rfl 43 _ _ rfl w.heap.size _ rfl rfl 43 _ HRESK.out HY1.out rfl HY2.out ?_))
          exact bodyPost_ret (v := .tuple #[.agg #[.string nm, .int .i64 (vl : Int), .slice la i lc], .int .i64 0]) (by simp [results, Tryd.results28, go_sem, k0, k1, k2]) rfl HF.out
        · have hk1 : (K == 0) = false := by rw [beq_eq_false_iff_ne]; exact hk0
          have hk2 : (K != 0) = true := by rw [bne_iff_ne]; exact hk0
          have k0 : (wK.setRow w.heap.size #[.string ⟨#[]⟩, .int .i64 0, .slice none 0 0]).cell? ⟨w.heap.size, 0, none⟩ = some (.string ⟨#[]⟩) := cell_of_row _ _ _ _ _ _ (HSR.out _ _ HRESK.out)
          have k1 : (wK.setRow w.heap.size #[.string ⟨#[]⟩, .int .i64 0, .slice none 0 0]).cell? ⟨w.heap.size, 1, none⟩ = some (.int .i64 0) := cell_of_row _ _ _ _ _ _ (HSR.out _ _ HRESK.out)
          have k2 : (wK.setRow w.heap.size #[.string ⟨#[]⟩, .int .i64 0, .slice none 0 0]).cell? ⟨w.heap.size, 2, none⟩ = some (.slice none 0 0) := cell_of_row _ _ _ _ _ _ (HSR.out _ _ HRESK.out)
          have HF := Lib.hid (HBAD.out wK K hk0 HKU.out HBELK.out)
          go_wp2_with (refine wpList_store_row rfl 43 _ _ rfl w.heap.size _ rfl rfl 43 _ HRESK.out HZ1.out rfl HZ2.out ?_)
          exact bodyPost_ret (v := .tuple #[.agg #[.string ⟨#[]⟩, .int .i64 0, .slice none 0 0], .int .i64 K]) (by simp [results, Tryd.results28, go_sem, k0, k1, k2]) rfl HF.out
end Go.Proofs.YtjljbnilckkjnaaDoor
