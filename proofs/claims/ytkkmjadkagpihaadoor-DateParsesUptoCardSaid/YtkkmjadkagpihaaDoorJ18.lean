/- Date: the reader's word; the stamp's shortDay, second, hourMinute, monthYear. -/
import Derived.Test.YtkkmjadkagpihaaDoorJ17
import Derived.Deep.RegionWith
namespace Go.Proofs.YtkkmjadkagpihaaDoor
open Go Go.RowKit

/-- What one takes has a letter at most. -/
theorem oneR_len (t : ByteArray) (these : List UInt8) (p : Nat) (st : Int) : (oneR t these p st).1.length ≤ 1 := by
  unfold oneR
  split
  · split
    · split
      · rw [List.length_take]; omega
      · simp
    · simp
  · simp
def wordR (t : ByteArray) (n : Nat) (words : List UInt8) : Nat → List UInt8 → Nat → Int → List UInt8 × Nat × Int
  | 0, beg, p, st => (beg, p, st)
  | k + 1, beg, p, st => wordR t n words k (beg ++ (oneR t (behindL n words beg) p st).1) (oneR t (behindL n words beg) p st).2.1 (oneR t (behindL n words beg) p st).2.2

theorem word_any (b : Nat) (t words : ByteArray) (n : Nat) (s : Stp) (w : World) (h : StAt w b t s) (hle : s.at_ ≤ t.size) (hs : t.size ≤ 9223372036854775807) (hm : Ml w) (hw : words.size = 3 * n) (hn : n ≤ 100) (D : List UInt8 × Nat × Int) (hD : wordR t n words.data.toList 3 [] s.at_ s.stop = D) (V : Int) (hV : (Lib.index words.data.toList D.1).tdiv 3 = V) :
    Calls Tryd.prog 35 #[.pointer (some ⟨b, 0, none⟩), .string words] w (Rd b t w (.int .i64 V) (s.up D.2.1 D.2.2)) := by
  have HM := Lib.hid hm
  have HH := Lib.hid h
  have HD := Lib.hid hD
  have HV := Lib.hid hV
  clear hm h hD hV
  go_enter Tryd.func35, Tryd.ntmps35
  go_wp2
  go_loopw [5, 6] (fun x i wr => ∃ (k : Nat) (X : List UInt8) (p : Nat) (st : Int), k ≤ 3 ∧ i = .int .i64 k ∧ x = .string ⟨X.toArray⟩ ∧ X.length ≤ k ∧ p ≤ t.size ∧ StAt wr b t (s.up p st) ∧ Fr (· = b) w wr ∧ wordR t n words.data.toList (3 - k) X p st = D) (fun _ i _ => 3 - (intOf i).toNat)
  case atStart => exact ⟨0, [], s.at_, s.stop, by omega, rfl, rfl, Nat.le_refl _, hle, HH.out, Fr.refl _ _, HD.out⟩
  case round =>
    obtain ⟨k, X, p, st, hk, rfl, rfl, hXl, hp, hst, hfr, hn2⟩ := hrel
    by_cases hlt : k < 3
    · have HB := Lib.hid (fun (w : World) => behind_any words ⟨X.toArray⟩ n w hw hn (by rw [size_mk]; omega) (behindL n words.data.toList X) (by rw [data_mk]))
      have hbl := behindL_len n words.data.toList X
      have hol := oneR_len t (behindL n words.data.toList X) p st
      have hop := oneR_le t (behindL n words.data.toList X) p st hp
      have HO := Lib.hid (one_any b t ⟨(behindL n words.data.toList X).toArray⟩ (s.up p st) wr hst hp hs (by rw [size_mk]; omega) (oneR t (behindL n words.data.toList X) p st) (by rw [data_mk]; rfl))
      have hN : wordR t n words.data.toList (3 - (k + 1)) (X ++ (oneR t (behindL n words.data.toList X) p st).1) (oneR t (behindL n words.data.toList X) p st).2.1 (oneR t (behindL n words.data.toList X) p st).2.2 = D := by
        rw [← hn2, show 3 - k = (3 - (k + 1)) + 1 by omega]; rfl
      generalize oneR t (behindL n words.data.toList X) p st = o at *
      obtain ⟨Z, hZ⟩ : ∃ Z, Z = X ++ o.1 := ⟨_, rfl⟩
      rw [← hZ] at hN
      have hZl : Z.length ≤ k + 1 := by rw [hZ, List.length_append]; omega
      have hadd := add_to X o.1 Z hZ (by omega)
      have HN := Lib.hid hN
      have HF := Lib.hid hfr
      clear hN hZ hfr hst hn2 hbl
      generalize behindL n words.data.toList X = B at *
      go_wp2_with fail
      refine (HB.out _).mono ?_
      rintro e w1 ⟨rfl, rfl⟩
      go_wp2_with fail
      refine HO.out.mono ?_
      rintro e w2 ⟨rfl, h2, f2⟩
      have H2 := Lib.hid h2
      have F2 := Lib.hid (frt HF.out f2)
      clear h2 f2
      go_wp2
      go_roundw
      case rel => exact ⟨k + 1, Z, o.2.1, o.2.2, by omega, by go_num, rfl, hZl, hop, H2.out, F2.out, HN.out⟩
      case measure => simp [intOf]; omega
    · obtain rfl : k = 3 := by omega
      have hD2 : D = (X, p, st) := hn2.symm
      subst hD2
      obtain ⟨m, hm⟩ := HM.out.fr HH.out hfr
      have HX := Lib.hid (Tryd.strings_Index words ⟨X.toArray⟩ m wr (by omega) hm)
      rw [data_mk] at HX
      have hV := HV.out
      simp only at hV
      have hb1 : -1 ≤ Lib.index words.data.toList X := Lib.index_ge _ _
      have hb2 : Lib.index words.data.toList X ≤ 1000 := by have := Lib.index_le words.data.toList X; rw [← Lib.size_eq] at this; omega
      have H2 := Lib.hid hst
      have F2 := Lib.hid hfr
      have HV2 := Lib.hid hV
      clear hn2 hst hfr hV hm
      generalize Lib.index words.data.toList X = ix at *
      go_wp2_with fail
      refine HX.out.mono ?_
      rintro e w2 ⟨rfl, rfl⟩
      go_wp2
      go_ret
      refine Rd.mk' ?_ H2.out F2.out
      rw [← HV2.out]
      rfl

theorem StAt.day {w : World} {b : Nat} {t : ByteArray} {s : Stp} (h : StAt w b t s) : w.cell? ⟨b, 5, none⟩ = some (.int .i64 s.day) := h.c 5
theorem StAt.clock {w : World} {b : Nat} {t : ByteArray} {s : Stp} (h : StAt w b t s) : w.cell? ⟨b, 8, none⟩ = some (.int .i64 s.clock) := h.c 8
theorem StAt.zone {w : World} {b : Nat} {t : ByteArray} {s : Stp} (h : StAt w b t s) : w.cell? ⟨b, 9, none⟩ = some (.int .i64 s.zone) := h.c 9

/-- A number of one digit. -/
theorem num1 (t : ByteArray) (p : Nat) (st : Int) : numR t 1 0 p st = digR t figL p st := by simp [numR]
theorem num1_bd (t : ByteArray) (p : Nat) (st : Int) : 0 ≤ (numR t 1 0 p st).1 ∧ (numR t 1 0 p st).1 ≤ 9 := by
  rw [num1]; have := digR_bd t 10 p st (by omega); rwa [fig_take] at this
theorem numR_le (t : ByteArray) : ∀ k n p st, p ≤ t.size → (numR t k n p st).2.1 ≤ t.size
  | 0, _, _, _, h => h
  | k + 1, _, p, st, h => numR_le t k _ _ _ (digR_le t figL p st h)

def shortDayS (t : ByteArray) (s : Stp) : Stp :=
  let d := numR t 1 0 s.at_ s.stop
  if isR t figL d.2.1 then
    let e := numR t 1 0 d.2.1 d.2.2
    { s.up e.2.1 e.2.2 with day := 10 * d.1 + e.1 }
  else { s.up d.2.1 d.2.2 with day := d.1 }

theorem shortDay_any (b : Nat) (t : ByteArray) (s : Stp) (w : World) (h : StAt w b t s) (hle : s.at_ ≤ t.size) (hs : t.size ≤ 9223372036854775807) (hm : Ml w) (S' : Stp) (hS : shortDayS t s = S') :
    Calls Tryd.prog 37 #[.pointer (some ⟨b, 0, none⟩)] w (Rd b t w (.tuple #[]) S') := by
  have HN := Lib.hid (number_any b t s w h hle hs hm 1 (by omega) _ rfl)
  have hbd := num1_bd t s.at_ s.stop
  have hdl := numR_le t 1 0 s.at_ s.stop hle
  have HM := Lib.hid hm
  have HH := Lib.hid h
  unfold shortDayS at hS
  generalize numR t 1 0 s.at_ s.stop = d at *
  obtain ⟨d1, p1, st1⟩ := d
  simp only at hS hbd hdl
  clear h hm
  cases hq : isR t figL p1 with
  | false =>
    rw [hq, if_neg (by decide)] at hS
    have HI : Hid (∀ w1, StAt w1 b t { s.up p1 st1 with day := d1 } → Calls Tryd.prog 34 #[.pointer (some ⟨b, 0, none⟩), .string ⟨#[48, 49, 50, 51, 52, 53, 54, 55, 56, 57]⟩] w1 (Rd b t w1 (.bool false) { s.up p1 st1 with day := d1 })) := Lib.hid (fun w1 h1 => is_any b t ⟨#[48, 49, 50, 51, 52, 53, 54, 55, 56, 57]⟩ _ w1 h1 false hq hs)
    have HSS := Lib.hid hS
    clear hq hS
    go_enter Tryd.func37, Tryd.ntmps37
    go_wp2_with fail
    refine HN.out.mono ?_
    rintro e w1 ⟨rfl, h1, f1⟩
    have n5 := h1.day
    have m5 := h1.f 5
    have H1 := Lib.hid (h1.set 5 (.int .i64 d1) (s' := { s.up p1 st1 with day := d1 }) rfl)
    have F1 := Lib.hid (frt f1 (StAt.fr 5 (.int .i64 d1)))
    clear h1 f1
    go_wp2_with fail
    clear n5 m5
    generalize w1.setCell ⟨b, 5, none⟩ (.int .i64 d1) = w2 at *
    refine (HI.out w2 H1.out).mono ?_
    rintro e w3 ⟨rfl, h3, f3⟩
    have H3 := Lib.hid h3
    have F3 := Lib.hid (frt F1.out f3)
    clear h3 f3
    go_wp2
    exact bodyPost_end (results_none rfl _ _ _) rfl ⟨rfl, HSS.out ▸ H3.out, F3.out⟩
  | true =>
    rw [hq, if_pos rfl] at hS
    have HI : Hid (∀ w1, StAt w1 b t { s.up p1 st1 with day := d1 } → Calls Tryd.prog 34 #[.pointer (some ⟨b, 0, none⟩), .string ⟨#[48, 49, 50, 51, 52, 53, 54, 55, 56, 57]⟩] w1 (Rd b t w1 (.bool true) { s.up p1 st1 with day := d1 })) := Lib.hid (fun w1 h1 => is_any b t ⟨#[48, 49, 50, 51, 52, 53, 54, 55, 56, 57]⟩ _ w1 h1 true hq hs)
    have hbd2 := num1_bd t p1 st1
    have HN2 : Hid (∀ w1, StAt w1 b t { s.up p1 st1 with day := d1 } → Ml w1 → Calls Tryd.prog 53 #[.pointer (some ⟨b, 0, none⟩), .int .i64 1] w1 (Rd b t w1 (.int .i64 (numR t 1 0 p1 st1).1) (({ s.up p1 st1 with day := d1 } : Stp).up (numR t 1 0 p1 st1).2.1 (numR t 1 0 p1 st1).2.2))) := Lib.hid (fun w1 h1 m1 => number_any b t _ w1 h1 hdl hs m1 1 (by omega) _ rfl)
    generalize numR t 1 0 p1 st1 = d2 at *
    have HSS := Lib.hid hS
    clear hq hS
    go_enter Tryd.func37, Tryd.ntmps37
    go_wp2_with fail
    refine HN.out.mono ?_
    rintro e w1 ⟨rfl, h1, f1⟩
    have n5 := h1.day
    have m5 := h1.f 5
    have H1 := Lib.hid (h1.set 5 (.int .i64 d1) (s' := { s.up p1 st1 with day := d1 }) rfl)
    have F1 := Lib.hid (frt f1 (StAt.fr 5 (.int .i64 d1)))
    clear h1 f1
    go_wp2_with fail
    clear n5 m5
    generalize w1.setCell ⟨b, 5, none⟩ (.int .i64 d1) = w2 at *
    refine (HI.out w2 H1.out).mono ?_
    rintro e w3 ⟨rfl, h3, f3⟩
    have c5 := h3.day
    rw [show ({ s.up p1 st1 with day := d1 } : Stp).day = d1 from rfl] at c5
    have HC : Hid (∀ W, (W = w3 ∨ W = w3.drew) → Calls Tryd.prog 53 #[.pointer (some ⟨b, 0, none⟩), .int .i64 1] W (Rd b t w3 (.int .i64 d2.1) (({ s.up p1 st1 with day := d1 } : Stp).up d2.2.1 d2.2.2))) := Lib.hid (fun W hW => by
      rcases hW with rfl | rfl
      · exact HN2.out _ h3 (HM.out.fr HH.out (frt F1.out f3))
      · exact (HN2.out w3.drew (std h3 1) (HM.out.fr HH.out (frd (frt F1.out f3) 1))).mono fun e w' h => Rd.lift (frd (Fr.refl _ _) 1) h)
    have F3 := Lib.hid (frt F1.out f3)
    have hw1 : IntKind.i64.wrap (10 * d1) = 10 * d1 := IntWalk.i64_in _ (by omega)
    have hw2 : IntKind.i64.wrap (10 * d1 + d2.1) = 10 * d1 + d2.1 := IntWalk.i64_in _ (by omega)
    clear h3 f3
    go_wp2_with fail
    go_region_with (go_at_call 53; (with_reducible refine (HC.out _ (by first | exact Or.inl rfl | exact Or.inr rfl)).mono ?_); rintro e wn ⟨rfl, hn, fn⟩; have n5 : wn.cell? ⟨b, 5, none⟩ = some (.int .i64 d1) := hn.day; have m5 := hn.f 5; have Hn := Lib.hid hn; have Fn := Lib.hid fn; clear hn fn)
    all_goals
      exact bodyPost_end (results_none rfl _ _ _) rfl ⟨rfl, by rw [← HSS.out]; exact Hn.out.set 5 _ rfl, frt F3.out (frt Fn.out (StAt.fr _ _))⟩
end Go.Proofs.YtkkmjadkagpihaaDoor
