/- Date: the reader's digit, number, below, behind, word, end. -/
import Derived.Test.YtkkmjadkagpihaaDoorJ15
import Derived.Lib.Hide
namespace Go.Proofs.YtkkmjadkagpihaaDoor
open Go Go.RowKit

/-- The cell of the library's bound on a search. -/
def Ml (w : World) : Prop := ∃ m, w.cell? ⟨0, 0, none⟩ = some (.int .i64 m)
theorem Ml.below {w w' : World} (h : Ml w) (hb : Below w.heap.size w w') : Ml w' := by
  obtain ⟨m, hm⟩ := h
  exact ⟨m, (hb.cell (World.block_lt_of_cell? w _ hm)).trans hm⟩
theorem Ml.fr {w w' : World} {b : Nat} {t : ByteArray} {s : Stp} (h : Ml w) (hs : StAt w b t s) (hf : Fr (· = b) w w') : Ml w' := by
  obtain ⟨m, hm⟩ := h
  have hlt := World.block_lt_of_cell? w _ hm
  refine ⟨m, (World.cell?_of_block (a := ⟨0, 0, none⟩) (hf.block _ hlt ?_)).trans hm⟩
  intro e
  have e' : 0 = b := e
  have hc := hs.c 0
  rw [← e'] at hc
  have := hm.symm.trans hc
  simp [cellsS] at this

def Stp.up (s : Stp) (p : Nat) (st : Int) : Stp := { s with at_ := p, stop := st }
theorem oneR_le (t : ByteArray) (these : List UInt8) (p : Nat) (st : Int) (h : p ≤ t.size) : (oneR t these p st).2.1 ≤ t.size := by
  unfold oneR
  split
  · split
    · split <;> simp only <;> omega
    · simp only; omega
  · simp only; omega
theorem one_any (b : Nat) (t these : ByteArray) (s : Stp) (w : World) (h : StAt w b t s) (hle : s.at_ ≤ t.size) (hs : t.size ≤ 9223372036854775807) (hth : these.size ≤ 1000) (X : List UInt8 × Nat × Int) (hX : oneR t these.data.toList s.at_ s.stop = X) :
    Calls Tryd.prog 36 #[.pointer (some ⟨b, 0, none⟩), .string these] w (Rd b t w (.string ⟨X.1.toArray⟩) (s.up X.2.1 X.2.2)) := by
  subst hX
  by_cases hp : s.at_ < t.size
  · by_cases hst : s.stop = 0
    · rw [hst]
      exact one_go b t these s w h hp hst hs hth
    · have e : oneR t these.data.toList s.at_ s.stop = ([], s.at_, s.stop) := by unfold oneR; rw [if_pos hp, if_neg hst]
      rw [e]
      exact one_off b t these s w h hp hst hs
  · have e : oneR t these.data.toList s.at_ s.stop = ([], s.at_, 3) := by unfold oneR; rw [if_neg hp]
    rw [e]
    exact one_short b t these s w h hp hle hs

def figL : List UInt8 := [48, 49, 50, 51, 52, 53, 54, 55, 56, 57]
def digR (t : ByteArray) (these : List UInt8) (p : Nat) (st : Int) : Int × Nat × Int := (Lib.index figL (oneR t these p st).1, (oneR t these p st).2.1, (oneR t these p st).2.2)
theorem fig_bd : ∀ k, k < 11 → ∀ i, i < 11 → 0 ≤ Lib.index figL (((figL.take k).drop i).take 1) ∧ Lib.index figL (((figL.take k).drop i).take 1) ≤ 9 := by decide +kernel
theorem fig_nil : Lib.index figL [] = 0 := by decide +kernel
theorem digR_bd (t : ByteArray) (k p : Nat) (st : Int) (hk : k ≤ 10) : 0 ≤ (digR t (figL.take k) p st).1 ∧ (digR t (figL.take k) p st).1 ≤ 9 := by
  unfold digR oneR
  split
  · split
    · split
      · generalize (Lib.indexByte (low (figL.take k)) (lowB (t.get! p))).toNat = i
        by_cases hi : i < 11
        · exact fig_bd k (by omega) i hi
        · rw [List.drop_eq_nil_of_le (by rw [List.length_take]; show min k 10 ≤ i; omega)]
          show 0 ≤ Lib.index figL [] ∧ Lib.index figL [] ≤ 9
          rw [fig_nil]; omega
      · rw [fig_nil]; simp only; omega
    · rw [fig_nil]; simp only; omega
  · rw [fig_nil]; simp only; omega

theorem digit_any (b : Nat) (t these : ByteArray) (s : Stp) (w : World) (h : StAt w b t s) (hle : s.at_ ≤ t.size) (hs : t.size ≤ 9223372036854775807) (hth : these.size ≤ 1000) (hm : Ml w) (D : Int × Nat × Int) (hD : digR t these.data.toList s.at_ s.stop = D) :
    Calls Tryd.prog 72 #[.pointer (some ⟨b, 0, none⟩), .string these] w (Rd b t w (.int .i64 D.1) (s.up D.2.1 D.2.2)) := by
  subst hD
  have HO := Lib.hid (one_any b t these s w h hle hs hth _ rfl)
  have HM := Lib.hid hm
  have HH := Lib.hid h
  clear h hm hle
  go_enter Tryd.func72, Tryd.ntmps72
  go_wp2_with fail
  refine HO.out.mono ?_
  rintro e w1 ⟨rfl, h1, f1⟩
  obtain ⟨m, hm⟩ := HM.out.fr HH.out f1
  have HX := Lib.hid (Tryd.strings_Index ⟨#[48, 49, 50, 51, 52, 53, 54, 55, 56, 57]⟩ ⟨(oneR t these.data.toList s.at_ s.stop).1.toArray⟩ m w1 (by show 10 < _; omega) hm)
  have H1 := Lib.hid h1
  have F1 := Lib.hid f1
  clear hm h1 f1
  go_wp2_with fail
  refine HX.out.mono ?_
  rintro e w2 ⟨rfl, rfl⟩
  go_wp2
  go_ret
  exact Rd.mk' (by rw [data_mk]; rfl) H1.out F1.out

def numR (t : ByteArray) : Nat → Int → Nat → Int → Int × Nat × Int
  | 0, n, p, st => (n, p, st)
  | k + 1, n, p, st => numR t k (10 * n + (digR t figL p st).1) (digR t figL p st).2.1 (digR t figL p st).2.2
theorem digR_le (t : ByteArray) (these : List UInt8) (p : Nat) (st : Int) (h : p ≤ t.size) : (digR t these p st).2.1 ≤ t.size := oneR_le t these p st h
theorem fig_take : figL.take 10 = figL := rfl
theorem number_any (b : Nat) (t : ByteArray) (s : Stp) (w : World) (h : StAt w b t s) (hle : s.at_ ≤ t.size) (hs : t.size ≤ 9223372036854775807) (hm : Ml w) (size : Nat) (hsz : size ≤ 4) (D : Int × Nat × Int) (hD : numR t size 0 s.at_ s.stop = D) :
    Calls Tryd.prog 53 #[.pointer (some ⟨b, 0, none⟩), .int .i64 (size : Int)] w (Rd b t w (.int .i64 D.1) (s.up D.2.1 D.2.2)) := by
  have HM := Lib.hid hm
  have HH := Lib.hid h
  have HD := Lib.hid hD
  clear hm h hD
  go_enter Tryd.func53, Tryd.ntmps53
  go_wp2
  go_loopw [5, 7] (fun n i wr => ∃ (k : Nat) (v : Int) (p : Nat) (st : Int), k ≤ size ∧ i = .int .i64 k ∧ n = .int .i64 v ∧ 0 ≤ v ∧ v < 10 ^ k ∧ p ≤ t.size ∧ StAt wr b t (s.up p st) ∧ Fr (· = b) w wr ∧ numR t (size - k) v p st = D) (fun _ i _ => size - (intOf i).toNat)
  case atStart => exact ⟨0, 0, s.at_, s.stop, Nat.zero_le _, rfl, rfl, by omega, by omega, hle, HH.out, Fr.refl _ _, HD.out⟩
  case round =>
    obtain ⟨k, v, p, st, hk, rfl, rfl, hv0, hv1, hp, hst, hfr, hn⟩ := hrel
    have hv2 : v < 10000 := by
      have : (10 : Int) ^ k ≤ 10 ^ 4 := by
        have : k = 0 ∨ k = 1 ∨ k = 2 ∨ k = 3 ∨ k = 4 := by omega
        rcases this with rfl | rfl | rfl | rfl | rfl <;> decide
      have h4 : (10 : Int) ^ 4 = 10000 := by decide
      omega
    by_cases hlt : k < size
    · have hd := digR_bd t 10 p st (by omega)
      rw [fig_take] at hd
      have hdl := digR_le t figL p st hp
      have HC := Lib.hid (digit_any b t ⟨#[48, 49, 50, 51, 52, 53, 54, 55, 56, 57]⟩ (s.up p st) wr hst hp hs (by show 10 ≤ _; omega) (HM.out.fr HH.out hfr) (digR t figL p st) rfl)
      have HN : Hid (numR t (size - (k + 1)) (10 * v + (digR t figL p st).1) (digR t figL p st).2.1 (digR t figL p st).2.2 = D) := Lib.hid (by rw [← hn, show size - k = (size - (k + 1)) + 1 by omega]; rfl)
      have HF := Lib.hid hfr
      have HV : Hid (10 * v + (digR t figL p st).1 < 10 ^ (k + 1)) := Lib.hid (by rw [Int.pow_succ]; omega)
      clear hn hst hfr hv1
      generalize digR t figL p st = d at *
      go_wp2_with fail
      refine HC.out.mono ?_
      rintro e w2 ⟨rfl, h2, f2⟩
      have H2 := Lib.hid h2
      have F2 := Lib.hid (frt HF.out f2)
      clear h2 f2
      go_wp2
      go_roundw
      case rel => exact ⟨k + 1, 10 * v + d.1, d.2.1, d.2.2, by omega, by go_num, rfl, by omega, HV.out, hdl, H2.out, F2.out, HN.out⟩
      case measure => simp [intOf]; omega
    · obtain rfl : k = size := by omega
      rw [Nat.sub_self] at hn
      have hD2 : D = (v, p, st) := hn.symm
      subst hD2
      have H2 := Lib.hid hst
      have F2 := Lib.hid hfr
      clear hn hst hfr
      go_wp2
      go_ret
      exact Rd.mk' rfl H2.out F2.out
end Go.Proofs.YtkkmjadkagpihaaDoor
