/- Date: the reader's below, behind, word, end. -/
import Derived.Test.YtkkmjadkagpihaaDoorJ16
namespace Go.Proofs.YtkkmjadkagpihaaDoor
open Go Go.RowKit

/-- A number of two digits below 24. -/
def b24R (t : ByteArray) (p : Nat) (st : Int) : Int × Nat × Int :=
  let d := digR t (figL.take 3) p st
  let e := digR t (if d.1 = 2 then figL.take 4 else figL) d.2.1 d.2.2
  (10 * d.1 + e.1, e.2.1, e.2.2)
/-- A number of two digits below 60. -/
def b60R (t : ByteArray) (p : Nat) (st : Int) : Int × Nat × Int :=
  let d := digR t (figL.take 6) p st
  let e := digR t (if d.1 = 6 then figL.take 0 else figL) d.2.1 d.2.2
  (10 * d.1 + e.1, e.2.1, e.2.2)

theorem below24_any (b : Nat) (t : ByteArray) (s : Stp) (w : World) (h : StAt w b t s) (hle : s.at_ ≤ t.size) (hs : t.size ≤ 9223372036854775807) (hm : Ml w) (D : Int × Nat × Int) (hD : b24R t s.at_ s.stop = D) :
    Calls Tryd.prog 68 #[.pointer (some ⟨b, 0, none⟩), .int .i64 24] w (Rd b t w (.int .i64 D.1) (s.up D.2.1 D.2.2)) := by
  have HO := Lib.hid (digit_any b t ⟨#[48, 49, 50]⟩ s w h hle hs (by show 3 ≤ _; omega) hm _ rfl)
  rw [show (⟨#[48, 49, 50]⟩ : ByteArray).data.toList = figL.take 3 from rfl] at HO
  have hd := digR_bd t 3 s.at_ s.stop (by omega)
  have hdl := digR_le t (figL.take 3) s.at_ s.stop hle
  have HM := Lib.hid hm
  have HH := Lib.hid h
  unfold b24R at hD
  generalize digR t (figL.take 3) s.at_ s.stop = d at *
  simp only at hD
  clear h hm hle
  by_cases h2 : d.1 = 2
  · rw [if_pos h2] at hD
    have hd2 := digR_bd t 4 d.2.1 d.2.2 (by omega)
    have HC : Hid (∀ w1, StAt w1 b t (s.up d.2.1 d.2.2) → Ml w1 → Calls Tryd.prog 72 #[.pointer (some ⟨b, 0, none⟩), .string ⟨#[48, 49, 50, 51]⟩] w1 (Rd b t w1 (.int .i64 (digR t (figL.take 4) d.2.1 d.2.2).1) ((s.up d.2.1 d.2.2).up (digR t (figL.take 4) d.2.1 d.2.2).2.1 (digR t (figL.take 4) d.2.1 d.2.2).2.2))) := Lib.hid (fun w1 h1 m1 => digit_any b t ⟨#[48, 49, 50, 51]⟩ (s.up d.2.1 d.2.2) w1 h1 hdl hs (by show 4 ≤ _; omega) m1 _ rfl)
    generalize digR t (figL.take 4) d.2.1 d.2.2 = e2 at *
    obtain ⟨d1, d2, d3⟩ := d
    simp only at h2 hD
    subst h2
    subst hD
    go_enter Tryd.func68, Tryd.ntmps68
    go_wp2_with fail
    refine HO.out.mono ?_
    rintro e w1 ⟨rfl, h1, f1⟩
    have hm1 := HM.out.fr HH.out f1
    have H1 := Lib.hid h1
    have F1 := Lib.hid f1
    have HM1 := Lib.hid hm1
    clear h1 f1 hm1
    go_wp2_with fail
    refine (HC.out w1 H1.out HM1.out).mono ?_
    rintro e w2 ⟨rfl, h2, f2⟩
    have H2 := Lib.hid h2
    have F2 := Lib.hid (frt F1.out f2)
    clear h2 f2
    go_wp2
    go_ret
    exact Rd.mk' rfl H2.out F2.out
  · rw [if_neg h2] at hD
    have hd2 := digR_bd t 10 d.2.1 d.2.2 (by omega)
    rw [fig_take] at hd2
    have HC : Hid (∀ w1, StAt w1 b t (s.up d.2.1 d.2.2) → Ml w1 → Calls Tryd.prog 72 #[.pointer (some ⟨b, 0, none⟩), .string ⟨#[48, 49, 50, 51, 52, 53, 54, 55, 56, 57]⟩] w1 (Rd b t w1 (.int .i64 (digR t figL d.2.1 d.2.2).1) ((s.up d.2.1 d.2.2).up (digR t figL d.2.1 d.2.2).2.1 (digR t figL d.2.1 d.2.2).2.2))) := Lib.hid (fun w1 h1 m1 => digit_any b t ⟨#[48, 49, 50, 51, 52, 53, 54, 55, 56, 57]⟩ (s.up d.2.1 d.2.2) w1 h1 hdl hs (by show 10 ≤ _; omega) m1 _ rfl)
    generalize digR t figL d.2.1 d.2.2 = e2 at *
    have hx : (d.1 == 2) = false := by simpa using h2
    obtain ⟨d1, d2, d3⟩ := d
    simp only at hD hx hd h2
    subst hD
    clear h2
    go_enter Tryd.func68, Tryd.ntmps68
    go_wp2_with fail
    refine HO.out.mono ?_
    rintro e w1 ⟨rfl, h1, f1⟩
    have hm1 := HM.out.fr HH.out f1
    have H1 := Lib.hid h1
    have F1 := Lib.hid f1
    have HM1 := Lib.hid hm1
    clear h1 f1 hm1
    go_wp2_with fail
    refine (HC.out w1 H1.out HM1.out).mono ?_
    rintro e w2 ⟨rfl, h2, f2⟩
    have H2 := Lib.hid h2
    have F2 := Lib.hid (frt F1.out f2)
    clear h2 f2
    go_wp2
    go_ret
    exact Rd.mk' rfl H2.out F2.out
theorem below60_any (b : Nat) (t : ByteArray) (s : Stp) (w : World) (h : StAt w b t s) (hle : s.at_ ≤ t.size) (hs : t.size ≤ 9223372036854775807) (hm : Ml w) (D : Int × Nat × Int) (hD : b60R t s.at_ s.stop = D) :
    Calls Tryd.prog 68 #[.pointer (some ⟨b, 0, none⟩), .int .i64 60] w (Rd b t w (.int .i64 D.1) (s.up D.2.1 D.2.2)) := by
  have HO := Lib.hid (digit_any b t ⟨#[48, 49, 50, 51, 52, 53]⟩ s w h hle hs (by show 6 ≤ _; omega) hm _ rfl)
  rw [show (⟨#[48, 49, 50, 51, 52, 53]⟩ : ByteArray).data.toList = figL.take 6 from rfl] at HO
  have hd := digR_bd t 6 s.at_ s.stop (by omega)
  have hdl := digR_le t (figL.take 6) s.at_ s.stop hle
  have HM := Lib.hid hm
  have HH := Lib.hid h
  unfold b60R at hD
  generalize digR t (figL.take 6) s.at_ s.stop = d at *
  simp only at hD
  clear h hm hle
  by_cases h2 : d.1 = 6
  · rw [if_pos h2] at hD
    have hd2 := digR_bd t 0 d.2.1 d.2.2 (by omega)
    have HC : Hid (∀ w1, StAt w1 b t (s.up d.2.1 d.2.2) → Ml w1 → Calls Tryd.prog 72 #[.pointer (some ⟨b, 0, none⟩), .string ⟨#[]⟩] w1 (Rd b t w1 (.int .i64 (digR t (figL.take 0) d.2.1 d.2.2).1) ((s.up d.2.1 d.2.2).up (digR t (figL.take 0) d.2.1 d.2.2).2.1 (digR t (figL.take 0) d.2.1 d.2.2).2.2))) := Lib.hid (fun w1 h1 m1 => digit_any b t ⟨#[]⟩ (s.up d.2.1 d.2.2) w1 h1 hdl hs (by show 0 ≤ _; omega) m1 _ rfl)
    generalize digR t (figL.take 0) d.2.1 d.2.2 = e2 at *
    obtain ⟨d1, d2, d3⟩ := d
    simp only at h2 hD
    subst h2
    subst hD
    go_enter Tryd.func68, Tryd.ntmps68
    go_wp2_with fail
    refine HO.out.mono ?_
    rintro e w1 ⟨rfl, h1, f1⟩
    have hm1 := HM.out.fr HH.out f1
    have H1 := Lib.hid h1
    have F1 := Lib.hid f1
    have HM1 := Lib.hid hm1
    clear h1 f1 hm1
    go_wp2_with fail
    refine (HC.out w1 H1.out HM1.out).mono ?_
    rintro e w2 ⟨rfl, h2, f2⟩
    have H2 := Lib.hid h2
    have F2 := Lib.hid (frt F1.out f2)
    clear h2 f2
    go_wp2
    go_ret
    exact Rd.mk' rfl H2.out F2.out
  · rw [if_neg h2] at hD
    have hd2 := digR_bd t 10 d.2.1 d.2.2 (by omega)
    rw [fig_take] at hd2
    have HC : Hid (∀ w1, StAt w1 b t (s.up d.2.1 d.2.2) → Ml w1 → Calls Tryd.prog 72 #[.pointer (some ⟨b, 0, none⟩), .string ⟨#[48, 49, 50, 51, 52, 53, 54, 55, 56, 57]⟩] w1 (Rd b t w1 (.int .i64 (digR t figL d.2.1 d.2.2).1) ((s.up d.2.1 d.2.2).up (digR t figL d.2.1 d.2.2).2.1 (digR t figL d.2.1 d.2.2).2.2))) := Lib.hid (fun w1 h1 m1 => digit_any b t ⟨#[48, 49, 50, 51, 52, 53, 54, 55, 56, 57]⟩ (s.up d.2.1 d.2.2) w1 h1 hdl hs (by show 10 ≤ _; omega) m1 _ rfl)
    generalize digR t figL d.2.1 d.2.2 = e2 at *
    have hx : (d.1 == 6) = false := by simpa using h2
    obtain ⟨d1, d2, d3⟩ := d
    simp only at hD hx hd h2
    subst hD
    clear h2
    go_enter Tryd.func68, Tryd.ntmps68
    go_wp2_with fail
    refine HO.out.mono ?_
    rintro e w1 ⟨rfl, h1, f1⟩
    have hm1 := HM.out.fr HH.out f1
    have H1 := Lib.hid h1
    have F1 := Lib.hid f1
    have HM1 := Lib.hid hm1
    clear h1 f1 hm1
    go_wp2_with fail
    refine (HC.out w1 H1.out HM1.out).mono ?_
    rintro e w2 ⟨rfl, h2, f2⟩
    have H2 := Lib.hid h2
    have F2 := Lib.hid (frt F1.out f2)
    clear h2 f2
    go_wp2
    go_ret
    exact Rd.mk' rfl H2.out F2.out

theorem end_any (b : Nat) (t : ByteArray) (s : Stp) (w : World) (h : StAt w b t s) (hle : s.at_ ≤ t.size) (_hs : t.size ≤ 9223372036854775807) :
    Calls Tryd.prog 54 #[.pointer (some ⟨b, 0, none⟩)] w (Rd b t w (.tuple #[.int .i64 (s.at_ : Int), .int .i64 (if s.at_ < t.size then 4 else s.stop)]) (s.up s.at_ (if s.at_ < t.size then 4 else s.stop))) := by
  have c0 := h.c 0
  have c1 := h.c 1
  have c2 := h.c 2
  have f2 := h.f 2
  rw [show (cellsS t s)[0]? = some (.string t) from rfl] at c0
  rw [show (cellsS t s)[1]? = some (.int .i64 (s.at_ : Int)) from rfl] at c1
  rw [show (cellsS t s)[2]? = some (.int .i64 s.stop) from rfl] at c2
  by_cases hp : s.at_ < t.size
  · rw [if_pos hp]
    have HZ : Hid (∀ n m, StAt (((w.drewN n).setCell ⟨b, 2, none⟩ (.int .i64 4)).drewN m) b t (s.up s.at_ 4)) := Lib.hid (fun n m => h.set 2 (.int .i64 4) rfl)
    have HF := Lib.hid (StAt.fr (w := w) (b := b) 2 (.int .i64 4))
    have HF' : Hid (∀ n m, Fr (· = b) w (((w.drewN n).setCell ⟨b, 2, none⟩ (.int .i64 4)).drewN m)) := Lib.hid (fun n m => ⟨HF.out.os, HF.out.tape, HF.out.output, HF.out.size, HF.out.block⟩)
    have hpi : (s.at_ : Int) < (t.size : Int) := by omega
    clear h HF
    go_enter Tryd.func54, Tryd.ntmps54
    go_wp2
    go_quiet (fail)
    go_wp2
    go_quiet (fail)
    go_wp2
    go_ret2
    exact Rd.mk' rfl (HZ.out _ _) (HF'.out _ _)
  · rw [if_neg hp]
    have H := Lib.hid h
    have hpi : ¬ (s.at_ : Int) < (t.size : Int) := by omega
    clear h
    go_enter Tryd.func54, Tryd.ntmps54
    go_wp2
    go_quiet (fail)
    go_wp2
    go_quiet (fail)
    go_wp2
    go_ret2
    exact Rd.mk' rfl H.out (frd (frd (Fr.refl _ _) _) _)

/-- The letters that may stand behind the beginning of one of n words of three. -/
def behindL : Nat → List UInt8 → List UInt8 → List UInt8
  | 0, _, _ => []
  | n + 1, l, p => (if Lib.hasPrefix l p then (l.drop p.length).take 1 else []) ++ behindL n (l.drop 3) p
theorem behindL_len : ∀ n l p, (behindL n l p).length ≤ n
  | 0, _, _ => Nat.le_refl _
  | n + 1, l, p => by
    have := behindL_len n (l.drop 3) p
    rw [behindL, List.length_append]
    split
    · rw [List.length_take]; omega
    · simp; omega
theorem behindL_no {n : Nat} {l p : List UInt8} (h : Lib.hasPrefix l p = false) : behindL (n + 1) l p = behindL n (l.drop 3) p := by rw [behindL, h]; rfl
theorem behindL_yes {n : Nat} {l p : List UInt8} (h : Lib.hasPrefix l p = true) : behindL (n + 1) l p = (l.drop p.length).take 1 ++ behindL n (l.drop 3) p := by rw [behindL, h]; rfl
theorem isEmpty_ne (s : ByteArray) (h : s.size ≠ 0) : s.toList.isEmpty = false := by
  rw [Lib.toList_data]
  cases h1 : s.data.toList with
  | nil => exact absurd (by rw [Lib.size_eq, h1]; rfl) h
  | cons _ _ => rfl
theorem isEmpty_eq (s : ByteArray) (h : s.size = 0) : s.toList.isEmpty = true := by
  rw [Lib.toList_data]
  have : s.data.toList = [] := List.eq_nil_of_length_eq_zero (by rw [← Lib.size_eq]; exact h)
  rw [this]; rfl
theorem toList_nil (s : ByteArray) (h : s.size = 0) : s.toList = [] := by
  have := isEmpty_eq s h
  simpa using this

theorem behind_any (words p : ByteArray) (n : Nat) (w : World) (hw : words.size = 3 * n) (hn : n ≤ 100) (hp : p.size ≤ 2) (R : List UInt8) (hR : behindL n words.data.toList p.data.toList = R) :
    Calls Tryd.prog 65 #[.string words, .string p] w fun e w' => e = .returned (.string ⟨R.toArray⟩) ∧ w = w' := by
  have hpl : p.data.toList.length ≤ 2 := by rw [← Lib.size_eq]; exact hp
  have HR := Lib.hid hR
  have hRl : R.length ≤ n := by rw [← hR]; exact behindL_len _ _ _
  clear hR
  go_enter Tryd.func65, Tryd.ntmps65
  go_wp2
  go_loop [0, 5, 6, 7] (fun ws nx _r _ok => ∃ (k : Nat) (s : ByteArray) (X : List UInt8), k ≤ n ∧ ws = .string s ∧ s.size = 3 * k ∧ nx = .string ⟨X.toArray⟩ ∧ X ++ behindL k s.data.toList p.data.toList = R) (fun ws _ _ _ => match ws with | .string s => s.size | _ => 0)
  case atStart => exact ⟨n, words, [], Nat.le_refl _, rfl, hw, rfl, HR.out⟩
  case round =>
    obtain ⟨k, s, X, hk, rfl, hsz, rfl, hX⟩ := hrel
    have hXl : X.length ≤ n := by
      have : X.length ≤ R.length := by rw [← hX, List.length_append]; omega
      omega
    by_cases h0 : k = 0
    · subst h0
      have hnil := isEmpty_eq s hsz
      have hnil2 := toList_nil s hsz
      have hX0 : X = R := by rw [← hX, behindL, List.append_nil]
      subst hX0
      clear hX HR
      go_wp2
      go_ret
      exact ⟨rfl, rfl⟩
    · obtain ⟨j, rfl⟩ : ∃ j, k = j + 1 := ⟨k - 1, by omega⟩
      have hne := isEmpty_ne s (by omega)
      have hdrop : (s.extract 3 s.size).data.toList = s.data.toList.drop 3 := Lib.extract_to_end s 3
      have hsz3 : (s.extract 3 s.size).size = 3 * j := by rw [Lib.size_eq, hdrop, List.length_drop, ← Lib.size_eq]; omega
      have HD := Lib.hid hdrop
      have HS3 := Lib.hid hsz3
      have hs3 : 3 ≤ s.size := by omega
      have hs3i : (3 : Int) ≤ (s.size : Int) := by omega
      cases hpre : Lib.hasPrefix s.data.toList p.data.toList with
      | false =>
        rw [behindL_no hpre] at hX
        have HX := Lib.hid hX
        have HC := Lib.hid (Tryd.strings_CutPrefix s p)
        simp only [hpre] at HC
        have HLT : Hid (3 * j < s.size) := Lib.hid (by omega)
        clear hX hdrop hsz3 hpre hsz HR
        go_wp2_with (go_at_call 76; refine (HC.out _).mono ?_; rintro e w' ⟨rfl, rfl⟩)
        go_round
        case rel => exact ⟨j, _, X, by omega, rfl, HS3.out, rfl, by rw [HD.out]; exact HX.out⟩
        case measure => simp only [HS3.out]; exact HLT.out
      | true =>
        rw [behindL_yes hpre] at hX
        have ht : Lib.trimPrefix s.data.toList p.data.toList = s.data.toList.drop p.data.toList.length := by unfold Lib.trimPrefix; rw [hpre]; rfl
        obtain ⟨T, hT⟩ : ∃ T, s.data.toList.drop p.data.toList.length = T := ⟨_, rfl⟩
        rw [hT] at hX ht
        have hTl : 1 ≤ T.length := by rw [← hT, List.length_drop, ← Lib.size_eq]; omega
        have HC := Lib.hid (Tryd.strings_CutPrefix s p)
        simp only [hpre, ht] at HC
        obtain ⟨Z, hZ⟩ : ∃ Z, Z = X ++ T.take 1 := ⟨_, rfl⟩
        have hX' : Z ++ behindL j (s.data.toList.drop 3) p.data.toList = R := by rw [hZ, List.append_assoc]; exact hX
        have hZl : Z.length ≤ 200 := by rw [hZ, List.length_append, List.length_take]; omega
        have hadd := add_to X (T.take 1) Z hZ (by omega)
        have hex : (⟨T.toArray⟩ : ByteArray).extract 0 1 = ⟨(T.take 1).toArray⟩ := str_ext (by rw [Lib.extract_data, data_mk, List.drop_zero])
        have hTs : (⟨T.toArray⟩ : ByteArray).size = T.length := size_mk T
        have HX := Lib.hid hX'
        have HLT : Hid (3 * j < s.size) := Lib.hid (by omega)
        have hT1 : (1 : Int) ≤ (T.length : Int) := by omega
        clear hX hX' hdrop hsz3 hpre hsz hT ht hZ HR
        go_wp2_with (go_at_call 76; refine (HC.out _).mono ?_; rintro e w' ⟨rfl, rfl⟩)
        go_round
        case rel => exact ⟨j, _, Z, by omega, rfl, HS3.out, rfl, by rw [HD.out]; exact HX.out⟩
        case measure => simp only [HS3.out]; exact HLT.out
end Go.Proofs.YtkkmjadkagpihaaDoor
