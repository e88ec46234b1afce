/- Date: the stamp's hourMinute, monthYear. -/
import Derived.Test.YtkkmjadkagpihaaDoorJ19
namespace Go.Proofs.YtkkmjadkagpihaaDoor
open Go Go.RowKit

def hmS1 (t : ByteArray) (s : Stp) : Stp := { b24S t s with clock := 3600 * b24V t s }
def hmS2 (t : ByteArray) (s : Stp) : Stp := { b60S t (oneS t [58] s) with clock := s.clock + 60 * b60V t (oneS t [58] s) }
def hourMinuteS (t : ByteArray) (s : Stp) : Stp := hmS2 t (hmS1 t s)
theorem hmS1_ok {t : ByteArray} {s : Stp} (h : Ok t s) : Ok t (hmS1 t s) := b24S_ok h
theorem hourMinute_any (b : Nat) (t : ByteArray) (s : Stp) (w : World) (h : StAt w b t s) (hk : Ok t s) (hm : Ml w) :
    Calls Tryd.prog 39 #[.pointer (some ⟨b, 0, none⟩)] w (Rd b t w (.tuple #[]) (hourMinuteS t s)) := by
  have HB := Lib.hid (b24_S h hk hm)
  have hv := b24V_bd t s
  have hk1 := hmS1_ok hk
  have hst : Hid (∀ w1, StAt w1 b t (b24S t s) → StAt (w1.setCell ⟨b, 8, none⟩ (.int .i64 (3600 * b24V t s))) b t (hmS1 t s)) := Lib.hid (fun w1 h1 => h1.set 8 _ rfl)
  unfold hourMinuteS
  have hck1 : (hmS1 t s).clock = 3600 * b24V t s := rfl
  have HM := Lib.hid hm
  have HH := Lib.hid h
  clear h hm hk
  generalize b24V t s = v0 at *
  generalize b24S t s = s0 at *
  generalize hmS1 t s = s at *
  obtain ⟨S', hS⟩ : ∃ S', hmS2 t s = S' := ⟨_, rfl⟩
  rw [hS]
  unfold hmS2 at hS
  have HO := Lib.hid (fun (w : World) (h : StAt w b t s) => one_S ⟨#[58]⟩ h hk1 (by show 1 ≤ _; omega))
  rw [show (⟨#[58]⟩ : ByteArray).data.toList = [58] from rfl] at HO
  have hk2 := oneS_ok (g := [58]) hk1
  have hcl : (oneS t [58] s).clock = s.clock := rfl
  rw [hck1] at hcl hS
  generalize oneV t [58] s = v1 at *
  generalize oneS t [58] s = s1 at *
  have hbd := b60V_bd t s1
  have HC := Lib.hid (fun (w : World) (h : StAt w b t s1) (hm : Ml w) => b60_S h hk2 hm)
  generalize b60V t s1 = v2 at *
  have hclk : (b60S t s1).clock = s1.clock := rfl
  rw [hcl] at hclk
  generalize b60S t s1 = s2 at *
  have HCK := Lib.hid hclk
  have HK := Lib.hid hcl
  have HSS := Lib.hid hS
  clear hclk hcl hS hck1
  go_enter Tryd.func39, Tryd.ntmps39
  go_wp2_with fail
  refine HB.out.mono ?_
  rintro e w0 ⟨rfl, h0, f0⟩
  have n8 := h0.clock
  have m8 := h0.f 8
  have H0 := Lib.hid (hst.out w0 h0)
  have F0 := Lib.hid (frt f0 (StAt.fr 8 (.int .i64 (3600 * v0))))
  clear h0 f0
  go_wp2_with fail
  clear n8 m8
  generalize w0.setCell ⟨b, 8, none⟩ (.int .i64 (3600 * v0)) = wz at *
  refine (HO.out wz H0.out).mono ?_
  rintro e w1 ⟨rfl, h1, f1⟩
  have c8 : w1.cell? ⟨b, 8, none⟩ = some (.int .i64 (3600 * v0)) := by rw [← HK.out]; exact h1.clock
  have m1 := HM.out.fr HH.out (frt F0.out f1)
  have HX : Hid (∀ W, (W = w1 ∨ W = w1.drew) → Calls Tryd.prog 68 #[.pointer (some ⟨b, 0, none⟩), .int .i64 60] W (Rd b t w1 (.int .i64 v2) s2)) := Lib.hid (fun W hW => by
    rcases hW with rfl | rfl
    · exact HC.out _ h1 m1
    · exact (HC.out w1.drew (std h1 1) (m1.fr h1 (frd (Fr.refl _ _) 1))).mono fun e w' h => Rd.lift (frd (Fr.refl _ _) 1) h)
  have F1 := Lib.hid (frt F0.out f1)
  have hw1 : IntKind.i64.wrap (60 * v2) = 60 * v2 := IntWalk.i64_in _ (by omega)
  have hw2 : IntKind.i64.wrap (3600 * v0 + 60 * v2) = 3600 * v0 + 60 * v2 := IntWalk.i64_in _ (by omega)
  clear h1 f1 m1
  go_wp2_with fail
  go_region_with (go_at_call 68; ((with_reducible refine (HX.out _ (by first | exact Or.inl rfl | exact Or.inr rfl)).mono ?_); rintro e wn ⟨rfl, hn, fn⟩; have n8 : wn.cell? ⟨b, 8, none⟩ = some (.int .i64 (3600 * v0)) := (by rw [← HCK.out]; exact hn.clock); have m8 := hn.f 8; have Hn := Lib.hid hn; have Fn := Lib.hid fn; clear hn fn))
  all_goals
    exact bodyPost_end (results_none rfl _ _ _) rfl ⟨rfl, by rw [← HSS.out]; exact Hn.out.set 8 _ rfl, frt F1.out (frt Fn.out (StAt.fr _ _))⟩

def myS1 (t : ByteArray) (s : Stp) : Stp := { wordS t 12 monthsL s with month := 1 + wordV t 12 monthsL s }
def myS2 (t : ByteArray) (s : Stp) : Stp := { numS t 4 s with year := numV t 4 s }
def monthYearS (t : ByteArray) (g : List UInt8) (s : Stp) : Stp := myS2 t (oneS t g (myS1 t (oneS t g s)))
theorem myS1_ok {t : ByteArray} {s : Stp} (h : Ok t s) : Ok t (myS1 t s) := wordS_ok h
theorem monthYear_any (b : Nat) (t g : ByteArray) (s : Stp) (w : World) (h : StAt w b t s) (hk : Ok t s) (hm : Ml w) (hg : g.size ≤ 1000) :
    Calls Tryd.prog 38 #[.pointer (some ⟨b, 0, none⟩), .string g] w (Rd b t w (.tuple #[]) (monthYearS t g.data.toList s)) := by
  have H1 := Lib.hid (one_S g h hk hg)
  have k1 := oneS_ok (g := g.data.toList) hk
  unfold monthYearS
  have HM := Lib.hid hm
  have HH := Lib.hid h
  clear h hm hk
  generalize oneV t g.data.toList s = v1 at *
  generalize oneS t g.data.toList s = s1 at *
  have H2 := Lib.hid (fun (w : World) (h : StAt w b t s1) (hm : Ml w) => word_S ⟨#[74, 97, 110, 70, 101, 98, 77, 97, 114, 65, 112, 114, 77, 97, 121, 74, 117, 110, 74, 117, 108, 65, 117, 103, 83, 101, 112, 79, 99, 116, 78, 111, 118, 68, 101, 99]⟩ 12 h k1 hm rfl (by omega))
  rw [show (⟨#[74, 97, 110, 70, 101, 98, 77, 97, 114, 65, 112, 114, 77, 97, 121, 74, 117, 110, 74, 117, 108, 65, 117, 103, 83, 101, 112, 79, 99, 116, 78, 111, 118, 68, 101, 99]⟩ : ByteArray).data.toList = monthsL from rfl] at H2
  have b2 := wordV_bd t 12 monthsL (by show 36 ≤ _; omega) s1
  have hst : Hid (∀ w1, StAt w1 b t (wordS t 12 monthsL s1) → StAt (w1.setCell ⟨b, 4, none⟩ (.int .i64 (1 + wordV t 12 monthsL s1))) b t (myS1 t s1)) := Lib.hid (fun w1 h1 => h1.set 4 _ rfl)
  have k2 := myS1_ok k1
  generalize wordV t 12 monthsL s1 = v2 at *
  generalize wordS t 12 monthsL s1 = s2 at *
  generalize myS1 t s1 = s3 at *
  have H3 := Lib.hid (fun (w : World) (h : StAt w b t s3) => one_S g h k2 hg)
  have k3 := oneS_ok (g := g.data.toList) k2
  generalize oneV t g.data.toList s3 = v3 at *
  generalize oneS t g.data.toList s3 = s4 at *
  have H4 := Lib.hid (fun (w : World) (h : StAt w b t s4) (hm : Ml w) => num_S 4 h k3 hm (by omega))
  have hst2 : Hid (∀ w1, StAt w1 b t (numS t 4 s4) → StAt (w1.setCell ⟨b, 3, none⟩ (.int .i64 (numV t 4 s4))) b t (myS2 t s4)) := Lib.hid (fun w1 h1 => h1.set 3 _ rfl)
  generalize numV t 4 s4 = v4 at *
  generalize numS t 4 s4 = s5 at *
  generalize myS2 t s4 = s6 at *
  go_enter Tryd.func38, Tryd.ntmps38
  go_wp2_with fail
  refine H1.out.mono ?_
  rintro e w1 ⟨rfl, h1, f1⟩
  have HA := Lib.hid h1
  have FA := Lib.hid f1
  clear h1 f1
  go_wp2_with fail
  refine (H2.out w1 HA.out (HM.out.fr HH.out FA.out)).mono ?_
  rintro e w2 ⟨rfl, h2, f2⟩
  have n4 : w2.cell? ⟨b, 4, none⟩ = some (.int .i64 s2.month) := h2.c 4
  have m4 := h2.f 4
  have HB := Lib.hid (hst.out w2 h2)
  have FB := Lib.hid (frt FA.out (frt f2 (StAt.fr 4 (.int .i64 (1 + v2)))))
  clear h2 f2
  go_wp2_with fail
  clear n4 m4
  generalize w2.setCell ⟨b, 4, none⟩ (.int .i64 (1 + v2)) = w3 at *
  refine (H3.out w3 HB.out).mono ?_
  rintro e w4 ⟨rfl, h4, f4⟩
  have HC := Lib.hid h4
  have FC := Lib.hid (frt FB.out f4)
  clear h4 f4
  go_wp2_with fail
  refine (H4.out w4 HC.out (HM.out.fr HH.out FC.out)).mono ?_
  rintro e w5 ⟨rfl, h5, f5⟩
  have n3 : w5.cell? ⟨b, 3, none⟩ = some (.int .i64 s5.year) := h5.c 3
  have m3 := h5.f 3
  have HD := Lib.hid (hst2.out w5 h5)
  have FD := Lib.hid (frt FC.out (frt f5 (StAt.fr 3 (.int .i64 v4))))
  clear h5 f5
  go_wp2
  exact bodyPost_end (results_none rfl _ _ _) rfl ⟨rfl, HD.out, FD.out⟩
end Go.Proofs.YtkkmjadkagpihaaDoor
