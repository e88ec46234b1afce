/- Date: the stamp's place, moment. -/
import Derived.Test.YtkkmjadkagpihaaDoorJ20
import Derived.StillTailTactics
namespace Go.Proofs.YtkkmjadkagpihaaDoor
open Go Go.RowKit

def plus2 (t : ByteArray) (s : Stp) : Stp := { b60S t (b24S t s) with zone := 60 * b24V t s + b60V t (b24S t s) }
def minus2 (t : ByteArray) (s : Stp) : Stp := { b60S t (b24S t s) with zone := -60 * b24V t s - b60V t (b24S t s) }
def placeS (t : ByteArray) (g : List UInt8) (s : Stp) : Stp :=
  let s1 := oneS t g s
  if oneV t g s = [43] then plus2 t s1
  else if oneV t g s = [45] then minus2 t s1
  else if oneV t g s = [71] then oneS t [84] (oneS t [77] s1)
  else if oneV t g s = [85] then oneS t [84] s1
  else s1
/-- Zones begin with one of four letters. -/
theorem sign_of (t : ByteArray) (g : List UInt8) (s : Stp) (hg : g = [43, 45, 71, 85] ∨ g = [43, 45]) : oneV t g s = [43] ∨ oneV t g s = [45] ∨ oneV t g s = [71] ∨ oneV t g s = [85] ∨ oneV t g s = [] := by
  unfold oneV oneR
  split
  · split
    · split
      · generalize (Lib.indexByte (low g) (lowB (t.get! s.at_))).toNat = i
        have hi : i = 0 ∨ i = 1 ∨ i = 2 ∨ i = 3 ∨ 4 ≤ i := by omega
        rcases hg with rfl | rfl
        · rcases hi with rfl | rfl | rfl | rfl | hi
          · exact Or.inl rfl
          · exact Or.inr (Or.inl rfl)
          · exact Or.inr (Or.inr (Or.inl rfl))
          · exact Or.inr (Or.inr (Or.inr (Or.inl rfl)))
          · rw [List.drop_eq_nil_of_le (by show 4 ≤ i; omega)]; exact Or.inr (Or.inr (Or.inr (Or.inr rfl)))
        · rcases hi with rfl | rfl | rfl | rfl | hi
          · exact Or.inl rfl
          · exact Or.inr (Or.inl rfl)
          · exact Or.inr (Or.inr (Or.inr (Or.inr rfl)))
          · exact Or.inr (Or.inr (Or.inr (Or.inr rfl)))
          · rw [List.drop_eq_nil_of_le (by show 2 ≤ i; omega)]; exact Or.inr (Or.inr (Or.inr (Or.inr rfl)))
      · exact Or.inr (Or.inr (Or.inr (Or.inr rfl)))
    · exact Or.inr (Or.inr (Or.inr (Or.inr rfl)))
  · exact Or.inr (Or.inr (Or.inr (Or.inr rfl)))

theorem place_plus (b : Nat) (t g : ByteArray) (s : Stp) (w : World) (h : StAt w b t s) (hk : Ok t s) (hm : Ml w) (hg : g.size ≤ 1000) (hv : oneV t g.data.toList s = [43]) :
    Calls Tryd.prog 41 #[.pointer (some ⟨b, 0, none⟩), .string g] w (Rd b t w (.tuple #[]) (plus2 t (oneS t g.data.toList s))) := by
  have H1 := Lib.hid (one_S g h hk hg)
  rw [hv] at H1
  have k1 := oneS_ok (g := g.data.toList) hk
  have HM := Lib.hid hm
  have HH := Lib.hid h
  clear h hm hk hv
  generalize oneS t g.data.toList s = s1 at *
  obtain ⟨S', hS⟩ : ∃ S', plus2 t s1 = S' := ⟨_, rfl⟩
  rw [hS]
  unfold plus2 at hS
  have H2 := Lib.hid (fun (w : World) (h : StAt w b t s1) (hm : Ml w) => b24_S h k1 hm)
  have b2 := b24V_bd t s1
  have k2 := b24S_ok k1
  generalize b24V t s1 = v2 at *
  generalize b24S t s1 = s2 at *
  have H3 := Lib.hid (fun (w : World) (h : StAt w b t s2) (hm : Ml w) => b60_S h k2 hm)
  have b3 := b60V_bd t s2
  generalize b60V t s2 = v3 at *
  generalize b60S t s2 = s3 at *
  have HSS := Lib.hid hS
  clear hS
  go_enter Tryd.func41, Tryd.ntmps41
  go_wp2_with fail
  refine H1.out.mono ?_
  rintro e w1 ⟨rfl, h1, f1⟩
  have HA := Lib.hid h1
  have FA := Lib.hid f1
  have MA := Lib.hid (HM.out.fr HH.out f1)
  clear h1 f1
  have HX : Hid (∀ W, (W = w1 ∨ W = w1.drew) → Calls Tryd.prog 68 #[.pointer (some ⟨b, 0, none⟩), .int .i64 24] W (Rd b t w1 (.int .i64 v2) s2)) := Lib.hid (fun W hW => by
    rcases hW with rfl | rfl
    · exact H2.out _ HA.out MA.out
    · exact (H2.out w1.drew (std HA.out 1) (MA.out.fr HA.out (frd (Fr.refl _ _) 1))).mono fun e w' h => Rd.lift (frd (Fr.refl _ _) 1) h)
  have HY : Hid (∀ W, StAt W b t s2 → Fr (· = b) w1 W → Calls Tryd.prog 68 #[.pointer (some ⟨b, 0, none⟩), .int .i64 60] W (Rd b t w1 (.int .i64 v3) s3)) := Lib.hid (fun W hW hF => (H3.out W hW (MA.out.fr HA.out hF)).mono fun e w' h => Rd.lift hF h)
  have hw1 : IntKind.i64.wrap (60 * v2) = 60 * v2 := IntWalk.i64_in _ (by omega)
  have hw2 : IntKind.i64.wrap (60 * v2 + v3) = 60 * v2 + v3 := IntWalk.i64_in _ (by omega)
  go_wp2_with fail
  go_region_with (first
    | (go_at_call 68; ((with_reducible refine (HX.out _ (by first | exact Or.inl rfl | exact Or.inr rfl)).mono ?_); rintro e wm ⟨rfl, hmm, fmm⟩; have Hm := Lib.hid hmm; have Fm := Lib.hid fmm; clear hmm fmm))
    | (go_at_call 68; ((with_reducible refine (HY.out _ Hm.out Fm.out).mono ?_); rintro e wn ⟨rfl, hn, fn⟩; have n9 : wn.cell? ⟨b, 9, none⟩ = some (.int .i64 s3.zone) := hn.zone; have m9 := hn.f 9; have Hn := Lib.hid hn; have Fn := Lib.hid fn; clear hn fn)))
  all_goals
    go_wp2
    exact bodyPost_end (results_none rfl _ _ _) rfl ⟨rfl, by rw [← HSS.out]; exact Hn.out.set 9 _ rfl, frt FA.out (frt Fn.out (StAt.fr _ _))⟩
theorem place_minus (b : Nat) (t g : ByteArray) (s : Stp) (w : World) (h : StAt w b t s) (hk : Ok t s) (hm : Ml w) (hg : g.size ≤ 1000) (hv : oneV t g.data.toList s = [45]) :
    Calls Tryd.prog 41 #[.pointer (some ⟨b, 0, none⟩), .string g] w (Rd b t w (.tuple #[]) (minus2 t (oneS t g.data.toList s))) := by
  have H1 := Lib.hid (one_S g h hk hg)
  rw [hv] at H1
  have k1 := oneS_ok (g := g.data.toList) hk
  have HM := Lib.hid hm
  have HH := Lib.hid h
  clear h hm hk hv
  generalize oneS t g.data.toList s = s1 at *
  obtain ⟨S', hS⟩ : ∃ S', minus2 t s1 = S' := ⟨_, rfl⟩
  rw [hS]
  unfold minus2 at hS
  have H2 := Lib.hid (fun (w : World) (h : StAt w b t s1) (hm : Ml w) => b24_S h k1 hm)
  have b2 := b24V_bd t s1
  have k2 := b24S_ok k1
  generalize b24V t s1 = v2 at *
  generalize b24S t s1 = s2 at *
  have H3 := Lib.hid (fun (w : World) (h : StAt w b t s2) (hm : Ml w) => b60_S h k2 hm)
  have b3 := b60V_bd t s2
  generalize b60V t s2 = v3 at *
  generalize b60S t s2 = s3 at *
  have HSS := Lib.hid hS
  clear hS
  go_enter Tryd.func41, Tryd.ntmps41
  go_wp2_with fail
  refine H1.out.mono ?_
  rintro e w1 ⟨rfl, h1, f1⟩
  have HA := Lib.hid h1
  have FA := Lib.hid f1
  have MA := Lib.hid (HM.out.fr HH.out f1)
  clear h1 f1
  have HX : Hid (∀ W, (W = w1 ∨ W = w1.drew) → Calls Tryd.prog 68 #[.pointer (some ⟨b, 0, none⟩), .int .i64 24] W (Rd b t w1 (.int .i64 v2) s2)) := Lib.hid (fun W hW => by
    rcases hW with rfl | rfl
    · exact H2.out _ HA.out MA.out
    · exact (H2.out w1.drew (std HA.out 1) (MA.out.fr HA.out (frd (Fr.refl _ _) 1))).mono fun e w' h => Rd.lift (frd (Fr.refl _ _) 1) h)
  have HY : Hid (∀ W, StAt W b t s2 → Fr (· = b) w1 W → Calls Tryd.prog 68 #[.pointer (some ⟨b, 0, none⟩), .int .i64 60] W (Rd b t w1 (.int .i64 v3) s3)) := Lib.hid (fun W hW hF => (H3.out W hW (MA.out.fr HA.out hF)).mono fun e w' h => Rd.lift hF h)
  have hw1 : IntKind.i64.wrap (-60 * v2) = -60 * v2 := IntWalk.i64_in _ (by omega)
  have hw2 : IntKind.i64.wrap (-60 * v2 - v3) = -60 * v2 - v3 := IntWalk.i64_in _ (by omega)
  go_wp2_with fail
  go_region_with (first
    | (go_at_call 68; ((with_reducible refine (HX.out _ (by first | exact Or.inl rfl | exact Or.inr rfl)).mono ?_); rintro e wm ⟨rfl, hmm, fmm⟩; have Hm := Lib.hid hmm; have Fm := Lib.hid fmm; clear hmm fmm))
    | (go_at_call 68; ((with_reducible refine (HY.out _ Hm.out Fm.out).mono ?_); rintro e wn ⟨rfl, hn, fn⟩; have n9 : wn.cell? ⟨b, 9, none⟩ = some (.int .i64 s3.zone) := hn.zone; have m9 := hn.f 9; have Hn := Lib.hid hn; have Fn := Lib.hid fn; clear hn fn)))
  all_goals
    go_wp2
    exact bodyPost_end (results_none rfl _ _ _) rfl ⟨rfl, by rw [← HSS.out]; exact Hn.out.set 9 _ rfl, frt FA.out (frt Fn.out (StAt.fr _ _))⟩
theorem place_gmt (b : Nat) (t g : ByteArray) (s : Stp) (w : World) (h : StAt w b t s) (hk : Ok t s) (hg : g.size ≤ 1000) (hv : oneV t g.data.toList s = [71]) :
    Calls Tryd.prog 41 #[.pointer (some ⟨b, 0, none⟩), .string g] w (Rd b t w (.tuple #[]) (oneS t [84] (oneS t [77] (oneS t g.data.toList s)))) := by
  have H1 := Lib.hid (one_S g h hk hg)
  rw [hv] at H1
  have k1 := oneS_ok (g := g.data.toList) hk
  clear h hk hv
  generalize oneS t g.data.toList s = s1 at *
  have H2 := Lib.hid (fun (w : World) (h : StAt w b t s1) => one_S ⟨#[77]⟩ h k1 (by show 1 ≤ _; omega))
  rw [show (⟨#[77]⟩ : ByteArray).data.toList = [77] from rfl] at H2
  have k2 := oneS_ok (g := [77]) k1
  generalize oneV t [77] s1 = v2 at *
  generalize oneS t [77] s1 = s2 at *
  have H3 := Lib.hid (fun (w : World) (h : StAt w b t s2) => one_S ⟨#[84]⟩ h k2 (by show 1 ≤ _; omega))
  rw [show (⟨#[84]⟩ : ByteArray).data.toList = [84] from rfl] at H3
  have k3 := oneS_ok (g := [84]) k2
  generalize oneV t [84] s2 = v3 at *
  generalize oneS t [84] s2 = s3 at *
  go_enter Tryd.func41, Tryd.ntmps41
  go_wp2_with fail
  refine H1.out.mono ?_
  rintro e w1 ⟨rfl, h1, f1⟩
  have A1 := Lib.hid h1
  have F1 := Lib.hid f1
  clear h1 f1
  go_wp2_with fail
  refine (H2.out w1 A1.out).mono ?_
  rintro e w2 ⟨rfl, h1, f1⟩
  have A2 := Lib.hid h1
  have F2 := Lib.hid (frt F1.out f1)
  clear h1 f1
  go_wp2_with fail
  refine (H3.out w2 A2.out).mono ?_
  rintro e w3 ⟨rfl, h1, f1⟩
  have A3 := Lib.hid h1
  have F3 := Lib.hid (frt F2.out f1)
  clear h1 f1
  go_wp2
  exact bodyPost_end (results_none rfl _ _ _) rfl ⟨rfl, A3.out, F3.out⟩
theorem place_ut (b : Nat) (t g : ByteArray) (s : Stp) (w : World) (h : StAt w b t s) (hk : Ok t s) (hg : g.size ≤ 1000) (hv : oneV t g.data.toList s = [85]) :
    Calls Tryd.prog 41 #[.pointer (some ⟨b, 0, none⟩), .string g] w (Rd b t w (.tuple #[]) (oneS t [84] (oneS t g.data.toList s))) := by
  have H1 := Lib.hid (one_S g h hk hg)
  rw [hv] at H1
  have k1 := oneS_ok (g := g.data.toList) hk
  clear h hk hv
  generalize oneS t g.data.toList s = s1 at *
  have H2 := Lib.hid (fun (w : World) (h : StAt w b t s1) => one_S ⟨#[84]⟩ h k1 (by show 1 ≤ _; omega))
  rw [show (⟨#[84]⟩ : ByteArray).data.toList = [84] from rfl] at H2
  have k2 := oneS_ok (g := [84]) k1
  generalize oneV t [84] s1 = v2 at *
  generalize oneS t [84] s1 = s2 at *
  go_enter Tryd.func41, Tryd.ntmps41
  go_wp2_with fail
  refine H1.out.mono ?_
  rintro e w1 ⟨rfl, h1, f1⟩
  have A1 := Lib.hid h1
  have F1 := Lib.hid f1
  clear h1 f1
  go_wp2_with fail
  refine (H2.out w1 A1.out).mono ?_
  rintro e w2 ⟨rfl, h1, f1⟩
  have A2 := Lib.hid h1
  have F2 := Lib.hid (frt F1.out f1)
  clear h1 f1
  go_wp2
  exact bodyPost_end (results_none rfl _ _ _) rfl ⟨rfl, A2.out, F2.out⟩
theorem place_none (b : Nat) (t g : ByteArray) (s : Stp) (w : World) (h : StAt w b t s) (hk : Ok t s) (hg : g.size ≤ 1000) (hv : oneV t g.data.toList s = []) :
    Calls Tryd.prog 41 #[.pointer (some ⟨b, 0, none⟩), .string g] w (Rd b t w (.tuple #[]) (oneS t g.data.toList s)) := by
  have H1 := Lib.hid (one_S g h hk hg)
  rw [hv] at H1
  have k1 := oneS_ok (g := g.data.toList) hk
  clear h hk hv
  generalize oneS t g.data.toList s = s1 at *
  go_enter Tryd.func41, Tryd.ntmps41
  go_wp2_with fail
  refine H1.out.mono ?_
  rintro e w1 ⟨rfl, h1, f1⟩
  have A1 := Lib.hid h1
  have F1 := Lib.hid f1
  clear h1 f1
  go_wp2
  exact bodyPost_end (results_none rfl _ _ _) rfl ⟨rfl, A1.out, F1.out⟩

theorem place_any (b : Nat) (t g : ByteArray) (s : Stp) (w : World) (h : StAt w b t s) (hk : Ok t s) (hm : Ml w) (hg : g.data.toList = [43, 45, 71, 85] ∨ g.data.toList = [43, 45]) :
    Calls Tryd.prog 41 #[.pointer (some ⟨b, 0, none⟩), .string g] w (Rd b t w (.tuple #[]) (placeS t g.data.toList s)) := by
  have hgs : g.size ≤ 1000 := by rw [Lib.size_eq]; rcases hg with e | e <;> rw [e] <;> decide
  have hs := sign_of t g.data.toList s hg
  unfold placeS
  rcases hs with e | e | e | e | e
  · simp only [e]; exact place_plus b t g s w h hk hm hgs e
  · simp only [e]; exact place_minus b t g s w h hk hm hgs e
  · simp only [e]; exact place_gmt b t g s w h hk hgs e
  · simp only [e]; exact place_ut b t g s w h hk hgs e
  · simp only [e]; exact place_none b t g s w h hk hgs e
end Go.Proofs.YtkkmjadkagpihaaDoor
