/- Date: the stamp's second, hourMinute, monthYear. -/
import Derived.Test.YtkkmjadkagpihaaDoorJ18
namespace Go.Proofs.YtkkmjadkagpihaaDoor
open Go Go.RowKit

def oneV (t : ByteArray) (g : List UInt8) (s : Stp) : List UInt8 := (oneR t g s.at_ s.stop).1
def oneS (t : ByteArray) (g : List UInt8) (s : Stp) : Stp := s.up (oneR t g s.at_ s.stop).2.1 (oneR t g s.at_ s.stop).2.2
def numV (t : ByteArray) (k : Nat) (s : Stp) : Int := (numR t k 0 s.at_ s.stop).1
def numS (t : ByteArray) (k : Nat) (s : Stp) : Stp := s.up (numR t k 0 s.at_ s.stop).2.1 (numR t k 0 s.at_ s.stop).2.2
def b24V (t : ByteArray) (s : Stp) : Int := (b24R t s.at_ s.stop).1
def b24S (t : ByteArray) (s : Stp) : Stp := s.up (b24R t s.at_ s.stop).2.1 (b24R t s.at_ s.stop).2.2
def b60V (t : ByteArray) (s : Stp) : Int := (b60R t s.at_ s.stop).1
def b60S (t : ByteArray) (s : Stp) : Stp := s.up (b60R t s.at_ s.stop).2.1 (b60R t s.at_ s.stop).2.2
def wordV (t : ByteArray) (n : Nat) (l : List UInt8) (s : Stp) : Int := (Lib.index l (wordR t n l 3 [] s.at_ s.stop).1).tdiv 3
def wordS (t : ByteArray) (n : Nat) (l : List UInt8) (s : Stp) : Stp := s.up (wordR t n l 3 [] s.at_ s.stop).2.1 (wordR t n l 3 [] s.at_ s.stop).2.2

/-- Where a stamp stands within its text; its text's length. -/
def Ok (t : ByteArray) (s : Stp) : Prop := s.at_ ≤ t.size ∧ t.size ≤ 9223372036854775807
theorem oneS_ok {t : ByteArray} {g : List UInt8} {s : Stp} (h : Ok t s) : Ok t (oneS t g s) := ⟨oneR_le t g s.at_ s.stop h.1, h.2⟩
theorem numS_ok {t : ByteArray} {k : Nat} {s : Stp} (h : Ok t s) : Ok t (numS t k s) := ⟨numR_le t k 0 s.at_ s.stop h.1, h.2⟩
theorem b24S_ok {t : ByteArray} {s : Stp} (h : Ok t s) : Ok t (b24S t s) := ⟨digR_le t _ _ _ (digR_le t _ _ _ h.1), h.2⟩
theorem b60S_ok {t : ByteArray} {s : Stp} (h : Ok t s) : Ok t (b60S t s) := ⟨digR_le t _ _ _ (digR_le t _ _ _ h.1), h.2⟩
theorem wordR_le (t : ByteArray) (n : Nat) (l : List UInt8) : ∀ k beg p st, p ≤ t.size → (wordR t n l k beg p st).2.1 ≤ t.size
  | 0, _, _, _, h => h
  | k + 1, _, p, st, h => wordR_le t n l k _ _ _ (oneR_le t _ p st h)
theorem wordS_ok {t : ByteArray} {n : Nat} {l : List UInt8} {s : Stp} (h : Ok t s) : Ok t (wordS t n l s) := ⟨wordR_le t n l 3 [] s.at_ s.stop h.1, h.2⟩
theorem numV_bd (t : ByteArray) (s : Stp) : 0 ≤ numV t 1 s ∧ numV t 1 s ≤ 9 := num1_bd t s.at_ s.stop
theorem b24V_bd (t : ByteArray) (s : Stp) : 0 ≤ b24V t s ∧ b24V t s ≤ 99 := by
  unfold b24V b24R
  have h1 := digR_bd t 3 s.at_ s.stop (by omega)
  generalize digR t (figL.take 3) s.at_ s.stop = d at *
  simp only
  split
  · have h2 := digR_bd t 4 d.2.1 d.2.2 (by omega); omega
  · have h2 := digR_bd t 10 d.2.1 d.2.2 (by omega); rw [fig_take] at h2; omega
theorem b60V_bd (t : ByteArray) (s : Stp) : 0 ≤ b60V t s ∧ b60V t s ≤ 99 := by
  unfold b60V b60R
  have h1 := digR_bd t 6 s.at_ s.stop (by omega)
  generalize digR t (figL.take 6) s.at_ s.stop = d at *
  simp only
  split
  · have h2 := digR_bd t 0 d.2.1 d.2.2 (by omega); omega
  · have h2 := digR_bd t 10 d.2.1 d.2.2 (by omega); rw [fig_take] at h2; omega
theorem wordV_bd (t : ByteArray) (n : Nat) (l : List UInt8) (hl : l.length ≤ 300) (s : Stp) : -1 ≤ wordV t n l s ∧ wordV t n l s ≤ 300 := by
  unfold wordV
  generalize (wordR t n l 3 [] s.at_ s.stop).1 = X
  have h1 := Lib.index_ge l X
  have h2 := Lib.index_le l X
  have ht := @Int.tdiv_eq_ediv (Lib.index l X) 3
  rw [ht]
  split
  · omega
  · rw [show Int.sign 3 = 1 by decide]; omega

section
variable {b : Nat} {t : ByteArray} {s : Stp} {w : World}
theorem one_S (g : ByteArray) (h : StAt w b t s) (hk : Ok t s) (hg : g.size ≤ 1000) : Calls Tryd.prog 36 #[.pointer (some ⟨b, 0, none⟩), .string g] w (Rd b t w (.string ⟨(oneV t g.data.toList s).toArray⟩) (oneS t g.data.toList s)) := one_any b t g s w h hk.1 hk.2 hg _ rfl
theorem num_S (k : Nat) (h : StAt w b t s) (hk : Ok t s) (hm : Ml w) (h4 : k ≤ 4) : Calls Tryd.prog 53 #[.pointer (some ⟨b, 0, none⟩), .int .i64 (k : Int)] w (Rd b t w (.int .i64 (numV t k s)) (numS t k s)) := number_any b t s w h hk.1 hk.2 hm k h4 _ rfl
theorem b24_S (h : StAt w b t s) (hk : Ok t s) (hm : Ml w) : Calls Tryd.prog 68 #[.pointer (some ⟨b, 0, none⟩), .int .i64 24] w (Rd b t w (.int .i64 (b24V t s)) (b24S t s)) := below24_any b t s w h hk.1 hk.2 hm _ rfl
theorem b60_S (h : StAt w b t s) (hk : Ok t s) (hm : Ml w) : Calls Tryd.prog 68 #[.pointer (some ⟨b, 0, none⟩), .int .i64 60] w (Rd b t w (.int .i64 (b60V t s)) (b60S t s)) := below60_any b t s w h hk.1 hk.2 hm _ rfl
theorem word_S (l : ByteArray) (n : Nat) (h : StAt w b t s) (hk : Ok t s) (hm : Ml w) (hl : l.size = 3 * n) (hn : n ≤ 100) : Calls Tryd.prog 35 #[.pointer (some ⟨b, 0, none⟩), .string l] w (Rd b t w (.int .i64 (wordV t n l.data.toList s)) (wordS t n l.data.toList s)) := word_any b t l n s w h hk.1 hk.2 hm hl hn _ rfl _ rfl
theorem is_S (g : ByteArray) (q : Bool) (h : StAt w b t s) (hk : Ok t s) (hq : isR t g.data.toList s.at_ = q) : Calls Tryd.prog 34 #[.pointer (some ⟨b, 0, none⟩), .string g] w (Rd b t w (.bool q) s) := is_any b t g s w h q hq hk.2
end

def secondS (t : ByteArray) (s : Stp) : Stp := { b60S t (oneS t [58] s) with clock := s.clock + b60V t (oneS t [58] s) }
theorem second_any (b : Nat) (t : ByteArray) (s : Stp) (w : World) (h : StAt w b t s) (hk : Ok t s) (hm : Ml w) (hc0 : 0 ≤ s.clock) (hc1 : s.clock ≤ 1000000) :
    Calls Tryd.prog 40 #[.pointer (some ⟨b, 0, none⟩)] w (Rd b t w (.tuple #[]) (secondS t s)) := by
  have HO := Lib.hid (one_S ⟨#[58]⟩ h hk (by show 1 ≤ _; omega))
  rw [show (⟨#[58]⟩ : ByteArray).data.toList = [58] from rfl] at HO
  have hk1 := oneS_ok (g := [58]) hk
  obtain ⟨S', hS⟩ : ∃ S', secondS t s = S' := ⟨_, rfl⟩
  rw [hS]
  unfold secondS at hS
  have hcl : (oneS t [58] s).clock = s.clock := rfl
  rw [← hcl] at hS hc0 hc1
  have HM := Lib.hid hm
  have HH := Lib.hid h
  clear h hm hk hcl
  generalize oneV t [58] s = v1 at *
  generalize oneS t [58] s = s1 at *
  have hbd := b60V_bd t s1
  have HC := Lib.hid (fun (w : World) (h : StAt w b t s1) (hm : Ml w) => b60_S h hk1 hm)
  generalize b60V t s1 = v2 at *
  have hclk : (b60S t s1).clock = s1.clock := rfl
  have HCK := Lib.hid hclk
  clear hclk
  generalize b60S t s1 = s2 at *
  generalize hck : s1.clock = ck at *
  have HSS := Lib.hid hS
  have HK := Lib.hid hck
  clear hS hck
  go_enter Tryd.func40, Tryd.ntmps40
  go_wp2_with fail
  refine HO.out.mono ?_
  rintro e w1 ⟨rfl, h1, f1⟩
  have c8 : w1.cell? ⟨b, 8, none⟩ = some (.int .i64 ck) := by rw [← HK.out]; exact h1.clock
  have m1 := HM.out.fr HH.out f1
  have HX : Hid (∀ W, (W = w1 ∨ W = w1.drew) → Calls Tryd.prog 68 #[.pointer (some ⟨b, 0, none⟩), .int .i64 60] W (Rd b t w1 (.int .i64 v2) s2)) := Lib.hid (fun W hW => by
    rcases hW with rfl | rfl
    · exact HC.out _ h1 m1
    · exact (HC.out w1.drew (std h1 1) (m1.fr h1 (frd (Fr.refl _ _) 1))).mono fun e w' h => Rd.lift (frd (Fr.refl _ _) 1) h)
  have F1 := Lib.hid f1
  have hw1 : IntKind.i64.wrap (ck + v2) = ck + v2 := IntWalk.i64_in _ (by omega)
  clear h1 f1 m1
  go_wp2_with fail
  go_region_with (go_at_call 68; ((with_reducible refine (HX.out _ (by first | exact Or.inl rfl | exact Or.inr rfl)).mono ?_); rintro e wn ⟨rfl, hn, fn⟩; have n8 : wn.cell? ⟨b, 8, none⟩ = some (.int .i64 ck) := (by rw [← HCK.out]; exact hn.clock); have m8 := hn.f 8; have Hn := Lib.hid hn; have Fn := Lib.hid fn; clear hn fn))
  all_goals
    exact bodyPost_end (results_none rfl _ _ _) rfl ⟨rfl, by rw [← HSS.out]; exact Hn.out.set 8 _ rfl, frt F1.out (frt Fn.out (StAt.fr _ _))⟩
end Go.Proofs.YtkkmjadkagpihaaDoor
