/- Date: one letter is taken. -/
import Derived.Test.YtkkmjadkagpihaaDoorJ14
import Derived.Lib.IndexLaws
namespace Go.Proofs.YtkkmjadkagpihaaDoor
open Go Go.RowKit

theorem data_mk (l : List UInt8) : (⟨l.toArray⟩ : ByteArray).data.toList = l := by simp

theorem one_go (b : Nat) (t these : ByteArray) (s : Stp) (w : World) (h : StAt w b t s) (hp : s.at_ < t.size) (hst : s.stop = 0) (hs : t.size ≤ 9223372036854775807) (hth : these.size ≤ 1000) :
    Calls Tryd.prog 36 #[.pointer (some ⟨b, 0, none⟩), .string these] w
      (Rd b t w (.string ⟨(oneR t these.data.toList s.at_ 0).1.toArray⟩) { s with at_ := (oneR t these.data.toList s.at_ 0).2.1, stop := (oneR t these.data.toList s.at_ 0).2.2 }) := by
  unfold oneR
  rw [if_pos hp, if_pos rfl]
  have hlow := low_one t s.at_ hp
  generalize hcc : t.get! s.at_ = cc at *
  obtain ⟨x, hx⟩ : ∃ x, Lib.indexByte (low these.data.toList) (lowB cc) = x := ⟨_, rfl⟩
  rw [hx]
  obtain ⟨R, hR⟩ : ∃ R, (if 0 ≤ x then ((these.data.toList.drop x.toNat).take 1, s.at_ + 1, (0 : Int)) else ([], s.at_, 4)) = R := ⟨_, rfl⟩
  rw [hR]
  have hxg := Lib.indexByte_ge (low these.data.toList) (lowB cc)
  rw [hx] at hxg
  have hxl : x < (these.size : Int) := by
    by_cases e : 0 ≤ x
    · obtain ⟨k, rfl⟩ : ∃ k : Nat, x = k := ⟨x.toNat, by omega⟩
      have := (Lib.indexByte_some hx).1
      have hk := (List.getElem?_eq_some_iff.1 this).1
      rw [low_length, ← Lib.size_eq] at hk
      omega
    · omega
  have c0 := h.c 0
  have c1 := h.c 1
  have c2 := h.c 2
  rw [show (cellsS t s)[0]? = some (.string t) from rfl] at c0
  rw [show (cellsS t s)[1]? = some (.int .i64 (s.at_ : Int)) from rfl] at c1
  rw [show (cellsS t s)[2]? = some (.int .i64 s.stop) from rfl, hst] at c2
  have H := Lib.hid h
  have HL := Lib.hid (fun (W : World) => lower these W)
  have HT := Lib.hid (fun (W : World) => lower (t.extract s.at_ (s.at_ + 1)) W)
  rw [hlow] at HT
  have HI := Lib.hid (fun (W : World) => Tryd.strings_Index_one ⟨(low these.data.toList).toArray⟩ (lowB cc) W)
  rw [data_mk, hx] at HI
  generalize (low these.data.toList).toArray = LT at *
  generalize lowB cc = lc at *
  have hlt := h.lt
  clear h hlow hcc hx
  have hne : ((s.at_ : Int) == (t.size : Int)) = false := by simp; omega
  have hne2 : (s.at_ == t.size) = false := by simp; omega
  have HS := Lib.hid hst
  clear hst
  generalize hpp : s.at_ = p at *
  have HP := Lib.hid hpp
  have HR := Lib.hid hR
  clear hpp hR
  have hwr : IntKind.i64.wrap ((p : Int) + 1) = (p : Int) + 1 := IntWalk.i64_in _ (by omega)
  have hpb : (p : Int) + 1 ≤ (t.size : Int) := by omega
  have hp0 : (p : Int) ≤ (p : Int) + 1 := by omega
  go_enter Tryd.func36, Tryd.ntmps36
  go_wp2
  go_quiet (fail)
  have H0 := Lib.hid (std H.out nq)
  have F0 := Lib.hid (frd (b := b) (Fr.refl _ w) nq)
  generalize hW0 : w.drewN nq = W0 at *
  clear hW0 c0 c1 c2
  have KC : ∀ wx, Below W0.heap.size W0 wx → wx.cell? ⟨b, 0, none⟩ = some (.string t) ∧ wx.cell? ⟨b, 1, none⟩ = some (.int .i64 (p : Int)) ∧ wx.cell? ⟨b, 2, none⟩ = some (.int .i64 0) := fun wx hb => by
    have hh := H0.out.below hb
    have c0 := hh.c 0
    have c1 := hh.c 1
    have c2 := hh.c 2
    rw [show (cellsS t s)[0]? = some (.string t) from rfl] at c0
    rw [show (cellsS t s)[1]? = some (.int .i64 (s.at_ : Int)) from rfl, HP.out] at c1
    rw [show (cellsS t s)[2]? = some (.int .i64 s.stop) from rfl, HS.out] at c2
    exact ⟨c0, c1, c2⟩
  have cL : ∀ W, Below W0.heap.size W0 W → Calls Tryd.prog 67 #[.string these] W fun e w' => e = .returned (.string ⟨LT⟩) ∧ Below W0.heap.size W0 w' := fun W hb => (HL.out W).mono fun e w' ⟨a, c⟩ => ⟨a, hb.trans (c.mono hb.size)⟩
  have cT : ∀ W, Below W0.heap.size W0 W → Calls Tryd.prog 67 #[.string (t.extract p (p + 1))] W fun e w' => e = .returned (.string ⟨#[lc]⟩) ∧ Below W0.heap.size W0 w' := fun W hb => (HT.out W).mono fun e w' ⟨a, c⟩ => ⟨a, hb.trans (c.mono hb.size)⟩
  have cI : ∀ W, Below W0.heap.size W0 W → Calls Tryd.prog 66 #[.string ⟨LT⟩, .string ⟨#[lc]⟩] W fun e w' => e = .returned (.int .i64 x) ∧ Below W0.heap.size W0 w' := fun W hb => (HI.out W).mono fun e w' ⟨a, c⟩ => ⟨a, by rw [c]; exact hb⟩
  have hB := Below.refl W0.heap.size W0
  have hBd := hB.drew
  obtain ⟨k0, k1, k2⟩ := KC W0 hB
  go_wp2_with fail
  clear k0 k1 k2
  go_region_held3 (fun wx => Below W0.heap.size W0 wx ∧ wx.cell? ⟨b, 0, none⟩ = some (.string t) ∧ wx.cell? ⟨b, 1, none⟩ = some (.int .i64 (p : Int)) ∧ wx.cell? ⟨b, 2, none⟩ = some (.int .i64 0)) (first | exact ⟨by assumption, KC _ (by assumption)⟩) (first
      | (go_at_call 67; ((with_reducible refine (cL _ (by assumption)).mono ?_); rintro e wn ⟨rfl, hBn⟩))
      | (go_at_call 67; ((with_reducible refine (cT _ (by assumption)).mono ?_); rintro e wn ⟨rfl, hBn⟩))
      | (go_at_call 66; ((with_reducible refine (cI _ (by assumption)).mono ?_); rintro e wn ⟨rfl, hBn⟩)))
  all_goals
    have H1 := Lib.hid (H0.out.below hBn)
    have F1 := Lib.hid (frt F0.out (Fr.of_below _ hBn))
    obtain ⟨k0, k1, k2⟩ := KC _ hBn
    clear KC hB hBd cL cT cI
    by_cases hx0 : 0 ≤ x
    · obtain ⟨k, rfl⟩ : ∃ k : Nat, x = k := ⟨x.toNat, by omega⟩
      have hR := HR.out
      rw [if_pos hx0] at hR
      subst hR
      clear HR
      have f1 := H1.out.f 1
      have HZ := Lib.hid (H1.out.set 1 (.int .i64 ((p + 1 : Nat) : Int)) (s' := { s with at_ := p + 1, stop := 0 }) (by simp [cellsS, HS.out]))
      have FZ := Lib.hid (frt F1.out (StAt.fr 1 (.int .i64 ((p + 1 : Nat) : Int))))
      have he : (these.extract k (k + 1)).data.toList = (these.data.toList.drop k).take 1 := by rw [Lib.extract_data, show k + 1 - k = 1 by omega]
      have HE := Lib.hid he
      clear he hx0
      simp only [Int.natCast_add, Int.natCast_one] at HZ FZ
      go_wp2
      go_ret
      refine Rd.mk' ?_ HZ.out FZ.out
      rw [← str_ext HE.out]
      rfl
    · have hR := HR.out
      rw [if_neg hx0] at hR
      subst hR
      clear HR
      have f2 := H1.out.f 2
      have HZ := Lib.hid (H1.out.set 2 (.int .i64 4) (s' := { s with at_ := p, stop := 4 }) (by rw [← HP.out]; rfl))
      have FZ := Lib.hid (frt F1.out (StAt.fr 2 (.int .i64 4)))
      have hx1 : x < 0 := by omega
      clear hx0
      go_wp2
      go_ret
      exact Rd.mk' rfl HZ.out FZ.out
end Go.Proofs.YtkkmjadkagpihaaDoor
