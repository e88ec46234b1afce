/- Frame: Scan, by the code. -/
import Derived.Test.YtjlhcgimijcghaaF13
import Derived.Test.YtjlhcgimijcghaaF16
namespace Go.Proofs.Ytjlhcgimijcghaa
open Go Go.RowKit

set_option maxHeartbeats 2000000 in
theorem scan_any (v : Value) (l : List UInt8) (w : World) (hv : Byt w v l) (hl : l.length ≤ 1000000000) :
    Calls Try.prog 16 #[v] w fun e w' => ∃ v', e = .returned (.tuple #[v', .int .i64 ((scanN l).2 : Int)]) ∧ Held w.heap.size w' v' (scanN l).1 ∧ Below w.heap.size w w' := by
  have hlt := hv.lt
  obtain ⟨a, c, rfl, hcap⟩ := hv.shape
  have HV := Lib.hid hv
  have hS : scanF (l.length + 1) l 0 = scanN l := rfl
  generalize scanN l = S at *
  have HS := Lib.hid hS
  clear hv hS
  go_enter Try.func16, Try.ntmps16
  go_wp2
  go_loopw [4, 5, 6, 7, 8] (fun hv iv _ _ _ wr => ∃ (k f : Nat) (done : List (List UInt8)), iv = .int .i64 (k : Int) ∧ k ≤ l.length ∧ done.length ≤ k ∧ l.length + 1 ≤ f + k ∧ done ++ (scanF f l k).1 = S.1 ∧ (scanF f l k).2 = S.2 ∧ Held w.heap.size wr hv done ∧ Below w.heap.size w wr) (fun _ iv _ _ _ _ => l.length - (intOf iv).toNat)
  case atStart => exact ⟨0, l.length + 1, [], rfl, Nat.zero_le _, Nat.le_refl _, by omega, by rw [HS.out]; rfl, by rw [HS.out], Held.nil _ _, Below.refl _ _⟩
  case round =>
    obtain ⟨k, f, done, rfl, hk, hdk, hf, hs1, hs2, hH, hB⟩ := hrel
    obtain ⟨f, rfl⟩ : ∃ f', f = f' + 1 := ⟨f - 1, by omega⟩
    have cone := one_any _ l k _ (HV.out.below hB) (by omega)
    have hok := oneP_ok l k
    have hno := fun h => scanF_no (f := f) (l := l) (k := k) h
    have hyes := fun k' h1 h2 => scanF_ok (f := f) (l := l) (k := k) (k' := k') h1 h2
    generalize oneP l k = O at *
    obtain ⟨O1, O2, O3⟩ := O
    simp only at cone hok hno hyes
    obtain ⟨ah, ch, rfl, hcaph⟩ := hH.shape
    have HC := Lib.hid cone
    have HB := Lib.hid hB
    have HH := Lib.hid hH
    by_cases h0 : O3 = 0
    · obtain ⟨k', hk1, hk2, hk3, hk4⟩ := hok h0
      rw [hyes k' h0 hk1] at hs1 hs2
      simp only at hs1 hs2
      subst h0 hk1
      have H1 := Lib.hid hs1
      have H2 := Lib.hid hs2
      clear cone hok hno hyes hB hH hs1 hs2
      go_wp2_with fail
      refine HC.out.mono ?_
      rintro e w1 ⟨v1, rfl, R1, b1⟩
      have hH1 := HH.out.below b1
      have hown := R1.own
      have hltH := HH.out.lt
      obtain ⟨a1, c1, rfl, hcap1⟩ := R1.1.shape
      have hb1 := HB.out.trans (b1.mono HB.out.size)
      obtain ⟨v2, w2, r2, hH2, b2, g2⟩ := held_push w1 hH1 hb1.size a1 c1 O1 R1.1 (fun g hg e => by have := hown g hg; have := hltH g e; omega) (by omega)
      have hb2 := hb1.trans (b2.mono hb1.size)
      have hb3 := hb2.grown g2 hb2.size (fun g hg => hH1.own g hg)
      have K2 := Lib.hid r2
      have HH2 := Lib.hid hH2
      have HB3 := Lib.hid hb3
      obtain ⟨a2, c2, rfl, hcap2⟩ := hH2.shape
      have hdl : (done ++ [O1]).length = done.length + 1 := by simp
      generalize hdg : (done ++ [O1]).length = dl at hcap2 K2 HH2 hdl
      subst hdl
      have HDG := Lib.hid hdg
      clear hdg
      clear r2 hH2 hb3 hb2 b2 g2 hH1 R1 b1 hown hltH hb1 HC HH HB
      go_wp2_with (at_builtin; refine wpList_append_run _ rfl _ _ 33 33 rfl _ _ rfl rfl _ w2 K2.out ?_)
      go_roundw
      case rel => exact ⟨k', f, done ++ [O1], rfl, hk3, by rw [HDG.out]; omega, by omega, by rw [List.append_assoc]; exact H1.out, H2.out, HH2.out, HB3.out⟩
      case measure => simp [intOf]; omega
    · rw [hno h0] at hs1 hs2
      simp only [List.append_nil] at hs1 hs2
      have hb0 : ((O3 : Int) != 0) = true := by rw [bne_iff_ne]; exact h0
      have H1 := Lib.hid hs1
      have H2 := Lib.hid hs2
      clear cone hok hno hyes hB hH hs1 hs2
      go_wp2_with fail
      refine HC.out.mono ?_
      rintro e w1 ⟨v1, rfl, R1, b1⟩
      obtain ⟨a1, c1, rfl, hcap1⟩ := R1.1.shape
      have HB2 := Lib.hid (HB.out.trans (b1.mono HB.out.size))
      have HH2 := Lib.hid (HH.out.below b1)
      clear R1 b1 HC HH HB
      go_wp2
      go_ret2
      refine ⟨.slice ah done.length ch, ?_, ?_, HB2.out⟩
      · rw [← H2.out]; rfl
      · rw [← H1.out]; exact HH2.out
end Go.Proofs.Ytjlhcgimijcghaa
