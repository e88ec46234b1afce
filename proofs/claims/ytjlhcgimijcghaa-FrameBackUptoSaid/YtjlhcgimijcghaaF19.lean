/- Frame: Scan by the reference; the walks of FrameScans and FrameBack. -/
import Derived.Test.YtjlhcgimijcghaaF18
namespace Go.Proofs.Ytjlhcgimijcghaa
open Go Go.RowKit

theorem held_empty (w : World) : Held w.heap.size (w.alloc (.cells #[] 22)) (.slice (some ⟨w.heap.size, 0, none⟩) 0 0) [] := by
  refine ⟨[], rfl, ⟨⟨some ⟨w.heap.size, 0, none⟩, 0, rfl, Nat.le_refl _, (fun h => by cases h), fun ad had => ?_⟩, fun ad n c hv => ?_⟩, (fun _ h => by cases h), fun _ _ _ h => by simp at h⟩
  · injection had with had
    subst had
    exact ⟨w.heap.size, 0, rfl, by simp, fun j hj => by simp at hj⟩
  · injection hv with e1 e2 e3
    injection e1 with e1
    subst e1 e3
    exact ⟨Nat.le_refl _, by decide, fun j hj => by omega⟩

set_option maxHeartbeats 2000000 in
theorem rscan_any (v : Value) (l : List UInt8) (w : World) (hv : Byt w v l) (hl : l.length ≤ 1000000000) :
    Calls Try.prog 17 #[v] w fun e w' => ∃ v', e = .returned (.tuple #[v', .int .i64 ((scanN l).2 : Int)]) ∧ Held w.heap.size w' v' (scanN l).1 ∧ Below w.heap.size w w' := by
  have hlt := hv.lt
  obtain ⟨a, c, rfl, hcap⟩ := hv.shape
  have HV := Lib.hid hv
  have hS : scanF (l.length + 1) l 0 = scanN l := rfl
  generalize scanN l = S at *
  have HS := Lib.hid hS
  clear hv hS
  go_enter Try.func17, Try.ntmps17
  go_wp2
  go_loopw [4, 5, 6, 7, 8] (fun hv iv _ _ _ wr => ∃ (k f : Nat) (done : List (List UInt8)), iv = .int .i64 (k : Int) ∧ k ≤ l.length ∧ done.length ≤ k ∧ l.length + 1 ≤ f + k ∧ done ++ (scanF f l k).1 = S.1 ∧ (scanF f l k).2 = S.2 ∧ Held w.heap.size wr hv done ∧ Below w.heap.size w wr) (fun _ iv _ _ _ _ => l.length - (intOf iv).toNat)
  case atStart => exact ⟨0, l.length + 1, [], rfl, Nat.zero_le _, Nat.le_refl _, by omega, by rw [HS.out]; rfl, by rw [HS.out], held_empty w, (Below.refl _ w).alloc (Nat.le_refl _) _⟩
  case round =>
    obtain ⟨k, f, done, rfl, hk, hdk, hf, hs1, hs2, hH, hB⟩ := hrel
    obtain ⟨f, rfl⟩ : ∃ f', f = f' + 1 := ⟨f - 1, by omega⟩
    have cone := rone_any _ l k _ (HV.out.below hB) (by omega)
    have hok := oneP_ok l k
    have hno := fun h => scanF_no (f := f) (l := l) (k := k) h
    have hyes := fun k' h1 h2 => scanF_ok (f := f) (l := l) (k := k) (k' := k') h1 h2
    generalize oneP l k = O at *
    obtain ⟨O1, O2, O3⟩ := O
    simp only at cone hok hno hyes
    obtain ⟨ah, ch, rfl, hcaph⟩ := hH.shape
    have HC := Lib.hid cone
    have HB := Lib.hid hB
    have HH := Lib.hid hH
    by_cases h0 : O3 = 0
    · obtain ⟨k', hk1, hk2, hk3, hk4⟩ := hok h0
      rw [hyes k' h0 hk1] at hs1 hs2
      simp only at hs1 hs2
      subst h0 hk1
      have H1 := Lib.hid hs1
      have H2 := Lib.hid hs2
      clear cone hok hno hyes hB hH hs1 hs2
      go_wp2_with fail
      refine HC.out.mono ?_
      rintro e w1 ⟨v1, rfl, R1, b1⟩
      have hH1 := HH.out.below b1
      have hown := R1.own
      have hltH := HH.out.lt
      obtain ⟨a1, c1, rfl, hcap1⟩ := R1.1.shape
      have hb1 := HB.out.trans (b1.mono HB.out.size)
      obtain ⟨v2, w2, r2, hH2, b2, g2⟩ := held_push w1 hH1 hb1.size a1 c1 O1 R1.1 (fun g hg e => by have := hown g hg; have := hltH g e; omega) (by omega)
      have hb2 := hb1.trans (b2.mono hb1.size)
      have hb3 := hb2.grown g2 hb2.size (fun g hg => hH1.own g hg)
      have K2 := Lib.hid r2
      have HH2 := Lib.hid hH2
      have HB3 := Lib.hid hb3
      obtain ⟨a2, c2, rfl, hcap2⟩ := hH2.shape
      have hdl : (done ++ [O1]).length = done.length + 1 := by simp
      generalize hdg : (done ++ [O1]).length = dl at hcap2 K2 HH2 hdl
      subst hdl
      have HDG := Lib.hid hdg
      clear hdg
      clear r2 hH2 hb3 hb2 b2 g2 hH1 R1 b1 hown hltH hb1 HC HH HB
      go_wp2_with (at_builtin; refine wpList_append_run _ rfl _ _ 33 33 rfl _ _ rfl rfl _ w2 K2.out ?_)
      go_roundw
      case rel => exact ⟨k', f, done ++ [O1], rfl, hk3, by rw [HDG.out]; omega, by omega, by rw [List.append_assoc]; exact H1.out, H2.out, HH2.out, HB3.out⟩
      case measure => simp [intOf]; omega
    · rw [hno h0] at hs1 hs2
      simp only [List.append_nil] at hs1 hs2
      have hb0 : ((O3 : Int) != 0) = true := by rw [bne_iff_ne]; exact h0
      have H1 := Lib.hid hs1
      have H2 := Lib.hid hs2
      clear cone hok hno hyes hB hH hs1 hs2
      go_wp2_with fail
      refine HC.out.mono ?_
      rintro e w1 ⟨v1, rfl, R1, b1⟩
      obtain ⟨a1, c1, rfl, hcap1⟩ := R1.1.shape
      have HB2 := Lib.hid (HB.out.trans (b1.mono HB.out.size))
      have HH2 := Lib.hid (HH.out.below b1)
      clear R1 b1 HC HH HB
      go_wp2
      go_ret2
      refine ⟨.slice ah done.length ch, ?_, ?_, HB2.out⟩
      · rw [← H2.out]; rfl
      · rw [← H1.out]; exact HH2.out

theorem scanF_len (l : List UInt8) : ∀ (f k : Nat), k ≤ l.length → (scanF f l k).1.length + k ≤ l.length
  | 0, k, h => by simpa [scanF] using h
  | f + 1, k, h => by
    by_cases h0 : (oneP l k).2.2 = 0
    · obtain ⟨k', hk1, hk2, hk3, _⟩ := oneP_ok l k h0
      rw [scanF_ok h0 hk1]
      have := scanF_len l f k' hk3
      simp only [List.length_cons]
      omega
    · rw [scanF_no h0]; simpa using h
theorem scanN_len (l : List UInt8) : (scanN l).1.length ≤ l.length := scanF_len l _ 0 (Nat.zero_le _)

set_option maxHeartbeats 1000000 in
theorem walk_scans (v : Value) (l : List UInt8) (w : World) (hv : Byt w v l) (hl : l.length ≤ 1000000000) :
    Calls Try.prog 6 #[v] w fun e w' => e = .returned (.bool true) ∧ Below w.heap.size w w' := by
  have HV := Lib.hid hv
  have hp := scan_any v l w hv hl
  obtain ⟨a, c, rfl, hcap⟩ := hv.shape
  have hr := fun W hb => rscan_any (.slice a l.length c) l W (HV.out.below hb) hl
  have hsl : (scanN l).1.length ≤ 1000000000 := Nat.le_trans (scanN_len l) hl
  generalize scanN l = O at *
  obtain ⟨O1, O2⟩ := O
  have HP := Lib.hid hp
  have HR := Lib.hid hr
  clear hv hp hr
  go_enter Try.func6, Try.ntmps6
  go_wp2_with fail
  refine HP.out.mono ?_
  rintro e w1 ⟨v1, rfl, R1, b1⟩
  have HB1 := Lib.hid b1
  have HR1 := Lib.hid R1
  obtain ⟨a1, c1, rfl, hcap1⟩ := R1.shape
  clear b1 R1 HP
  go_wp2_with fail
  refine (HR.out _ HB1.out).mono ?_
  rintro e w2 ⟨v2, rfl, R2, b2⟩
  have hb2 := HB1.out.trans (b2.mono HB1.out.size)
  have HB2 := Lib.hid hb2
  have HR2 := Lib.hid R2
  have HV1 := Lib.hid (HR1.out.below b2)
  obtain ⟨a2, c2, rfl, hcap2⟩ := R2.shape
  clear hb2 b2 R2 HR HR1 HB1
  go_wp2_with fail
  refine (live_any w2).mono ?_
  rintro e w3 ⟨rfl, b3⟩
  have HB3 := Lib.hid (HB2.out.trans (b3.mono HB2.out.size))
  have hsm := same_any _ _ O1 w3 (HV1.out.below b3).rds (HR2.out.below b3).rds hsl
  have HSM := Lib.hid hsm
  clear b3 HB2 HR2 HV1 hsm
  go_wp2_with fail
  refine HSM.out.mono ?_
  rintro e w4 ⟨rfl, b4⟩
  have HB4 := Lib.hid (HB3.out.trans (b4.mono HB3.out.size))
  clear b4
  go_wp2
  go_ret
  exact ⟨rfl, HB4.out⟩
end Go.Proofs.Ytjlhcgimijcghaa
