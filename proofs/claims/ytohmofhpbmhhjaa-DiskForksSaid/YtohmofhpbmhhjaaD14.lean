/- Disk: live. -/
import Derived.Test.YtohmofhpbmhhjaaD13
import Derived.Lib.SlBytesConst
namespace Go.Proofs.Ytohmofhpbmhhjaa
open Go Go.RowKit

theorem live_facts : ∃ s1 s2 s3 s4 : St, (St.new 2).wrote 0 [97] = (s1, 0) ∧ s1.waits.length = 1 ∧ s1.flushed = (s2, 0) ∧ s2.waits.length = 0 ∧ s2.wrote 0 [98] = (s3, 0) ∧ s3.age = 0 ∧ s3.crashed [] (-1) 0 = s4 ∧ s4.down = false ∧ s4.sure.length = 2 ∧ s4.age = 1 ∧ ∃ r, s4.reads 0 = 97 :: r ∧ r.length = 63 :=
  ⟨_, _, _, _, rfl, rfl, rfl, rfl, rfl, rfl, rfl, rfl, rfl, rfl, _, rfl, rfl⟩
theorem lit_byt (w : World) (b : UInt8) (fr : Nat × Nat) : Byt (w.alloc (.cells #[.int .u8 (b.toNat : Int)] 5 fr)) (.slice (some ⟨w.heap.size, 0, none⟩) 1 1) [b] := by
  refine ⟨some ⟨w.heap.size, 0, none⟩, 1, rfl, Nat.le_refl _, (fun h => by cases h), fun ad had => ?_⟩
  injection had with had
  subst had
  refine ⟨w.heap.size, 0, rfl, by simp, fun j hj => ?_⟩
  rw [Nat.zero_add, cell_of_row _ _ _ _ _ _ (heap_alloc_last w _)]
  match j, hj with
  | 0, _ => rfl
set_option maxHeartbeats 2000000 in
theorem live_any (w : World) : Calls Try.prog 9 #[] w fun e w' => e = .returned (.bool true) ∧ Below w.heap.size w w' := by
  obtain ⟨s1, s2, s3, s4, e1, e2, e3, e4, e5, e6, e7, e8, e9, e10, r, e11, e12⟩ := live_facts
  have hnew : Calls Try.prog 10 #[.int .i64 2] w fun e w' => e = .returned (.tuple #[.pointer (some ⟨w.heap.size + 1, 0, none⟩), .int .i64 0]) ∧ Has w w' (w.heap.size + 1) w.heap.size 2 (St.new 2) := has_new 2 w w (Below.refl _ _) (by decide) (by decide)
  have E1 := Lib.hid e1
  have E2 := Lib.hid e2
  have E3 := Lib.hid e3
  have E4 := Lib.hid e4
  have E5 := Lib.hid e5
  have E6 := Lib.hid e6
  have E7 := Lib.hid e7
  have E8 := Lib.hid e8
  have E9 := Lib.hid e9
  have E10 := Lib.hid e10
  have E11 := Lib.hid e11
  have E12 := Lib.hid e12
  have HN := Lib.hid hnew
  have kc := fun (w : World) (C : Array Value) (n c : Nat) => Lib.run_convert_bytes_const (P := Try.prog) w 29 5 C n c Try.underlying29 Try.underlying5
  clear e1 e2 e3 e4 e5 e6 e7 e8 e9 e10 e11 e12 hnew
  go_enter Try.func9, Try.ntmps9
  go_wp2_with fail
  refine HN.out.mono ?_
  rintro e w1 ⟨rfl, h1⟩
  have H1 := Lib.hid h1
  generalize w.heap.size + 1 = D at *
  generalize w.heap.size = S at *
  clear h1
  go_wp2_with fail
  have hw := has_write_new H1.out (w := w1.alloc (.cells #[.int .u8 97] 5 (1, 2))) ((Below.refl _ _).alloc (Nat.le_refl _) _) 0 _ [97] (lit_byt w1 97 (1, 2)) (fun g hg => by simp [Value.ownBlock] at hg; omega) (by simp [St.new])
  rw [E1.out] at hw
  refine hw.mono ?_
  rintro e w2 ⟨rfl, h2⟩
  have hq := has_waits h2
  rw [E2.out] at hq
  have hf := has_flush h2
  rw [E3.out] at hf
  have HQ := Lib.hid hq
  have HF := Lib.hid hf
  clear hw h2 hq hf
  go_wp2_with fail
  refine HQ.out.mono ?_
  rintro e w' ⟨rfl, rfl⟩
  go_wp2_with fail
  refine HF.out.mono ?_
  rintro e w3 ⟨rfl, h3⟩
  have hw := has_write_new h3 (w := w3.alloc (.cells #[.int .u8 98] 5 (1, 2))) ((Below.refl _ _).alloc (Nat.le_refl _) _) 0 _ [98] (lit_byt w3 98 (1, 2)) (fun g hg => by simp [Value.ownBlock] at hg; omega) (by rw [E4.out]; decide)
  rw [E5.out] at hw
  have HW := Lib.hid hw
  clear hw h3 HQ HF
  go_wp2_with fail
  refine HW.out.mono ?_
  rintro e w4 ⟨rfl, h4⟩
  have hc := has_crash h4 (by rw [E6.out]; decide) (.slice none 0 0) [] (-1) 0 ⟨none, 0, rfl, fun j hj => by simp at hj⟩ (fun g hg _ => by simp [Value.ownBlock] at hg) (by simp)
  rw [E7.out] at hc
  have HC := Lib.hid hc
  clear hc h4 HW
  go_wp2_with fail
  refine HC.out.mono ?_
  rintro e w5 ⟨rfl, h5⟩
  have hr := has_read h5 0
  have H5 := Lib.hid h5
  have HR := Lib.hid hr
  clear hr h5 HC
  go_wp2_with fail
  refine HR.out.mono ?_
  intro e w6 hT
  unfold ReadR at hT
  rw [E8.out, if_neg (by simp), if_pos (by rw [E9.out]; decide)] at hT
  obtain ⟨b, rfl, hblk, hge, hb⟩ := hT
  have e11 := E11.out
  rw [show Int.toNat 0 = 0 from rfl, e11] at hblk
  have hc0 : w6.cell? ⟨b, 0, none⟩ = some (.int .u8 97) := by rw [cell_of_row _ _ _ _ _ _ hblk]; rfl
  have h6 := H5.out.below hb
  have ha := has_age h6
  rw [E10.out] at ha
  have HA := Lib.hid ha
  have HB := Lib.hid h6.bel
  clear ha h6 hblk hge hb e11
  go_wp2_with fail
  refine HA.out.mono ?_
  rintro e w' ⟨rfl, rfl⟩
  go_wp2
  go_ret
  exact ⟨rfl, HB.out⟩
end Go.Proofs.Ytohmofhpbmhhjaa
