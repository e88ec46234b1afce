/- Frame: live, and the first three statements' walks. -/
import Derived.Test.YtjlhcgimijcghaaF11
import Derived.Lib.SlBytesConst
namespace Go.Proofs.Ytjlhcgimijcghaa
open Go Go.RowKit

theorem pack_a : (packL [97]).length = 7 ∧ (packL [97])[6]? = some 97 ∧ oneP (packL [97]) 0 = ([97], 7, 0) := by decide +kernel
theorem crc_nine : crcN [49, 50, 51, 52, 53, 54, 55, 56, 57] = 3421780262 := by decide +kernel

/-- The bytes of a constant. -/
theorem byt_const (w : World) (e : TypeId) (l : List UInt8) (cs : Array Value) (m : Nat × Nat) (hc : cs.toList = l.map fun b => Value.int .u8 (b.toNat : Int)) : Byt (w.alloc (.cells cs e m)) (.slice (some ⟨w.heap.size, 0, none⟩) l.length l.length) l := by
  have hcell : ∀ j, (w.alloc (.cells cs e m)).cell? ⟨w.heap.size, j, none⟩ = cs[j]? := fun j => World.cell?_alloc_mark w cs e m j
  refine ⟨some ⟨w.heap.size, 0, none⟩, l.length, rfl, Nat.le_refl _, (fun h => by cases h), fun ad had => ?_⟩
  injection had with had
  subst had
  refine ⟨w.heap.size, 0, rfl, by simp, fun j hj => ?_⟩
  rw [Nat.zero_add, hcell, ← Array.getElem?_toList, hc, List.getElem?_map, List.getElem?_eq_getElem hj]
  rfl

set_option maxHeartbeats 2000000 in
theorem live_any (w : World) : Calls Try.prog 9 #[] w fun e w' => e = .returned (.bool true) ∧ Below w.heap.size w w' := by
  have kc := fun (w : World) (C : Array Value) (n c : Nat) => Lib.run_convert_bytes_const (P := Try.prog) w 22 5 C n c Try.underlying22 Try.underlying5
  have hA := byt_const w 5 [97] #[.int .u8 97] (1, 2) rfl
  have hbA : Below w.heap.size w (w.alloc (.cells #[.int .u8 97] 5 (1, 2))) := (Below.refl _ w).alloc (Nat.le_refl _) _
  have hpk := pack_any _ [97] _ hA (by decide) (by decide)
  obtain ⟨p1, p2, p3⟩ := pack_a
  generalize packL [97] = X at *
  have HPK := Lib.hid hpk
  have HBA := Lib.hid hbA
  have HP2 := Lib.hid p2
  have HP3 := Lib.hid p3
  clear hA hbA hpk p2 p3
  go_enter Try.func9, Try.ntmps9
  go_wp2_with fail
  refine HPK.out.mono ?_
  rintro e w1 ⟨v1, rfl, R1, b1⟩
  have hb1 := HBA.out.trans (b1.mono HBA.out.size)
  have hone := one_any v1 X 0 w1 R1.1 (by omega)
  rw [HP3.out] at hone
  obtain ⟨a1, c1, rfl, hc1⟩ := R1.1.shape
  have HONE := Lib.hid hone
  have HB1 := Lib.hid hb1
  have HR1 := Lib.hid R1
  clear hone hb1 R1 b1 HPK HBA
  rw [p1] at *
  go_wp2_with fail
  refine HONE.out.mono ?_
  rintro e w2 ⟨v2, rfl, R2, b2⟩
  have hb2 := HB1.out.trans (b2.mono HB1.out.size)
  have hv1 := HR1.out.1.below b2
  have hS := byt_const w2 5 [49, 50, 51, 52, 53, 54, 55, 56, 57] #[.int .u8 49, .int .u8 50, .int .u8 51, .int .u8 52, .int .u8 53, .int .u8 54, .int .u8 55, .int .u8 56, .int .u8 57] (9, 10) rfl
  have hbS : Below w2.heap.size w2 (w2.alloc (.cells #[.int .u8 49, .int .u8 50, .int .u8 51, .int .u8 52, .int .u8 53, .int .u8 54, .int .u8 55, .int .u8 56, .int .u8 57] 5 (9, 10))) := (Below.refl _ w2).alloc (Nat.le_refl _) _
  have hsum := Sum_any _ _ _ hS (by decide)
  rw [crc_nine] at hsum
  obtain ⟨a2, c2, rfl, hc2⟩ := R2.1.shape
  have HSUM := Lib.hid hsum
  have HB2 := Lib.hid (hb2.trans (hbS.mono hb2.size))
  have HV1 := Lib.hid (hv1.below hbS)
  have HV2 := Lib.hid (R2.1.below hbS)
  clear hsum hb2 hv1 hS hbS R2 b2 HONE HB1 HR1
  go_wp2_with fail
  refine HSUM.out.mono ?_
  rintro e w3 ⟨rfl, b3⟩
  have HB3 := Lib.hid (HB2.out.trans (b3.mono HB2.out.size))
  have hv1 := HV1.out.below b3
  have hcv : (convert 22 9 (.slice a2 1 c2)).run Try.prog w3 = .ok (.string ⟨#[97]⟩) w3 := run_byt_string (P := Try.prog) w3 22 9 5 Try.underlying22 Try.underlying5 Try.underlying9 (HV2.out.below b3)
  obtain ⟨g, off, rfl, hnx, _, hc⟩ := hv1.at (j := 6) (by omega)
  have h6 := hc 6 (by omega)
  have e6 : X[6]'(by omega) = 97 := by
    have := HP2.out
    rw [List.getElem?_eq_getElem (by omega)] at this
    exact Option.some.inj this
  rw [e6] at h6
  have h6' : w3.cell? ⟨g, off + 6, none⟩ = some (.int .u8 97) := h6
  clear h6
  clear hc hv1 b3 HSUM HB2 HV1 HV2 HP2 HP3 e6 hnx p1
  go_wp2
  go_ret
  exact ⟨rfl, HB3.out⟩
end Go.Proofs.Ytjlhcgimijcghaa
