/- Frame: the walks of the first three statements. -/
import Derived.Test.YtjlhcgimijcghaaF12
namespace Go.Proofs.Ytjlhcgimijcghaa
open Go Go.RowKit

set_option maxHeartbeats 1000000 in
theorem walk_sums (v : Value) (l : List UInt8) (w : World) (hv : Byt w v l) (hl : l.length ≤ 140737488355328) :
    Calls Try.prog 3 #[v] w fun e w' => e = .returned (.bool true) ∧ Below w.heap.size w w' := by
  have HV := Lib.hid hv
  obtain ⟨a, c, rfl, hcap⟩ := hv.shape
  clear hv
  go_enter Try.func3, Try.ntmps3
  go_wp2_with fail
  refine (live_any w).mono ?_
  rintro e w1 ⟨rfl, b1⟩
  have hs := Sum_any _ l w1 (HV.out.below b1) hl
  have HS := Lib.hid hs
  have HB1 := Lib.hid b1
  clear hs b1
  go_wp2_with fail
  refine HS.out.mono ?_
  rintro e w2 ⟨rfl, b2⟩
  have hb2 := HB1.out.trans (b2.mono HB1.out.size)
  have hr := rsum_any _ l w2 (HV.out.below hb2) hl
  have HR := Lib.hid hr
  have HB2 := Lib.hid hb2
  clear hr hb2 b2 HS HV HB1
  go_wp2_with fail
  refine HR.out.mono ?_
  rintro e w3 ⟨rfl, rfl⟩
  go_wp2
  go_ret
  exact ⟨rfl, HB2.out⟩

/-- Pack of whatever reads as l: by the code and by the reference. -/
def packE (l : List UInt8) : Int := if l.length = 0 then 2 else if 2000 < l.length then 6 else 0
def packV (l : List UInt8) : List UInt8 := if l.length = 0 then [] else if 2000 < l.length then [] else packL l
theorem pack_all (v : Value) (l : List UInt8) (w : World) (hv : Byt w v l) :
    Calls Try.prog 12 #[v] w fun e w' => ∃ v', e = .returned (.tuple #[v', .int .i64 (packE l)]) ∧ Row w.heap.size w' v' (packV l) ∧ Below w.heap.size w w' := by
  unfold packE packV
  by_cases h0 : l.length = 0
  · rw [if_pos h0, if_pos h0]
    exact (pack_none v l w hv h0).mono fun e w' ⟨h1, h2⟩ => ⟨_, h1, Row.nil _ _, by rw [h2]; exact Below.refl _ _⟩
  · by_cases h1 : 2000 < l.length
    · rw [if_neg h0, if_neg h0, if_pos h1, if_pos h1]
      exact (pack_long v l w hv h1).mono fun e w' ⟨h1, h2⟩ => ⟨_, h1, Row.nil _ _, by rw [h2]; exact Below.refl _ _⟩
    · rw [if_neg h0, if_neg h0, if_neg h1, if_neg h1]
      exact pack_any v l w hv h0 (by omega)
theorem rpack_all (v : Value) (l : List UInt8) (w : World) (hv : Byt w v l) :
    Calls Try.prog 13 #[v] w fun e w' => ∃ v', e = .returned (.tuple #[v', .int .i64 (packE l)]) ∧ Row w.heap.size w' v' (packV l) ∧ Below w.heap.size w w' := by
  unfold packE packV
  by_cases h0 : l.length = 0
  · rw [if_pos h0, if_pos h0]
    exact (rpack_none v l w hv h0).mono fun e w' ⟨h1, h2⟩ => ⟨_, h1, Row.nil _ _, by rw [h2]; exact Below.refl _ _⟩
  · by_cases h1 : 2000 < l.length
    · rw [if_neg h0, if_neg h0, if_pos h1, if_pos h1]
      exact (rpack_long v l w hv h1).mono fun e w' ⟨h1, h2⟩ => ⟨_, h1, Row.nil _ _, by rw [h2]; exact Below.refl _ _⟩
    · rw [if_neg h0, if_neg h0, if_neg h1, if_neg h1]
      exact rpack_any v l w hv h0 (by omega)

set_option maxHeartbeats 1000000 in
theorem walk_packs (v : Value) (l : List UInt8) (w : World) (hv : Byt w v l) :
    Calls Try.prog 4 #[v] w fun e w' => e = .returned (.bool true) ∧ Below w.heap.size w w' := by
  have HV := Lib.hid hv
  have hp := pack_all v l w hv
  obtain ⟨a, c, rfl, hcap⟩ := hv.shape
  have HP := Lib.hid hp
  clear hv hp
  go_enter Try.func4, Try.ntmps4
  go_wp2_with fail
  refine HP.out.mono ?_
  rintro e w1 ⟨v1, rfl, R1, b1⟩
  have hr := rpack_all _ l w1 (HV.out.below b1)
  have HR := Lib.hid hr
  have HB1 := Lib.hid b1
  have HR1 := Lib.hid R1
  obtain ⟨a1, c1, rfl, hcap1⟩ := R1.1.shape
  clear hr b1 R1 HP
  go_wp2_with fail
  refine HR.out.mono ?_
  rintro e w2 ⟨v2, rfl, R2, b2⟩
  have hb2 := HB1.out.trans (b2.mono HB1.out.size)
  have HB2 := Lib.hid hb2
  have HR2 := Lib.hid R2
  have HV1 := Lib.hid (HR1.out.1.below b2)
  obtain ⟨a2, c2, rfl, hcap2⟩ := R2.1.shape
  clear hb2 b2 R2 HR HR1 HB1
  go_wp2_with fail
  refine (live_any w2).mono ?_
  rintro e w3 ⟨rfl, b3⟩
  have HB3 := Lib.hid (HB2.out.trans (b3.mono HB2.out.size))
  have hc1 := run_byt_string (P := Try.prog) w3 22 9 5 Try.underlying22 Try.underlying5 Try.underlying9 (HV1.out.below b3)
  have hc2 := run_byt_string (P := Try.prog) w3 22 9 5 Try.underlying22 Try.underlying5 Try.underlying9 (HR2.out.1.below b3)
  generalize packV l = X at *
  clear b3 HB2 HR2 HV1
  go_wp2
  go_ret
  exact ⟨rfl, HB3.out⟩

/-- One at whatever number. -/
def oneI (l : List UInt8) (i : Int) : List UInt8 × Int × Int := if i < 0 then ([], 0, 2) else oneP l i.toNat
theorem one_all (v : Value) (l : List UInt8) (i : Int) (w : World) (hv : Byt w v l) (hl : l.length ≤ 140737488355328) :
    Calls Try.prog 14 #[v, .int .i64 i] w fun e w' => ∃ v', e = .returned (.tuple #[v', .int .i64 (oneI l i).2.1, .int .i64 (oneI l i).2.2]) ∧ Row w.heap.size w' v' (oneI l i).1 ∧ Below w.heap.size w w' := by
  unfold oneI
  by_cases hi : i < 0
  · rw [if_pos hi]
    exact (one_neg v i w hi).mono fun e w' ⟨h1, h2⟩ => ⟨_, h1, Row.nil _ _, by rw [h2]; exact Below.refl _ _⟩
  · rw [if_neg hi]
    obtain ⟨k, rfl⟩ : ∃ k : Nat, i = (k : Int) := ⟨i.toNat, by omega⟩
    exact one_any v l k w hv hl
theorem rone_all (v : Value) (l : List UInt8) (i : Int) (w : World) (hv : Byt w v l) (hl : l.length ≤ 140737488355328) :
    Calls Try.prog 15 #[v, .int .i64 i] w fun e w' => ∃ v', e = .returned (.tuple #[v', .int .i64 (oneI l i).2.1, .int .i64 (oneI l i).2.2]) ∧ Row w.heap.size w' v' (oneI l i).1 ∧ Below w.heap.size w w' := by
  unfold oneI
  by_cases hi : i < 0
  · rw [if_pos hi]
    exact (rone_neg v i w hi).mono fun e w' ⟨h1, h2⟩ => ⟨_, h1, Row.nil _ _, by rw [h2]; exact Below.refl _ _⟩
  · rw [if_neg hi]
    obtain ⟨k, rfl⟩ : ∃ k : Nat, i = (k : Int) := ⟨i.toNat, by omega⟩
    exact rone_any v l k w hv hl

set_option maxHeartbeats 1000000 in
theorem walk_ones (v : Value) (l : List UInt8) (i : Int) (w : World) (hv : Byt w v l) (hl : l.length ≤ 140737488355328) :
    Calls Try.prog 5 #[v, .int .i64 i] w fun e w' => e = .returned (.bool true) ∧ Below w.heap.size w w' := by
  have HV := Lib.hid hv
  have hp := one_all v l i w hv hl
  obtain ⟨a, c, rfl, hcap⟩ := hv.shape
  have hr := fun W hb => rone_all (.slice a l.length c) l i W (HV.out.below hb) hl
  generalize oneI l i = O at *
  obtain ⟨O1, O2, O3⟩ := O
  have HP := Lib.hid hp
  have HR := Lib.hid hr
  clear hv hp hr
  go_enter Try.func5, Try.ntmps5
  go_wp2_with fail
  refine HP.out.mono ?_
  rintro e w1 ⟨v1, rfl, R1, b1⟩
  have HB1 := Lib.hid b1
  have HR1 := Lib.hid R1
  obtain ⟨a1, c1, rfl, hcap1⟩ := R1.1.shape
  clear b1 R1 HP
  go_wp2_with fail
  refine (HR.out _ HB1.out).mono ?_
  rintro e w2 ⟨v2, rfl, R2, b2⟩
  have hb2 := HB1.out.trans (b2.mono HB1.out.size)
  have HB2 := Lib.hid hb2
  have HR2 := Lib.hid R2
  have HV1 := Lib.hid (HR1.out.1.below b2)
  obtain ⟨a2, c2, rfl, hcap2⟩ := R2.1.shape
  clear hb2 b2 R2 HR HR1 HB1
  go_wp2_with fail
  refine (live_any w2).mono ?_
  rintro e w3 ⟨rfl, b3⟩
  have HB3 := Lib.hid (HB2.out.trans (b3.mono HB2.out.size))
  have hc1 := run_byt_string (P := Try.prog) w3 22 9 5 Try.underlying22 Try.underlying5 Try.underlying9 (HV1.out.below b3)
  have hc2 := run_byt_string (P := Try.prog) w3 22 9 5 Try.underlying22 Try.underlying5 Try.underlying9 (HR2.out.1.below b3)
  clear b3 HB2 HR2 HV1
  go_wp2
  go_ret
  exact ⟨rfl, HB3.out⟩
end Go.Proofs.Ytjlhcgimijcghaa
