/- Frame: Pack, by the code. -/
import Derived.Test.YtjlhcgimijcghaaF7
namespace Go.Proofs.Ytjlhcgimijcghaa
open Go Go.RowKit

/-- A frame's bytes. -/
def packL (l : List UInt8) : List UInt8 := rowL l.length 2 ++ (rowL (crcN (rowL l.length 2 ++ l)) 4 ++ l)
theorem rowL_len (n m : Nat) : (rowL n m).length = m := by simp [rowL]
theorem packL_len (l : List UInt8) : (packL l).length = l.length + 6 := by simp [packL, rowL_len]; omega

set_option maxHeartbeats 1000000 in
theorem pack_any (v : Value) (l : List UInt8) (w : World) (hv : Byt w v l) (h0 : l.length ≠ 0) (hl : l.length ≤ 2000) :
    Calls Try.prog 12 #[v] w fun e w' => ∃ v', e = .returned (.tuple #[v', .int .i64 0]) ∧ Row w.heap.size w' v' (packL l) ∧ Below w.heap.size w w' := by
  obtain ⟨a, c, rfl, hcap⟩ := hv.shape
  have hrow1 := row_any l.length 2 w (by omega) (by omega)
  have hw : IntKind.u32.wrap (l.length : Int) = (l.length : Int) := by rw [IntKind.wrap_u32']; omega
  go_enter Try.func12, Try.ntmps12
  go_wp2_with fail
  refine hrow1.mono ?_
  rintro e w1 ⟨v1, rfl, R1, b1⟩
  obtain ⟨a1, c1, rfl, hcap1⟩ := R1.1.shape
  rw [rowL_len] at *
  have hv1 := hv.below b1
  have hR := rd_two R1.1 hv1 22
  have hb1 : Below w.heap.size w (w1.alloc (.cells #[.slice a1 2 c1, .slice a l.length c] 22)) := b1.alloc b1.size _
  have hs := sum_any w1.heap.size 2 [.slice a1 2 c1, .slice a l.length c] [rowL l.length 2, l] _ (by simp) (by simp [rowL_len]; omega) hR (by simp)
  simp only [List.flatten_cons, List.flatten_nil, List.append_nil, List.length_cons, List.length_nil] at hs
  have hcl := crcN_lt (rowL l.length 2 ++ l)
  have hpk : packL l = rowL l.length 2 ++ (rowL (crcN (rowL l.length 2 ++ l)) 4 ++ l) := rfl
  generalize crcN (rowL l.length 2 ++ l) = y at *
  have HPK := Lib.hid hpk
  have HB1 := Lib.hid hb1
  have HR1 := Lib.hid (R1.below ((Below.refl _ w1).alloc (Nat.le_refl _) (.cells #[.slice a1 2 c1, .slice a l.length c] 22)))
  have HV := Lib.hid hv
  have HS := Lib.hid hs
  clear hb1 hs hR hv1 R1 b1 hv hpk
  go_wp2_with fail
  refine HS.out.mono ?_
  rintro e w2 ⟨rfl, b2⟩
  have b3 := HB1.out.trans (b2.mono HB1.out.size)
  have R2 := HR1.out.below b2
  have HB3 := Lib.hid b3
  have HR2 := Lib.hid R2
  have hrow2 := row_any y 4 w2 hcl (by omega)
  have HROW := Lib.hid hrow2
  clear b2 b3 R2 HB1 HR1 HS hrow2
  go_wp2_with fail
  refine HROW.out.mono ?_
  rintro e w3 ⟨v2, rfl, R3, b3⟩
  obtain ⟨a2, c2, rfl, hcap2⟩ := R3.1.shape
  rw [rowL_len] at *
  have b4 := HB3.out.trans (b3.mono HB3.out.size)
  have hR := rd_three (HR2.out.below b3).1 R3.1 (HV.out.below b4) 22
  have hb5 : Below w.heap.size w (w3.alloc (.cells #[.slice a1 2 c1, .slice a2 4 c2, .slice a l.length c] 22)) := b4.alloc b4.size _
  have hlay := lay_any w3.heap.size 3 [.slice a1 2 c1, .slice a2 4 c2, .slice a l.length c] [rowL l.length 2, rowL y 4, l] _ (by simp) (by simp [rowL_len]; omega) (by simp [rowL_len]; omega) hR (by simp)
  simp only [List.flatten_cons, List.flatten_nil, List.append_nil, List.length_cons, List.length_nil] at hlay
  have HLAY := Lib.hid hlay
  have HB5 := Lib.hid hb5
  clear hlay hb5 hR b4 b3 R3 HV HB3 HR2
  go_wp2_with fail
  refine HLAY.out.mono ?_
  rintro e w6 ⟨v6, rfl, R6, b6⟩
  have HB6 := Lib.hid (HB5.out.trans (b6.mono HB5.out.size))
  have hr6 : Row w.heap.size w6 v6 (rowL l.length 2 ++ (rowL y 4 ++ l)) := ⟨R6.1, fun ad n c hv => by
    obtain ⟨q1, q2⟩ := R6.2 ad n c hv
    exact ⟨Nat.le_trans HB5.out.size q1, q2⟩⟩
  rw [← HPK.out] at hr6
  have HR6 := Lib.hid hr6
  clear R6 b6 hr6 HB5 HLAY
  go_wp2
  go_ret2
  exact ⟨_, rfl, HR6.out, HB6.out⟩
end Go.Proofs.Ytjlhcgimijcghaa
