/- Date: the document's fits (signs of their own), match, best. -/
import Derived.Test.YtkkmjadkagpihaaDoorJ37
import Derived.Test.YtkkmjadkagpihaaDoorJ38
namespace Go.Proofs.YtkkmjadkagpihaaDoor
open Go Go.RowKit

set_option maxRecDepth 100000 in
theorem fits_44 (w : World) (v : Value) (L : List ByteArray) (hv : Ltr w v L) (i : Nat) (hi : i < L.length) (R : Bool) (hR : decide (L[i].data.toList = [44]) = R) :
    Calls Tryd.prog 79 #[v, .int .i64 (i : Int), .int .u8 44] w fun e w' => e = .returned (.bool R) ∧ Below w.heap.size w w' := by
  obtain ⟨g, cp, rfl, hcp, hg, hcell⟩ := hv.at (by omega)
  have hcl := hcell i hi
  have hbe : (L[i].toList == [(44 : UInt8)]) = R := by
    rw [← hR, Lib.toList_data]
    by_cases h : L[i].data.toList = [(44 : UInt8)]
    · rw [h]; simp
    · rw [decide_eq_false h, beq_eq_false_iff_ne]; exact h
  clear hcell hR hv
  generalize L[i] = S at *
  have hB0 := bal (Below.refl w.heap.size w) (.cells #[.int .u8 44] 5)
  have cv0 := conv_cell (w.alloc (.cells #[.int .u8 44] 5)) w.heap.size 44 44 rfl (cell_row1 w 44)
  have HBE := Lib.hid hbe
  clear hbe
  by_cases h1 : S.size = 1
  · have hz1 : 0 < S.size := by omega
    obtain ⟨y, hy⟩ : ∃ y, S[0].toNat = y := ⟨_, rfl⟩
    by_cases a1 : 48 ≤ y
    · go_enter Tryd.func79, Tryd.ntmps79
      go_wp2
      go_ret
      exact ⟨ret_bl HBE.out, hB0⟩
    · go_enter Tryd.func79, Tryd.ntmps79
      go_wp2
      go_ret
      exact ⟨ret_bl HBE.out, hB0⟩
  · have hxi : ¬ ((S.size : Int) = 1) := by omega
    go_enter Tryd.func79, Tryd.ntmps79
    go_wp2
    go_ret
    exact ⟨ret_bl HBE.out, hB0⟩

set_option maxRecDepth 100000 in
theorem fits_32 (w : World) (v : Value) (L : List ByteArray) (hv : Ltr w v L) (i : Nat) (hi : i < L.length) (R : Bool) (hR : decide (L[i].data.toList = [32]) = R) :
    Calls Tryd.prog 79 #[v, .int .i64 (i : Int), .int .u8 32] w fun e w' => e = .returned (.bool R) ∧ Below w.heap.size w w' := by
  obtain ⟨g, cp, rfl, hcp, hg, hcell⟩ := hv.at (by omega)
  have hcl := hcell i hi
  have hbe : (L[i].toList == [(32 : UInt8)]) = R := by
    rw [← hR, Lib.toList_data]
    by_cases h : L[i].data.toList = [(32 : UInt8)]
    · rw [h]; simp
    · rw [decide_eq_false h, beq_eq_false_iff_ne]; exact h
  clear hcell hR hv
  generalize L[i] = S at *
  have hB0 := bal (Below.refl w.heap.size w) (.cells #[.int .u8 32] 5)
  have cv0 := conv_cell (w.alloc (.cells #[.int .u8 32] 5)) w.heap.size 32 32 rfl (cell_row1 w 32)
  have HBE := Lib.hid hbe
  clear hbe
  by_cases h1 : S.size = 1
  · have hz1 : 0 < S.size := by omega
    obtain ⟨y, hy⟩ : ∃ y, S[0].toNat = y := ⟨_, rfl⟩
    by_cases a1 : 48 ≤ y
    · go_enter Tryd.func79, Tryd.ntmps79
      go_wp2
      go_ret
      exact ⟨ret_bl HBE.out, hB0⟩
    · go_enter Tryd.func79, Tryd.ntmps79
      go_wp2
      go_ret
      exact ⟨ret_bl HBE.out, hB0⟩
  · have hxi : ¬ ((S.size : Int) = 1) := by omega
    go_enter Tryd.func79, Tryd.ntmps79
    go_wp2
    go_ret
    exact ⟨ret_bl HBE.out, hB0⟩

set_option maxRecDepth 100000 in
theorem fits_58 (w : World) (v : Value) (L : List ByteArray) (hv : Ltr w v L) (i : Nat) (hi : i < L.length) (R : Bool) (hR : decide (L[i].data.toList = [58]) = R) :
    Calls Tryd.prog 79 #[v, .int .i64 (i : Int), .int .u8 58] w fun e w' => e = .returned (.bool R) ∧ Below w.heap.size w w' := by
  obtain ⟨g, cp, rfl, hcp, hg, hcell⟩ := hv.at (by omega)
  have hcl := hcell i hi
  have hbe : (L[i].toList == [(58 : UInt8)]) = R := by
    rw [← hR, Lib.toList_data]
    by_cases h : L[i].data.toList = [(58 : UInt8)]
    · rw [h]; simp
    · rw [decide_eq_false h, beq_eq_false_iff_ne]; exact h
  clear hcell hR hv
  generalize L[i] = S at *
  have hB0 := bal (Below.refl w.heap.size w) (.cells #[.int .u8 58] 5)
  have cv0 := conv_cell (w.alloc (.cells #[.int .u8 58] 5)) w.heap.size 58 58 rfl (cell_row1 w 58)
  have HBE := Lib.hid hbe
  clear hbe
  by_cases h1 : S.size = 1
  · have hz1 : 0 < S.size := by omega
    obtain ⟨y, hy⟩ : ∃ y, S[0].toNat = y := ⟨_, rfl⟩
    by_cases a1 : 48 ≤ y
    · go_enter Tryd.func79, Tryd.ntmps79
      go_wp2
      go_ret
      exact ⟨ret_bl HBE.out, hB0⟩
    · go_enter Tryd.func79, Tryd.ntmps79
      go_wp2
      go_ret
      exact ⟨ret_bl HBE.out, hB0⟩
  · have hxi : ¬ ((S.size : Int) = 1) := by omega
    go_enter Tryd.func79, Tryd.ntmps79
    go_wp2
    go_ret
    exact ⟨ret_bl HBE.out, hB0⟩

set_option maxRecDepth 100000 in
theorem fits_43 (w : World) (v : Value) (L : List ByteArray) (hv : Ltr w v L) (i : Nat) (hi : i < L.length) (R : Bool) (hR : decide (L[i].data.toList = [43]) = R) :
    Calls Tryd.prog 79 #[v, .int .i64 (i : Int), .int .u8 43] w fun e w' => e = .returned (.bool R) ∧ Below w.heap.size w w' := by
  obtain ⟨g, cp, rfl, hcp, hg, hcell⟩ := hv.at (by omega)
  have hcl := hcell i hi
  have hbe : (L[i].toList == [(43 : UInt8)]) = R := by
    rw [← hR, Lib.toList_data]
    by_cases h : L[i].data.toList = [(43 : UInt8)]
    · rw [h]; simp
    · rw [decide_eq_false h, beq_eq_false_iff_ne]; exact h
  clear hcell hR hv
  generalize L[i] = S at *
  have hB0 := bal (Below.refl w.heap.size w) (.cells #[.int .u8 43] 5)
  have cv0 := conv_cell (w.alloc (.cells #[.int .u8 43] 5)) w.heap.size 43 43 rfl (cell_row1 w 43)
  have HBE := Lib.hid hbe
  clear hbe
  by_cases h1 : S.size = 1
  · have hz1 : 0 < S.size := by omega
    obtain ⟨y, hy⟩ : ∃ y, S[0].toNat = y := ⟨_, rfl⟩
    by_cases a1 : 48 ≤ y
    · go_enter Tryd.func79, Tryd.ntmps79
      go_wp2
      go_ret
      exact ⟨ret_bl HBE.out, hB0⟩
    · go_enter Tryd.func79, Tryd.ntmps79
      go_wp2
      go_ret
      exact ⟨ret_bl HBE.out, hB0⟩
  · have hxi : ¬ ((S.size : Int) = 1) := by omega
    go_enter Tryd.func79, Tryd.ntmps79
    go_wp2
    go_ret
    exact ⟨ret_bl HBE.out, hB0⟩

set_option maxRecDepth 100000 in
theorem fits_45 (w : World) (v : Value) (L : List ByteArray) (hv : Ltr w v L) (i : Nat) (hi : i < L.length) (R : Bool) (hR : decide (L[i].data.toList = [45]) = R) :
    Calls Tryd.prog 79 #[v, .int .i64 (i : Int), .int .u8 45] w fun e w' => e = .returned (.bool R) ∧ Below w.heap.size w w' := by
  obtain ⟨g, cp, rfl, hcp, hg, hcell⟩ := hv.at (by omega)
  have hcl := hcell i hi
  have hbe : (L[i].toList == [(45 : UInt8)]) = R := by
    rw [← hR, Lib.toList_data]
    by_cases h : L[i].data.toList = [(45 : UInt8)]
    · rw [h]; simp
    · rw [decide_eq_false h, beq_eq_false_iff_ne]; exact h
  clear hcell hR hv
  generalize L[i] = S at *
  have hB0 := bal (Below.refl w.heap.size w) (.cells #[.int .u8 45] 5)
  have cv0 := conv_cell (w.alloc (.cells #[.int .u8 45] 5)) w.heap.size 45 45 rfl (cell_row1 w 45)
  have HBE := Lib.hid hbe
  clear hbe
  by_cases h1 : S.size = 1
  · have hz1 : 0 < S.size := by omega
    obtain ⟨y, hy⟩ : ∃ y, S[0].toNat = y := ⟨_, rfl⟩
    by_cases a1 : 48 ≤ y
    · go_enter Tryd.func79, Tryd.ntmps79
      go_wp2
      go_ret
      exact ⟨ret_bl HBE.out, hB0⟩
    · go_enter Tryd.func79, Tryd.ntmps79
      go_wp2
      go_ret
      exact ⟨ret_bl HBE.out, hB0⟩
  · have hxi : ¬ ((S.size : Int) = 1) := by omega
    go_enter Tryd.func79, Tryd.ntmps79
    go_wp2
    go_ret
    exact ⟨ret_bl HBE.out, hB0⟩
end Go.Proofs.YtkkmjadkagpihaaDoor
namespace Go.Proofs.YtkkmjadkagpihaaDoor
open Go Go.RowKit

set_option maxRecDepth 100000 in
theorem match_any (w : World) (v : Value) (L : List ByteArray) (hv : Ltr w v L) (pat : ByteArray) (p : Nat) (hp1 : p ≤ pat.size) (hp2 : p ≤ L.length) (hps : pat.size ≤ 100)
    (HF : ∀ i (h : i < pat.size), i < L.length → i ≤ p → ∀ W, Below w.heap.size w W → Calls Tryd.prog 79 #[v, .int .i64 (i : Int), .int .u8 (pat[i].toNat : Int)] W fun e w' => e = .returned (.bool (decide (i < p))) ∧ Below W.heap.size W w') :
    Calls Tryd.prog 70 #[v, .string pat] w fun e w' => e = .returned (.int .i64 (p : Int)) ∧ Below w.heap.size w w' := by
  obtain ⟨a, cp, rfl, hcp⟩ := hv.shape
  have HH := Lib.hid HF
  clear HF hv
  go_enter Tryd.func70, Tryd.ntmps70
  go_wp2
  go_loopw [5] (fun fr wr => ∃ k : Nat, k ≤ p ∧ fr = .int .i64 (k : Int) ∧ Below w.heap.size w wr) (fun fr _ => p - (intOf fr).toNat)
  case atStart => exact ⟨0, Nat.zero_le _, rfl, Below.refl _ _⟩
  case round =>
    obtain ⟨k, hk, rfl, hb⟩ := hrel
    by_cases hkL : k < L.length
    · have q1 : (k : Int) < (L.length : Int) := by omega
      by_cases hkp : k < pat.size
      · have q2 : (k : Int) < (pat.size : Int) := by omega
        have HC := Lib.hid (HH.out k hkp hkL hk wr hb)
        by_cases hlt : k < p
        · rw [decide_eq_true hlt] at HC
          go_wp2_with fail
          refine HC.out.mono ?_
          rintro e w1 ⟨rfl, hb1⟩
          have HB1 := Lib.hid (hb.trans (hb1.mono hb.size))
          clear hb1
          go_wp2
          go_roundw
          case rel => exact ⟨k + 1, by omega, by go_num, HB1.out⟩
          case measure => simp [intOf]; omega
        · rw [decide_eq_false hlt] at HC
          obtain rfl : k = p := by omega
          go_wp2_with fail
          refine HC.out.mono ?_
          rintro e w1 ⟨rfl, hb1⟩
          have HB1 := Lib.hid (hb.trans (hb1.mono hb.size))
          clear hb1
          go_wp2
          go_ret
          exact ⟨rfl, HB1.out⟩
      · obtain rfl : k = p := by omega
        have q2 : ¬ (k : Int) < (pat.size : Int) := by omega
        go_wp2
        go_ret
        exact ⟨rfl, hb⟩
    · obtain rfl : k = p := by omega
      have q1 : ¬ (k : Int) < (L.length : Int) := by omega
      go_wp2
      go_ret
      exact ⟨rfl, hb⟩
end Go.Proofs.YtkkmjadkagpihaaDoor
namespace Go.Proofs.YtkkmjadkagpihaaDoor
open Go Go.RowKit

def maxM (m : Nat → Nat) : Nat → Nat
  | 0 => 0
  | n + 1 => max (maxM m n) (m n)
def Full (L PL : List ByteArray) (m : Nat → Nat) (k : Nat) : Prop := m k = L.length ∧ ∃ h : k < PL.length, m k = (PL[k]).size
/-- What best tells. -/
def BestR (L PL : List ByteArray) (m : Nat → Nat) (I : Int) (F : Nat) : Prop :=
  (∃ k, k < PL.length ∧ Full L PL m k ∧ (∀ j, j < k → ¬ Full L PL m j) ∧ I = (k : Int) ∧ F = m k) ∨ ((∀ j, j < PL.length → ¬ Full L PL m j) ∧ I = -1 ∧ F = maxM m PL.length)

set_option maxRecDepth 100000 in
theorem best_any (w : World) (v v2 : Value) (L PL : List ByteArray) (hv : Ltr w v L) (hv2 : Ltr w v2 PL) (hp0 : 0 < PL.length) (hp : PL.length ≤ 100) (m : Nat → Nat) (hm : ∀ k, m k ≤ 1000)
    (HM : ∀ i (h : i < PL.length), ∀ W, Below w.heap.size w W → Calls Tryd.prog 70 #[v, .string PL[i]] W fun e w' => e = .returned (.int .i64 (m i : Int)) ∧ Below W.heap.size W w') :
    Calls Tryd.prog 45 #[v, v2] w fun e w' => ∃ (I : Int) (F : Nat), e = .returned (.tuple #[.int .i64 I, .int .i64 (F : Int)]) ∧ BestR L PL m I F ∧ Below w.heap.size w w' := by
  obtain ⟨a, cp, rfl, hcp⟩ := hv.shape
  obtain ⟨g2, cp2, rfl, hcp2, hg2, hcell2⟩ := hv2.at hp0
  have HH := Lib.hid HM
  have HC := Lib.hid hcell2
  have HMB := Lib.hid hm
  clear HM hv hv2 hcell2 hm
  go_enter Tryd.func45, Tryd.ntmps45
  go_wp2
  go_loopw [6, 7, 8] (fun far kk _ wr => ∃ k : Nat, k ≤ PL.length ∧ kk = .int .i64 (k : Int) ∧ far = .int .i64 (maxM m k : Int) ∧ (∀ j, j < k → ¬ Full L PL m j) ∧ Below w.heap.size w wr) (fun _ kk _ _ => PL.length - (intOf kk).toNat)
  case atStart => exact ⟨0, Nat.zero_le _, rfl, rfl, fun j hj => absurd hj (Nat.not_lt_zero _), Below.refl _ _⟩
  case round =>
    obtain ⟨k, hk, rfl, rfl, hno, hb⟩ := hrel
    by_cases hkP : k < PL.length
    · have q1 : (k : Int) < (PL.length : Int) := by omega
      have HMt := Lib.hid (HH.out k hkP wr hb)
      have hcl := (hb.cell hg2).trans (HC.out k hkP)
      have hmb := HMB.out k
      have HNO := Lib.hid hno
      have hfull : Hid (Full L PL m k ↔ (m k = L.length ∧ m k = (PL[k]).size)) := Lib.hid ⟨fun h => ⟨h.1, by obtain ⟨_, e⟩ := h.2; exact e⟩, fun h => ⟨h.1, hkP, h.2⟩⟩
      have hmx : Hid (maxM m (k + 1) = max (maxM m k) (m k)) := Lib.hid rfl
      clear hno
      generalize hPS : PL[k] = PS at *
      have HPS := Lib.hid hPS
      clear hPS
      by_cases hf1 : m k = L.length
      · by_cases hf2 : m k = PS.size
        · have HF := Lib.hid (hfull.out.2 ⟨hf1, hf2⟩)
          have r1 : ((m k : Int) == (L.length : Int)) = true := by simp; omega
          have r2 : ((m k : Int) == (PS.size : Int)) = true := by simp; omega
          have HMK := Lib.hid (show (∀ j, j < k → ¬ Full L PL m j) from HNO.out)
          obtain ⟨mk, hmk⟩ : ∃ q, m k = q := ⟨_, rfl⟩
          have HMK2 := Lib.hid hmk
          rw [hmk] at HMt r1 r2 hmb
          clear hf1 hf2 hmk
          go_wp2_with fail
          refine HMt.out.mono ?_
          rintro e w1 ⟨rfl, hb1⟩
          have HB1 := Lib.hid (hb.trans (hb1.mono hb.size))
          have hcl3 := (hb1.cell (Nat.lt_of_lt_of_le hg2 hb.size)).trans hcl
          clear hb1
          go_wp2
          go_ret2
          exact ⟨k, mk, rfl, Or.inl ⟨k, hkP, HF.out, HMK.out, rfl, HMK2.out.symm⟩, HB1.out⟩
        · have HF := Lib.hid (show ¬ Full L PL m k from fun h => hf2 (hfull.out.1 h).2)
          have r1 : ((m k : Int) == (L.length : Int)) = true := by simp; omega
          have r2 : ((m k : Int) == (PS.size : Int)) = false := by simp; omega
          have HN2 := Lib.hid (show ∀ j, j < k + 1 → ¬ Full L PL m j from fun j hj => by
            rcases Nat.lt_or_ge j k with h | h
            · exact HNO.out j h
            · obtain rfl : j = k := by omega
              exact HF.out)
          obtain ⟨mk, hmk⟩ : ∃ q, m k = q := ⟨_, rfl⟩
          obtain ⟨mx, hmx1⟩ : ∃ q, maxM m k = q := ⟨_, rfl⟩
          rw [hmk, hmx1] at hmx
          rw [hmk] at HMt r1 hmb r2
          rw [hmx1]
          clear hf1 hf2 hmk hmx1
          by_cases hgt : mx < mk
          · have q3 : (mx : Int) < (mk : Int) := by omega
            have hnew : Hid (maxM m (k + 1) = mk) := Lib.hid (by rw [hmx.out]; omega)
            go_wp2_with fail
            refine HMt.out.mono ?_
            rintro e w1 ⟨rfl, hb1⟩
            have HB1 := Lib.hid (hb.trans (hb1.mono hb.size))
            have hcl3 := (hb1.cell (Nat.lt_of_lt_of_le hg2 hb.size)).trans hcl
            clear hb1
            go_wp2
            go_roundw
            case rel => exact ⟨k + 1, by omega, by go_num, by rw [hnew.out], HN2.out, HB1.out⟩
            case measure => simp [intOf]; omega
          · have q3 : ¬ (mx : Int) < (mk : Int) := by omega
            have hnew : Hid (maxM m (k + 1) = mx) := Lib.hid (by rw [hmx.out]; omega)
            go_wp2_with fail
            refine HMt.out.mono ?_
            rintro e w1 ⟨rfl, hb1⟩
            have HB1 := Lib.hid (hb.trans (hb1.mono hb.size))
            have hcl3 := (hb1.cell (Nat.lt_of_lt_of_le hg2 hb.size)).trans hcl
            clear hb1
            go_wp2
            go_roundw
            case rel => exact ⟨k + 1, by omega, by go_num, by rw [hnew.out], HN2.out, HB1.out⟩
            case measure => simp [intOf]; omega
      · have HF := Lib.hid (show ¬ Full L PL m k from fun h => hf1 (hfull.out.1 h).1)
        have r1 : ((m k : Int) == (L.length : Int)) = false := by simp; omega
        have HN2 := Lib.hid (show ∀ j, j < k + 1 → ¬ Full L PL m j from fun j hj => by
          rcases Nat.lt_or_ge j k with h | h
          · exact HNO.out j h
          · obtain rfl : j = k := by omega
            exact HF.out)
        obtain ⟨mk, hmk⟩ : ∃ q, m k = q := ⟨_, rfl⟩
        obtain ⟨mx, hmx1⟩ : ∃ q, maxM m k = q := ⟨_, rfl⟩
        rw [hmk, hmx1] at hmx
        rw [hmk] at HMt r1 hmb
        rw [hmx1]
        clear hf1 hmk hmx1
        by_cases hgt : mx < mk
        · have q3 : (mx : Int) < (mk : Int) := by omega
          have hnew : Hid (maxM m (k + 1) = mk) := Lib.hid (by rw [hmx.out]; omega)
          go_wp2_with fail
          refine HMt.out.mono ?_
          rintro e w1 ⟨rfl, hb1⟩
          have HB1 := Lib.hid (hb.trans (hb1.mono hb.size))
          have hcl3 := (hb1.cell (Nat.lt_of_lt_of_le hg2 hb.size)).trans hcl
          clear hb1
          go_wp2
          go_roundw
          case rel => exact ⟨k + 1, by omega, by go_num, by rw [hnew.out], HN2.out, HB1.out⟩
          case measure => simp [intOf]; omega
        · have q3 : ¬ (mx : Int) < (mk : Int) := by omega
          have hnew : Hid (maxM m (k + 1) = mx) := Lib.hid (by rw [hmx.out]; omega)
          go_wp2_with fail
          refine HMt.out.mono ?_
          rintro e w1 ⟨rfl, hb1⟩
          have HB1 := Lib.hid (hb.trans (hb1.mono hb.size))
          have hcl3 := (hb1.cell (Nat.lt_of_lt_of_le hg2 hb.size)).trans hcl
          clear hb1
          go_wp2
          go_roundw
          case rel => exact ⟨k + 1, by omega, by go_num, by rw [hnew.out], HN2.out, HB1.out⟩
          case measure => simp [intOf]; omega
    · obtain rfl : k = PL.length := by omega
      have q1 : ¬ ((PL.length : Nat) : Int) < (PL.length : Int) := by omega
      have HNO := Lib.hid hno
      have HB := Lib.hid hb
      clear hno hb
      obtain ⟨F, hF⟩ : ∃ q, maxM m PL.length = q := ⟨_, rfl⟩
      have HF := Lib.hid hF
      rw [hF]
      clear hF
      go_wp2
      go_ret2
      exact ⟨-1, F, rfl, Or.inr ⟨HNO.out, rfl, HF.out.symm⟩, HB.out⟩
end Go.Proofs.YtkkmjadkagpihaaDoor
