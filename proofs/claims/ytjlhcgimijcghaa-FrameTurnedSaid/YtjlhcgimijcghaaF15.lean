/- Frame: the walk of FrameTurned. -/
import Derived.Test.YtjlhcgimijcghaaF13
import Derived.Test.YtjlhcgimijcghaaF14
import Derived.StillTailTactics
namespace Go.Proofs.Ytjlhcgimijcghaa
open Go Go.RowKit

theorem from_at (i : Int) (n : Nat) (h0 : n ≠ 0) (hn : n ≤ 2000) : ∃ f : Nat, f < n ∧ wrap64 (6 + wrap64 ((IntKind.u64.wrap i).tmod (n : Int))) = ((6 + f : Nat) : Int) := by
  have hw : 0 ≤ IntKind.u64.wrap i := wrap_u64_nonneg i
  have hm : (IntKind.u64.wrap i).tmod (n : Int) = (IntKind.u64.wrap i) % (n : Int) := Int.tmod_eq_emod_of_nonneg hw
  have h1 := Int.emod_nonneg (IntKind.u64.wrap i) (b := (n : Int)) (by omega)
  have h2 := Int.emod_lt_of_pos (IntKind.u64.wrap i) (b := (n : Int)) (by omega)
  refine ⟨((IntKind.u64.wrap i) % (n : Int)).toNat, by omega, ?_⟩
  rw [hm]
  have hws : ∀ x : Int, 0 ≤ x → x < 5000 → wrap64 x = x := fun x a b => by unfold wrap64; omega
  rw [hws _ h1 (by omega), hws _ (by omega) (by omega)]
  omega
def t4 (b0 b1 b2 b3 : UInt8) (j : Nat) : UInt8 := [b0, b1, b2, b3].getD j 0

set_option maxHeartbeats 1000000 in
theorem turned_bad (v : Value) (l : List UInt8) (i : Int) (b0 b1 b2 b3 : UInt8) (w : World) (hv : Byt w v l) (hbad : l.length = 0 ∨ 2000 < l.length) :
    Calls Try.prog 8 #[v, .int .i64 i, .agg #[.int .u8 (b0.toNat : Int), .int .u8 (b1.toNat : Int), .int .u8 (b2.toNat : Int), .int .u8 (b3.toNat : Int)]] w fun e w' => e = .returned (.bool true) ∧ Below w.heap.size w w' := by
  have hb1 : Below w.heap.size w (w.alloc (.cells #[.int .u8 (b0.toNat : Int), .int .u8 (b1.toNat : Int), .int .u8 (b2.toNat : Int), .int .u8 (b3.toNat : Int)] 38)) := (Below.refl _ w).alloc (Nat.le_refl _) _
  have hp := pack_all v l _ (hv.below hb1)
  obtain ⟨a, c, rfl, hcap⟩ := hv.shape
  have hE : (packE l != 0) = true := by
    unfold packE
    rcases hbad with h | h
    · rw [if_pos h]; rfl
    · rw [if_neg (by omega), if_pos h]; rfl
  generalize packE l = E at *
  have HP := Lib.hid hp
  have HB1 := Lib.hid hb1
  clear hp hv hb1 hbad
  go_enter Try.func8, Try.ntmps8
  go_wp2_with fail
  refine HP.out.mono ?_
  rintro e w1 ⟨v1, rfl, R1, bb⟩
  obtain ⟨a1, c1, rfl, _⟩ := R1.1.shape
  have HB2 := Lib.hid (HB1.out.trans (bb.mono HB1.out.size))
  clear R1 bb
  go_wp2_with fail
  refine (live_any w1).mono ?_
  rintro e w2 ⟨rfl, b2⟩
  have HB3 := Lib.hid (HB2.out.trans (b2.mono HB2.out.size))
  clear b2
  go_wp2
  go_ret
  exact ⟨rfl, HB3.out⟩

set_option maxHeartbeats 1000000 in
theorem turned_good (v : Value) (l : List UInt8) (i : Int) (b0 b1 b2 b3 : UInt8) (w : World) (hv : Byt w v l) (h0 : l.length ≠ 0) (h1 : l.length ≤ 2000) :
    Calls Try.prog 8 #[v, .int .i64 i, .agg #[.int .u8 (b0.toNat : Int), .int .u8 (b1.toNat : Int), .int .u8 (b2.toNat : Int), .int .u8 (b3.toNat : Int)]] w fun e w' => e = .returned (.bool true) ∧ Below w.heap.size w w' := by
  have hb1 : Below w.heap.size w (w.alloc (.cells #[.int .u8 (b0.toNat : Int), .int .u8 (b1.toNat : Int), .int .u8 (b2.toNat : Int), .int .u8 (b3.toNat : Int)] 38)) := (Below.refl _ w).alloc (Nat.le_refl _) _
  have hlt := hv.lt
  have hp := fun W hb => pack_any v l W (hv.below (w' := W) hb) h0 h1
  obtain ⟨a, c, rfl, hcap⟩ := hv.shape
  have HP := Lib.hid hp
  clear hp hv
  go_enter Try.func8, Try.ntmps8
  go_wp2_with fail
  refine (HP.out _ hb1).mono ?_
  rintro e w1 ⟨v1, rfl, R1, bb⟩
  have hbox0 : ∀ j, j < 4 → (w.alloc (.cells #[.int .u8 (b0.toNat : Int), .int .u8 (b1.toNat : Int), .int .u8 (b2.toNat : Int), .int .u8 (b3.toNat : Int)] 38)).cell? ⟨w.heap.size, j, none⟩ = some (.int .u8 ((t4 b0 b1 b2 b3 j).toNat : Int)) := fun j hj => by
    rw [World.cell?_alloc_mark]
    rcases (by omega : j = 0 ∨ j = 1 ∨ j = 2 ∨ j = 3) with rfl | rfl | rfl | rfl <;> rfl
  have hbox : ∀ j, j < 4 → w1.cell? ⟨w.heap.size, j, none⟩ = some (.int .u8 ((t4 b0 b1 b2 b3 j).toNat : Int)) := fun j hj => (bb.cell (by simp)).trans (hbox0 j hj)
  have hR1 : Row (w.heap.size + 1) w1 v1 (packL l) := by
    have := R1
    simpa using this
  have hb2 := hb1.trans (bb.mono hb1.size)
  have hXl := packL_len l
  have HR := Lib.hid hR1
  have HB2 := Lib.hid hb2
  have HBOX := Lib.hid hbox
  obtain ⟨a1, c1, rfl, hcap1⟩ := R1.1.shape
  clear hbox0 hbox R1 bb hR1 hb1 hb2 HP hlt
  rw [hXl] at *
  have hpl : ¬ ((l.length + 6 : Nat) : Int) ≤ 6 := by omega
  obtain ⟨f, hfl, hfrom⟩ := from_at i l.length h0 h1
  go_wp2_with fail
  rw [hfrom]
  clear hfrom
  go_loopw [10, 11] (fun tv iv wr => ∃ k : Nat, iv = .int .i64 (k : Int) ∧ k ≤ 4 ∧ f + k ≤ l.length ∧ tv = .bool ((List.range k).any fun j => t4 b0 b1 b2 b3 j != 0) ∧ Row (w.heap.size + 1) wr (.slice a1 (l.length + 6) c1) (turnL (packL l) (6 + f) k (t4 b0 b1 b2 b3)) ∧
      (∀ j, j < 4 → wr.cell? ⟨w.heap.size, j, none⟩ = some (.int .u8 ((t4 b0 b1 b2 b3 j).toNat : Int))) ∧ Below w.heap.size w wr) (fun _ iv _ => 4 - (intOf iv).toNat)
  case atStart => exact ⟨0, rfl, by omega, by omega, rfl, by rw [turnL_zero]; exact HR.out, HBOX.out, HB2.out⟩
  case round =>
    obtain ⟨k, rfl, hk, hfk, rfl, hRow, hbx, hbw⟩ := hrel
    by_cases hgo : k < 4 ∧ f + k < l.length
    · obtain ⟨hk4, hfl2⟩ := hgo
      obtain ⟨g, off, rfl, -, -, hcell⟩ := hRow.1.at (j := 6 + f + k) (by omega)
      have hXl2 := packL_len l
      have hat : (turnL (packL l) (6 + f) k (t4 b0 b1 b2 b3))[6 + f + k]? = (packL l)[6 + f + k]? := turnL_at _ _ _ _ (by omega)
      have hstep := turnL_step (packL l) (6 + f) k (t4 b0 b1 b2 b3) (by omega)
      have htl := turnL_len (packL l) (6 + f) k (t4 b0 b1 b2 b3) (by omega)
      have hx := hcell (6 + f + k) (by omega)
      rw [List.getElem?_eq_getElem (by omega), List.getElem?_eq_getElem (by omega)] at hat
      rw [Option.some.inj hat] at hx
      have hput := hRow.put (6 + f + k) (by omega) ((packL l)[6 + f + k]'(by omega) ^^^ t4 b0 b1 b2 b3 k)
      rw [hstep] at hput
      have hy := hbx k hk4
      obtain ⟨hown, _, hq⟩ := hRow.2 _ _ _ rfl
      have hfz := (hq (6 + f + k) (by omega)).2
      simp only at hown hfz
      generalize (packL l)[6 + f + k]'(by omega) = x at *
      have hany : (List.range (k + 1)).any (fun j => t4 b0 b1 b2 b3 j != 0) = ((List.range k).any (fun j => t4 b0 b1 b2 b3 j != 0) || (t4 b0 b1 b2 b3 k != 0)) := by
        rw [List.range_succ, List.any_append]; simp
      have hne : ((((t4 b0 b1 b2 b3 k).toNat : Int)) != 0) = (t4 b0 b1 b2 b3 k != 0) := by
        by_cases h : t4 b0 b1 b2 b3 k = 0
        · rw [h]; rfl
        · have : ((t4 b0 b1 b2 b3 k).toNat : Int) ≠ 0 := fun e => h (UInt8.toNat_inj.1 (by simpa using e))
          rw [bne_iff_ne.2 h, bne_iff_ne.2 this]
      generalize t4 b0 b1 b2 b3 k = y at *
      have hxor : bits BinOp.xor IntKind.u8 (x.toNat : Int) (y.toNat : Int) = (((x ^^^ y).toNat : Nat) : Int) := by
        rw [u8_xor_nat _ _ x.toNat_lt y.toNat_lt, UInt8.toNat_xor]
      rw [← hxor] at hput
      have hdr : Below wr.heap.size wr wr.drew := ⟨rfl, rfl, rfl, Nat.le_refl _, fun _ _ => rfl⟩
      have hput' : Row (w.heap.size + 1) (wr.drew.setCell ⟨g, off + (6 + f + k), none⟩ (.int .u8 (bits BinOp.xor IntKind.u8 (x.toNat : Int) (y.toNat : Int)))) (.slice (some ⟨g, off, none⟩) (l.length + 6) c1) (turnL (packL l) (6 + f) (k + 1) (t4 b0 b1 b2 b3)) := hput
      have hbx' : ∀ j, j < 4 → (wr.drew.setCell ⟨g, off + (6 + f + k), none⟩ (.int .u8 (bits BinOp.xor IntKind.u8 (x.toNat : Int) (y.toNat : Int)))).cell? ⟨w.heap.size, j, none⟩ = some (.int .u8 ((t4 b0 b1 b2 b3 j).toNat : Int)) := fun j hj => by
        rw [World.cell?_setCell_far _ _ _ _ (by simp only; omega)]
        exact hbx j hj
      have hbw' : Below w.heap.size w (wr.drew.setCell ⟨g, off + (6 + f + k), none⟩ (.int .u8 (bits BinOp.xor IntKind.u8 (x.toNat : Int) (y.toNat : Int)))) := (hbw.drew).setCell (by simp only; omega) _
      have HP := Lib.hid hput'
      have HBX := Lib.hid hbx'
      have HBW := Lib.hid hbw'
      have HANY := Lib.hid hany
      have HNE := Lib.hid hne
      clear hput hput' hbx hbx' hbw hbw' hany hne hxor hRow hq hcell hat hstep htl HR HBOX HB2 hdr hXl2
      have hcast : ((6 + f : Nat) : Int) + (k : Int) = ((6 + f + k : Nat) : Int) := by omega
      have hK : 6 + f + k < l.length + 6 := by omega
      have hF : 6 + f ≤ 2006 := by omega
      generalize 6 + f + k = K at *
      generalize 6 + f = F at *
      go_wp2_with fail
      generalize ((List.range k).any fun j => t4 b0 b1 b2 b3 j != 0) = tv at *
      have hbk := HBX.out k hk4
      have hfz' : wr.drew.frozen? ⟨g, off + K, none⟩ = false := hfz
      have hx' : wr.drew.cell? ⟨g, off + K, none⟩ = some (.int .u8 (x.toNat : Int)) := hx
      cases tv
      · go_region
        all_goals go_wp2_with fail
        all_goals refine ⟨⟨k + 1, by go_num, by omega, by omega, ?_, HP.out, HBX.out, HBW.out⟩, by simp [intOf]; omega⟩
        all_goals rw [HANY.out, HNE.out, Bool.false_or]
      · go_region
        all_goals go_wp2_with fail
        all_goals refine ⟨⟨k + 1, by go_num, by omega, by omega, ?_, HP.out, HBX.out, HBW.out⟩, by simp [intOf]; omega⟩
        all_goals rw [HANY.out, Bool.true_or]
    · have hkk : k = 4 ∨ f + k = l.length := by omega
      have hone := one_any _ _ 0 wr hRow.1 (by rw [turnL_len _ _ _ _ (by rw [packL_len]; omega), packL_len]; omega)
      have hP3 := oneP_turned l f k (t4 b0 b1 b2 b3) h0 h1 hfk hk
      have hany : (∀ j, j < k → t4 b0 b1 b2 b3 j = 0) ↔ (List.range k).any (fun j => t4 b0 b1 b2 b3 j != 0) = false := by
        rw [List.any_eq_false]
        simp
      have hlen : (turnL (packL l) (6 + f) k (t4 b0 b1 b2 b3)).length = l.length + 6 := by rw [turnL_len _ _ _ _ (by rw [packL_len]; omega), packL_len]
      rw [hlen] at *
      generalize turnL (packL l) (6 + f) k (t4 b0 b1 b2 b3) = T at *
      generalize oneP T 0 = O at *
      obtain ⟨O1, O2, O3⟩ := O
      simp only at hP3 hone
      generalize ((List.range k).any fun j => t4 b0 b1 b2 b3 j != 0) = tv at *
      have hO : O3 = if tv = false then 0 else 5 := by rw [hP3]; simp only [hany]
      have HONE := Lib.hid hone
      have HBW := Lib.hid hbw
      have HO := Lib.hid hO
      clear hone hbw hbx hRow hP3 hany hlen HR HBOX HB2 hO hgo
      by_cases hk4 : k = 4
      · subst hk4
        clear hkk
        go_wp2_with fail
        refine HONE.out.mono ?_
        rintro e w5 ⟨v5, rfl, R5, b5⟩
        have HB5 := Lib.hid (HBW.out.trans (b5.mono HBW.out.size))
        obtain ⟨a5, k5, rfl, _⟩ := R5.1.shape
        clear R5 b5
        go_wp2_with fail
        refine (live_any w5).mono ?_
        rintro e w6 ⟨rfl, b6⟩
        have HB6 := Lib.hid (HB5.out.trans (b6.mono HB5.out.size))
        clear b6
        have hO := HO.out
        clear HO
        cases tv
        · rw [if_pos rfl] at hO
          subst hO
          go_wp2
          go_ret
          exact ⟨rfl, HB6.out⟩
        · rw [if_neg (by simp)] at hO
          subst hO
          go_wp2
          go_ret
          exact ⟨rfl, HB6.out⟩
      · have hkl : f + k = l.length := by omega
        have hlt6 : ¬ ((6 + f : Nat) : Int) + (k : Int) < (l.length : Int) + 6 := by omega
        clear hkk
        go_wp2_with fail
        refine HONE.out.mono ?_
        rintro e w5 ⟨v5, rfl, R5, b5⟩
        have HB5 := Lib.hid (HBW.out.trans (b5.mono HBW.out.size))
        obtain ⟨a5, k5, rfl, _⟩ := R5.1.shape
        clear R5 b5
        go_wp2_with fail
        refine (live_any w5).mono ?_
        rintro e w6 ⟨rfl, b6⟩
        have HB6 := Lib.hid (HB5.out.trans (b6.mono HB5.out.size))
        clear b6
        have hO := HO.out
        clear HO
        cases tv
        · rw [if_pos rfl] at hO
          subst hO
          go_wp2
          go_ret
          exact ⟨rfl, HB6.out⟩
        · rw [if_neg (by simp)] at hO
          subst hO
          go_wp2
          go_ret
          exact ⟨rfl, HB6.out⟩

theorem walk_turned (v : Value) (l : List UInt8) (i : Int) (b0 b1 b2 b3 : UInt8) (w : World) (hv : Byt w v l) :
    Calls Try.prog 8 #[v, .int .i64 i, .agg #[.int .u8 (b0.toNat : Int), .int .u8 (b1.toNat : Int), .int .u8 (b2.toNat : Int), .int .u8 (b3.toNat : Int)]] w fun e w' => e = .returned (.bool true) ∧ Below w.heap.size w w' := by
  by_cases h0 : l.length = 0
  · exact turned_bad v l i b0 b1 b2 b3 w hv (Or.inl h0)
  · by_cases h1 : 2000 < l.length
    · exact turned_bad v l i b0 b1 b2 b3 w hv (Or.inr h1)
    · exact turned_good v l i b0 b1 b2 b3 w hv h0 (by omega)
end Go.Proofs.Ytjlhcgimijcghaa
