/- Frame: Pack's refusals; Pack by the reference. -/
import Derived.Test.YtjlhcgimijcghaaF8
namespace Go.Proofs.Ytjlhcgimijcghaa
open Go Go.RowKit

theorem pack_none (v : Value) (l : List UInt8) (w : World) (hv : Byt w v l) (h0 : l.length = 0) :
    Calls Try.prog 12 #[v] w fun e w' => e = .returned (.tuple #[.slice none 0 0, .int .i64 2]) ∧ w' = w := by
  obtain ⟨a, c, rfl, hcap⟩ := hv.shape
  rw [h0]
  go_enter Try.func12, Try.ntmps12
  go_wp2
  go_ret2
  exact ⟨rfl, rfl⟩
theorem pack_long (v : Value) (l : List UInt8) (w : World) (hv : Byt w v l) (h0 : 2000 < l.length) :
    Calls Try.prog 12 #[v] w fun e w' => e = .returned (.tuple #[.slice none 0 0, .int .i64 6]) ∧ w' = w := by
  obtain ⟨a, c, rfl, hcap⟩ := hv.shape
  have h1 : ((l.length : Int) == 0) = false := by rw [beq_eq_false_iff_ne]; omega
  go_enter Try.func12, Try.ntmps12
  go_wp2
  go_ret2
  exact ⟨rfl, rfl⟩
theorem rpack_none (v : Value) (l : List UInt8) (w : World) (hv : Byt w v l) (h0 : l.length = 0) :
    Calls Try.prog 13 #[v] w fun e w' => e = .returned (.tuple #[.slice none 0 0, .int .i64 2]) ∧ w' = w := by
  obtain ⟨a, c, rfl, hcap⟩ := hv.shape
  rw [h0]
  go_enter Try.func13, Try.ntmps13
  go_wp2
  go_ret2
  exact ⟨rfl, rfl⟩
theorem rpack_long (v : Value) (l : List UInt8) (w : World) (hv : Byt w v l) (h0 : 2000 < l.length) :
    Calls Try.prog 13 #[v] w fun e w' => e = .returned (.tuple #[.slice none 0 0, .int .i64 6]) ∧ w' = w := by
  obtain ⟨a, c, rfl, hcap⟩ := hv.shape
  have h1 : ((l.length : Int) == 0) = false := by rw [beq_eq_false_iff_ne]; omega
  go_enter Try.func13, Try.ntmps13
  go_wp2
  go_ret2
  exact ⟨rfl, rfl⟩

theorem rowL_two (n : Nat) : rowL n 2 = [UInt8.ofNat (n / 256), UInt8.ofNat n] := by simp [rowL, rowB, List.range_succ]
theorem rowL_four (n : Nat) : rowL n 4 = [UInt8.ofNat (n / 16777216), UInt8.ofNat (n / 65536), UInt8.ofNat (n / 256), UInt8.ofNat n] := by simp [rowL, rowB, List.range_succ]
theorem Byt.grown {B : Nat} {w w' : World} {v x : Value} {l p : List UInt8} (h : Byt w x p) (hx : ∀ g, x.ownBlock = some g → g < B) (hv : Row B w v l) (hg : w.grownBy w' v.ownBlock) : Byt w' x p :=
  h.kept hg.size fun g hxg => hg.block g (h.lt g hxg) (fun e => by have := hv.own g e.symm; have := hx g hxg; omega)
theorem Row.grown {B C : Nat} {w w' : World} {v x : Value} {l p : List UInt8} (h : Row C w x p) (hx : ∀ g, x.ownBlock = some g → g < B) (hv : Row B w v l) (hg : w.grownBy w' v.ownBlock) : Row C w' x p :=
  h.kept hg.size fun g hxg => hg.block g (h.1.lt g hxg) (fun e => by have := hv.own g e.symm; have := hx g hxg; omega)
theorem below_grow {B : Nat} {a w w' : World} {v : Value} {l : List UInt8} (hb : Below B a w) (h : Row B w v l) (hB : B ≤ w.heap.size) (hg : w.grownBy w' v.ownBlock) : Below B a w' :=
  hb.grown hg hB fun k hk => h.own k hk
theorem Row.less {B C : Nat} {w : World} {v : Value} {l : List UInt8} (h : Row B w v l) (hC : C ≤ B) : Row C w v l :=
  ⟨h.1, fun ad n c hv => by
    obtain ⟨q1, q2⟩ := h.2 ad n c hv
    exact ⟨Nat.le_trans hC q1, q2⟩⟩

set_option maxHeartbeats 1000000 in
theorem rpack_any (v : Value) (l : List UInt8) (w : World) (hv : Byt w v l) (h0 : l.length ≠ 0) (hl : l.length ≤ 2000) :
    Calls Try.prog 13 #[v] w fun e w' => ∃ v', e = .returned (.tuple #[v', .int .i64 0]) ∧ Row w.heap.size w' v' (packL l) ∧ Below w.heap.size w w' := by
  have hlt := hv.lt
  obtain ⟨a, c, rfl, hcap⟩ := hv.shape
  have h1 : ((l.length : Int) == 0) = false := by rw [beq_eq_false_iff_ne]; omega
  have hbA : Below w.heap.size w (w.alloc (.cells #[.int .u8 ((l.length : Int) / 256), .int .u8 ((l.length : Int) % 256)] 5)) := (Below.refl _ w).alloc (Nat.le_refl _) _
  have hL := Row.made w 5 (rowL l.length 2) #[.int .u8 ((l.length : Int) / 256), .int .u8 ((l.length : Int) % 256)] (by
    rw [rowL_two]
    simp only [List.map_cons, List.map_nil, UInt8.toNat_ofNat']
    congr 2 <;> omega) (Nat.le_refl _) (by rw [rowL_len]; decide)
  rw [rowL_len] at hL
  have hsA : (w.alloc (.cells #[.int .u8 ((l.length : Int) / 256), .int .u8 ((l.length : Int) % 256)] 5)).heap.size = w.heap.size + 1 := by simp
  generalize hwA : w.alloc (.cells #[.int .u8 ((l.length : Int) / 256), .int .u8 ((l.length : Int) % 256)] 5) = wA at *
  have hE := Row.made wA 5 [] #[] rfl (Nat.le_refl _) (by decide)
  rw [hsA, List.length_nil] at hE
  have hbB := hbA.alloc hbA.size (.cells #[] 5)
  have hL2 := hL.below (w' := wA.alloc (.cells #[] 5)) ((Below.refl _ wA).alloc (Nat.le_refl _) _)
  obtain ⟨v1, w1, r1, R1, g1, _⟩ := app_row _ hE hL2.1 (by simp [hsA]) (by simp [rowL_len])
  rw [List.nil_append] at R1
  have hlL : ∀ g, (Value.slice (some ⟨w.heap.size, 0, none⟩) 2 2).ownBlock = some g → g < w.heap.size + 1 := fun g hg => by simp [Value.ownBlock] at hg; omega
  have hL3 := hL2.grown hlL hE g1
  have hb1 := below_grow hbB (hE.less (C := w.heap.size) (by omega)) hbB.size g1
  have hs1 := g1.size
  obtain ⟨v2, w2, r2, R2, g2, _⟩ := app_row w1 R1 (hv.below hb1) (by simp at hs1; omega) (by rw [rowL_len]; omega)
  have hL4 := hL3.grown hlL R1 g2
  have hb2 := below_grow hb1 (R1.less (C := w.heap.size) (by omega)) hb1.size g2
  have hsum := rsum_any v2 _ w2 R2.1 (by rw [List.length_append, rowL_len]; omega)
  have hcl := crcN_lt (rowL l.length 2 ++ l)
  have hpk : packL l = rowL l.length 2 ++ (rowL (crcN (rowL l.length 2 ++ l)) 4 ++ l) := rfl
  generalize crcN (rowL l.length 2 ++ l) = y at *
  have K1 := Lib.hid r1
  have K2 := Lib.hid r2
  have HSUM := Lib.hid hsum
  have HB2 := Lib.hid hb2
  have HL4 := Lib.hid hL4
  have HV := Lib.hid (hv.below hb2)
  have HPK := Lib.hid hpk
  clear r1 r2 hsum hb2 hL4 hpk hv hL3 hL2 hL hE hbB hb1 hbA R1 g1 R2 g2 hlL hs1
  subst hwA
  clear hsA
  go_enter Try.func13, Try.ntmps13
  go_wp2_with (at_builtin; first
    | (refine wpList_append_run _ rfl _ _ 22 22 rfl _ _ rfl rfl v1 w1 K1.out ?_)
    | (refine wpList_append_run _ rfl _ _ 22 22 rfl _ _ rfl rfl v2 w2 K2.out ?_))
  refine HSUM.out.mono ?_
  rintro e w3 ⟨rfl, hw3⟩
  subst hw3
  have HB3 := HB2.out
  have hN := Row.made w3 5 (rowL y 4) #[.int .u8 ((y : Int) / 16777216), .int .u8 ((y : Int) / 65536 % 256), .int .u8 ((y : Int) / 256 % 256), .int .u8 ((y : Int) % 256)] (by
    rw [rowL_four]
    simp only [List.map_cons, List.map_nil, UInt8.toNat_ofNat']
    congr 2 <;> omega) (Nat.le_refl _) (by rw [rowL_len]; decide)
  rw [rowL_len] at hN
  have hbN : Below w3.heap.size w3 (w3.alloc (.cells #[.int .u8 ((y : Int) / 16777216), .int .u8 ((y : Int) / 65536 % 256), .int .u8 ((y : Int) / 256 % 256), .int .u8 ((y : Int) % 256)] 5)) := (Below.refl _ w3).alloc (Nat.le_refl _) _
  have hb4 := HB3.trans (hbN.mono HB3.size)
  have hL5 := HL4.out.below hbN
  have hV5 := HV.out.below hbN
  obtain ⟨v4, w4, r4, R4, g4, _⟩ := app_row _ hL5 hN.1 hb4.size (by simp [rowL_len])
  have hb5 := below_grow hb4 hL5 hb4.size g4
  have hV6 := hV5.grown (B := w.heap.size) hlt hL5 g4
  obtain ⟨v6, w6, r6, R6, g6, _⟩ := app_row w4 R4 hV6 hb5.size (by simp [rowL_len]; omega)
  have hb6 := below_grow hb5 R4 hb5.size g6
  rw [List.append_assoc, ← HPK.out] at R6
  obtain ⟨a6, c6, rfl, hcap6⟩ := R6.1.shape
  have K4 := Lib.hid r4
  have K6 := Lib.hid r6
  have FIN := Lib.hid hb6
  have FR := Lib.hid R6
  clear r4 r6 hb6 R6 hcap6 hV6 hb5 R4 g4 g6 hV5 hL5 hb4 hbN hN HB3 HL4 HV HB2 HPK K1 HSUM hlt
  generalize (packL l).length = n6 at *
  go_wp2_with (at_builtin; first
    | (refine wpList_append_run _ rfl _ _ 22 22 rfl _ _ rfl rfl v4 w4 K4.out ?_)
    | (refine wpList_append_run _ rfl _ _ 22 22 rfl _ _ rfl rfl _ w6 K6.out ?_))
  go_ret2
  exact ⟨_, rfl, FR.out, FIN.out⟩
end Go.Proofs.Ytjlhcgimijcghaa
