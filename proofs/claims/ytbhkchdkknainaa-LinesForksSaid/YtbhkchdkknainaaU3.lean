import Derived.Test.YtbhkchdkknainaaU2
namespace Go.Proofs.Ytbhkchdkknainaa
open Go.RowKit

theorem Byt.made (w : World) (l : List UInt8) (C : Array Value) (n : Nat) (m : Nat × Nat) (hn : l.length = n) (hC : C.toList = l.map fun b => Value.int .u8 (b.toNat : Int)) : Byt (w.alloc (.cells C 5 m)) (.slice (some ⟨w.heap.size, 0, none⟩) n n) l := by
  subst hn
  refine ⟨_, _, rfl, Nat.le_refl _, (fun h => by cases h), fun ad had => ?_⟩
  injection had with had
  subst had
  refine ⟨w.heap.size, 0, rfl, by rw [World.size_alloc]; omega, fun j hj => ?_⟩
  rw [Nat.zero_add, World.cell?_alloc_mark, ← Array.getElem?_toList, hC, List.getElem?_map, List.getElem?_eq_getElem hj]
  rfl
theorem LB.to_below {B : Nat} {a w w' : World} {b : Nat} {v : Value} {l : List UInt8} (h : LB B w b v l) (hf : Fr (fun k => k = b ∨ v.ownBlock = some k) w w') (hb : Below B a w) (hB : B ≤ w.heap.size) : Below B a w' :=
  hf.to_below hb hB fun k hk => hk.elim (fun e => by rw [e]; exact h.own) (fun e => h.row.own k e)
theorem LB.to_below1 {B : Nat} {a w w' : World} {b : Nat} {v : Value} {l : List UInt8} (h : LB B w b v l) (hf : Fr (fun k => k = b) w w') (hb : Below B a w) (hB : B ≤ w.heap.size) : Below B a w' :=
  hf.to_below hb hB fun k hk => by rw [hk]; exact h.own
theorem LB.stay {B : Nat} {w w' : World} {b : Nat} {v : Value} {l : List UInt8} (h : LB B w b v l) (hb : Below w.heap.size w w') : LB B w' b v l :=
  h.fr (S := fun _ => False) (Fr.of_below hb) (fun e => e) (fun _ _ e => e)
theorem made_below (w : World) (C : Array Value) (m : Nat × Nat) : Below w.heap.size w (w.alloc (.cells C 5 m)) := (Below.refl _ w).alloc (Nat.le_refl _) _

set_option maxHeartbeats 1600000 in
set_option maxRecDepth 100000 in
theorem live_any (w : World) (hM : Ml w) : Calls Try.prog 10 #[] w fun e w' => e = .returned (.bool true) ∧ Below w.heap.size w w' := by
  have kc := fun (w : World) (C : Array Value) (n c : Nat) => Lib.run_convert_bytes_const (P := Try.prog) w 31 5 C n c Try.underlying31 Try.underlying5
  have h0 : 0 < w.heap.size := by obtain ⟨m, hm⟩ := hM; have := World.block_lt_of_cell? w _ hm; omega
  go_enter Try.func10, Try.ntmps10
  go_wp2_with fail
  refine (new_any w).mono ?_
  rintro e w1 ⟨rfl, L1, b1⟩
  have z1 := b1.size
  have M1 := hM.below b1 (Nat.le_refl _)
  go_wp2_with fail
  have m1 := made_below w1 #[.int .u8 97, .int .u8 98, .int .u8 13] (3, 4)
  have L1' := L1.stay m1
  have b1' := b1.trans (m1.mono z1)
  refine (feed_any _ L1' (Byt.made w1 [97, 98, 13] #[.int .u8 97, .int .u8 98, .int .u8 13] 3 (3, 4) rfl rfl) b1'.size (by decide) (by decide)).mono ?_
  rintro e w2 ⟨rfl, v2, L2, F2, O2⟩
  have b2 := L1'.to_below F2 b1' b1'.size
  have M2 := hM.below b2 (Nat.le_refl _)
  clear L1 L1' m1 b1' F2 O2 b1 M1
  go_wp2_with fail
  refine (line_short w2 L2 (by decide) M2 (by decide)).mono ?_
  rintro e w3 ⟨rfl, c3⟩
  have b3 := b2.trans (c3.mono b2.size)
  have L3 := L2.stay c3
  have z3 := b3.size
  clear L2 M2 b2 c3
  go_wp2_with fail
  have m3 := made_below w3 #[.int .u8 10, .int .u8 46, .int .u8 120, .int .u8 13, .int .u8 10, .int .u8 46, .int .u8 13, .int .u8 10] (8, 9)
  have L3' := L3.stay m3
  have b3' := b3.trans (m3.mono z3)
  refine (feed_any _ L3' (Byt.made w3 [10, 46, 120, 13, 10, 46, 13, 10] #[.int .u8 10, .int .u8 46, .int .u8 120, .int .u8 13, .int .u8 10, .int .u8 46, .int .u8 13, .int .u8 10] 8 (8, 9) rfl rfl) b3'.size (by decide) (by decide)).mono ?_
  rintro e w4 ⟨rfl, v4, L4, F4, O4⟩
  have b4 := L3'.to_below F4 b3' b3'.size
  have M4 := hM.below b4 (Nat.le_refl _)
  clear L3 L3' m3 b3' F4 O4 b3
  go_wp2_with fail
  refine (line_some w4 4 L4 (by decide) M4 (by decide)).mono ?_
  rintro e w5 ⟨rfl, v5, L5, O5, F5⟩
  have b5 := L4.to_below1 F5 b4 b4.size
  have M5 := hM.below b5 (Nat.le_refl _)
  clear L4 F5 O5 b4 M4
  have hV : lineV ([] ++ [97, 98, 13] ++ [10, 46, 120, 13, 10, 46, 13, 10]) 4 = .tuple #[.string ⟨#[97, 98]⟩, .int .i64 0] := by kernel_rfl
  rw [hV]
  clear hV
  go_wp2_with fail
  refine (body_some (p := [120, 13, 10]) w5 7 L5 (by decide) M5 (by decide)).mono ?_
  rintro e w6 ⟨t, v6, rfl, R6, L6, O6, F6⟩
  have b6 := L5.to_below1 F6 b5 b5.size
  have M6 := hM.below b6 (Nat.le_refl _)
  have z5 := b5.size
  clear L5 F6 O6 b5 M5
  have cv6 := run_byt_string (P := Try.prog) w6 31 9 5 Try.underlying31 Try.underlying5 Try.underlying9 R6.1
  go_wp2_with fail
  have L6' : LB w.heap.size w6 w.heap.size v6 [] := L6
  refine (wait_any w6 L6').mono ?_
  rintro e w7 ⟨rfl, rfl⟩
  go_wp2_with fail
  have m7 := made_below w7 #[.int .u8 46, .int .u8 97] (2, 3)
  have b7 := b6.trans (m7.mono b6.size)
  have hS := stuff_any _ [46, 97] _ (Byt.made w7 [46, 97] #[.int .u8 46, .int .u8 97] 2 (2, 3) rfl rfl) (by decide) (hM.below b7 (Nat.le_refl _))
  rw [show stuffL [46, 97] = [46, 46, 97, 13, 10, 46, 13, 10] by decide] at hS
  refine hS.mono ?_
  rintro e w8 ⟨v8, rfl, R8, b8⟩
  have cv8 := run_byt_string (P := Try.prog) w8 31 9 5 Try.underlying31 Try.underlying5 Try.underlying9 R8.1
  have b9 := b7.trans (b8.mono b7.size)
  go_wp2
  go_ret
  exact ⟨rfl, b9⟩
end Go.Proofs.Ytbhkchdkknainaa
