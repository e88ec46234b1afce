/- Box: BoxFlags, walked. -/
import Derived.Test.YtpmakbjchepkmaaBK4
import Derived.Test.YtpmakbjchepkmaaBM1
import Derived.Test.YtpmakbjchepkmaaBM2
namespace Go.Proofs.Ytpmakbjchepkmaa
open Go Go.RowKit

/-- A turn of the call's own in block b. -/
structure TurnW (w : World) (b : Nat) (u how : Int) (f : UInt8) : Prop where
  c0 : w.cell? ⟨b, 0, none⟩ = some (.int .i64 u)
  c1 : w.cell? ⟨b, 1, none⟩ = some (.int .i64 how)
  c2 : w.cell? ⟨b, 2, none⟩ = some (.int .u8 (f.toNat : Int))
theorem TurnW.below {w w' : World} {b : Nat} {u how : Int} {f : UInt8} {B : Nat} (h : TurnW w b u how f) (hb : Below B w w') (hg : b < B) : TurnW w' b u how f :=
  ⟨(hb.cell (p := ⟨b, 0, none⟩) hg).trans h.c0, (hb.cell (p := ⟨b, 1, none⟩) hg).trans h.c1, (hb.cell (p := ⟨b, 2, none⟩) hg).trans h.c2⟩
theorem TurnW.lt {w : World} {b : Nat} {u how : Int} {f : UInt8} (h : TurnW w b u how f) : b < w.heap.size := World.block_lt_of_cell? w _ h.c0
/-- Same, of boxes that are the same, told of an elder world. -/
theorem same_old {W0 W : World} (name : ByteArray) (valid next : Int) (sv tv : Value) (ps qs : List LV) (hb : Below W0.heap.size W0 W) (hp : Lets W sv ps) (hq : Lets W tv qs) (he : ps.map (·.1) = qs.map (·.1)) (hlen : ps.length ≤ 9223372036854775807) :
    Calls Try.prog 17 #[boxV name valid next sv, boxV name valid next tv] W fun e w' => e = .returned (.bool true) ∧ Below W0.heap.size W0 w' :=
  bring hb (same_yes name valid next sv tv ps qs W hp hq he hlen)

set_option maxHeartbeats 8000000 in
set_option maxRecDepth 100000 in
theorem walk_flags_bad (name : ByteArray) (valid next : Int) (sv : Value) (ps : List LV) (u how : Int) (fl : UInt8) (w : World) (h : BoxIn w name valid next sv ps) (hM : Ml w) (hE : flagE valid next (ps.map (·.1)) u how fl ≠ 0) :
    Calls Try.prog 7 #[boxV name valid next sv, turnV u how fl] w fun e w' => e = .returned (.bool true) ∧ Below w.heap.size w w' := by
  have hb0 : Below w.heap.size w ((w.alloc (.cells #[.string name, .int .i64 valid, .int .i64 next, sv] 24)).alloc (.cells #[.int .i64 u, .int .i64 how, .int .u8 (fl.toNat : Int)] 36)) := ((Below.refl _ w).alloc (Nat.le_refl _) _).alloc (by simp) _
  have hbx : BoxW ((w.alloc (.cells #[.string name, .int .i64 valid, .int .i64 next, sv] 24)).alloc (.cells #[.int .i64 u, .int .i64 how, .int .u8 (fl.toNat : Int)] 36)) w.heap.size name valid next sv :=
    (BoxW.new w name valid next sv 24).below ((Below.refl _ _).alloc (Nat.le_refl _) _) (by simp)
  have htn : TurnW ((w.alloc (.cells #[.string name, .int .i64 valid, .int .i64 next, sv] 24)).alloc (.cells #[.int .i64 u, .int .i64 how, .int .u8 (fl.toNat : Int)] 36)) (w.heap.size + 1) u how fl := by
    have a := fun j v (hj : (#[.int .i64 u, .int .i64 how, .int .u8 (fl.toNat : Int)] : Array Value)[j]? = some v) => (two_boxes w #[.string name, .int .i64 valid, .int .i64 next, sv] #[.int .i64 u, .int .i64 how, .int .u8 (fl.toNat : Int)] 24 36 j).2.trans hj
    exact ⟨a 0 _ rfl, a 1 _ rfl, a 2 _ rfl⟩
  obtain ⟨W0, hW0⟩ : ∃ W0, W0 = (w.alloc (.cells #[.string name, .int .i64 valid, .int .i64 next, sv] 24)).alloc (.cells #[.int .i64 u, .int .i64 how, .int .u8 (fl.toNat : Int)] 36) := ⟨_, rfl⟩
  rw [← hW0] at hb0 hbx htn
  have hl0 := h.lets.below hb0
  have hM0 := hM.below hb0
  have hlen := h.len
  have hf := (flag_lets name valid next sv ps u how fl W0 hl0 hlen).mono fun e w' ⟨h1, h2, _⟩ => (⟨h1, h2 hE⟩ : Below W0.heap.size W0 w' ∧ e = _)
  obtain ⟨sa, sc, rfl, _⟩ := h.lets.shape
  generalize flagE valid next (ps.map (·.1)) u how fl = E at *
  have hE1 : (E != 0) = true := by simpa using hE
  have hE2 : (E == 0) = false := by simpa using hE
  unfold boxV at hf ⊢
  unfold turnV
  have HF := Lib.hid hf
  have HMM := Lib.hid hM0
  have HB := Lib.hid hb0
  have HW := Lib.hid hW0
  obtain ⟨c0, c1, c2, c3, _⟩ := id hbx
  obtain ⟨d0, d1, d2⟩ := id htn
  clear hf hb0 hW0 hl0 hM0 hM h hbx htn hlen
  go_enter Try.func7, Try.ntmps7
  go_wp2_with (rw [← HW.out])
  refine HF.out.mono ?_
  rintro e w1 ⟨hb1, rfl⟩
  have hx1 := BoxW.new w1 ⟨#[]⟩ 0 0 (.slice none 0 0) 24
  have hy1 : Below w1.heap.size w1 (w1.alloc (.cells #[.string ⟨#[]⟩, .int .i64 0, .int .i64 0, .slice none 0 0] 24)) := (Below.refl _ w1).alloc (Nat.le_refl _) _
  obtain ⟨W1, hW1⟩ : ∃ W1, W1 = w1.alloc (.cells #[.string ⟨#[]⟩, .int .i64 0, .int .i64 0, .slice none 0 0] 24) := ⟨_, rfl⟩
  rw [← hW1] at hx1 hy1
  have HW1 := Lib.hid hW1
  have hb01 := hb1.trans (hy1.mono hb1.size)
  have HB1 := Lib.hid hb01
  obtain ⟨e0, e1, e2, e3, _⟩ := id hx1
  have HX1 := Lib.hid hx1
  unfold boxV0 boxV
  have hM1 := HMM.out.below hb01
  have HL1 := Lib.hid (fun W hb => bring (W := W) (W0 := W1) hb (live_any W (hM1.below hb)))
  have HK := Lib.hid (fun wx (hb : Below W1.heap.size W1 wx) => (box_reads (t := 24) hx1 wx hb).2.2.2)
  clear hE hb1 hW1 hx1 hy1 hb01 hM1 HMM
  go_wp2_with fail
  rw [← HW1.out]
  refine (HL1.out _ (by first | exact Below.refl _ _ | exact (Below.refl _ _).drew)).mono ?_
  rintro e wn ⟨rfl, hBn⟩
  have hk := HK.out wn hBn
  clear e0 e1 e2 e3 d0 d1 d2 c0 c1 c2 c3
  go_wp2
  go_ret
  exact ⟨ret_bool (by simp), HB.out.trans ((HB1.out.trans (hBn.mono HB1.out.size)).mono HB.out.size)⟩

/-- Flag, where it goes well: its box, laid into a block of its own. -/
theorem flag_good (name : ByteArray) (valid next : Int) (a0 : Option Addr) (c0 n : Nat) (qs : List LV) (u how : Int) (fl : UInt8) (W : World) (h : Lets W (.slice a0 n c0) qs) (hn : qs.length = n) (hlen : n ≤ 32) (hE : flagE valid next (qs.map (·.1)) u how fl = 0) :
    Calls Try.prog 18 #[.agg #[.string name, .int .i64 valid, .int .i64 next, .slice a0 n c0], .int .i64 u, .int .i64 how, .int .u8 (fl.toNat : Int)] W fun e w' => ∃ (a : Option Addr) (c : Nat) (rs : List LV) (W' : World), e = .returned (.tuple #[.agg #[.string name, .int .i64 valid, .int .i64 next, .slice a n c], .int .i64 0]) ∧
      W' = w'.alloc (.cells #[.string name, .int .i64 valid, .int .i64 next, .slice a n c] 24) ∧
      rs.length = n ∧ rs.map (·.1) = flagL (qs.map (·.1)) u how fl ∧ BoxW W' w'.heap.size name valid next (.slice a n c) ∧ Lets W' (.slice a n c) rs ∧ Below W.heap.size W W' ∧ W.heap.size ≤ w'.heap.size := by
  refine (flag_lets name valid next (.slice a0 n c0) qs u how fl W h (by omega)).mono ?_
  rintro e w' ⟨hb, _, h3⟩
  obtain ⟨a, c, rs, rfl, hl, hq⟩ := h3 hE
  have hrn : rs.length = n := by have := congrArg List.length hq; rw [flag_len, List.length_map, List.length_map] at this; omega
  rw [hrn] at hl
  have hx := BoxW.new w' name valid next (.slice a n c) 24
  have hy : Below w'.heap.size w' (w'.alloc (.cells #[.string name, .int .i64 valid, .int .i64 next, .slice a n c] 24)) := (Below.refl _ w').alloc (Nat.le_refl _) _
  exact ⟨a, c, rs, _, by rw [hrn]; rfl, rfl, hrn, hq, hx, hl.below hy, hb.trans (hy.mono hb.size), hb.size⟩
end Go.Proofs.Ytpmakbjchepkmaa
