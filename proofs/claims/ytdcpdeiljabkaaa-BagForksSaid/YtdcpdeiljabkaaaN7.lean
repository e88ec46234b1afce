/- Bag: live. -/
import Derived.Test.YtdcpdeiljabkaaaN6
import Derived.Lib.SlBytesConst
namespace Go.Proofs.Ytdcpdeiljabkaaa
open Go Go.RowKit

def x0 : Und := ⟨1, 2, [120]⟩
theorem add_x0 : (Bg.mk 2 0 []).add x0 = (0, ⟨2, 0, [x0]⟩) := by rfl
theorem OpS.below {B p : Nat} {w w' : World} {b' : Bg} {sv : Value} {ps : List UV} {N : Nat} (h : OpS B w p sv ps b' w') (hp : N ≤ p) (hs : ∀ g, sv.ownBlock = some g → N ≤ g) (hN : N ≤ w.heap.size) : Below N w w' := by
  obtain ⟨_, _, _, hf, _⟩ := h
  exact hf.below hN (fun k e => by rcases e with rfl | e; exact hp; exact hs k e)
theorem OpR.below {B p : Nat} {w w' : World} {b' : Bg} {sv : Value} {ps : List UV} {N : Nat} (h : OpR B w p sv ps b' w') (hp : N ≤ p) (hs : ∀ g, sv.ownBlock = some g → N ≤ g) (hN : N ≤ w.heap.size) : Below N w w' := by
  obtain ⟨_, _, _, hf, _⟩ := h
  exact hf.below hN (fun k e => by rcases e with rfl | e; exact hp; exact hs k e)
theorem lit_x (w : World) (fr : Nat × Nat) : Byz (w.alloc (.cells #[.int .u8 120] 5 fr)) (.slice (some ⟨w.heap.size, 0, none⟩) 1 1) [120] := by
  refine Byt.z ⟨some ⟨w.heap.size, 0, none⟩, 1, rfl, Nat.le_refl _, (fun h => by cases h), fun ad had => ?_⟩
  injection had with had
  subst had
  refine ⟨w.heap.size, 0, rfl, by simp, fun j hj => ?_⟩
  rw [Nat.zero_add, cell_of_row _ _ _ _ _ _ (heap_alloc_last w _)]
  match j, hj with
  | 0, _ => rfl
set_option maxHeartbeats 8000000 in
set_option maxRecDepth 100000 in
theorem live_any (w : World) : Calls Try.prog 8 #[] w fun e w' => e = .returned (.bool true) ∧ Below w.heap.size w w' := by
  have HNEW := Lib.hid (new_any w.heap.size 2 w (by omega) (by omega) (Nat.le_refl _))
  rw [show ((2 : Nat) : Int) = 2 from rfl] at HNEW
  go_enter Try.func8, Try.ntmps8
  go_wp2_with fail
  refine HNEW.out.mono ?_
  rintro e w1 ⟨rfl, hB1, hb1⟩
  clear HNEW
  obtain ⟨P, hP⟩ : ∃ P, w.heap.size = P := ⟨_, rfl⟩
  have hbs1 := hb1.size
  have HPE := Lib.hid hP
  rw [hP] at hB1 ⊢
  rw [hP] at hb1
  obtain ⟨W2, hW2⟩ : ∃ W2, w1.alloc (.cells #[.int .u8 120] 5 (1, 2)) = W2 := ⟨_, rfl⟩
  have hb2 : Below w1.heap.size w1 W2 := by rw [← hW2]; exact (Below.refl _ w1).alloc (Nat.le_refl _) _
  have hr2 : Byz W2 (.slice (some ⟨w1.heap.size, 0, none⟩) 1 1) [120] := by rw [← hW2]; exact lit_x w1 _
  have kc : (convert 32 32 (.slice (some ⟨w1.heap.size, 0, none⟩) 1 1)).run Try.prog (w1.alloc (.cells #[.int .u8 120] 5)) = .ok (.slice (some ⟨w1.heap.size, 0, none⟩) 1 1) W2 := by rw [← hW2]; exact Lib.run_convert_bytes_const (P := Try.prog) w1 32 5 #[.int .u8 120] 1 1 Try.underlying32 Try.underlying5
  have hB2 := hB1.below hb2
  have HADD := Lib.hid (add_any P P W2 ⟨2, 0, []⟩ _ [] x0 _ hB2 hr2 (by decide) (by decide) (by decide) (by decide))
  have HBW2 := Lib.hid (hb1.trans (hb2.mono (by rw [← hP]; exact hbs1)))
  unfold AddR at HADD
  rw [add_x0] at HADD
  have hx : ∀ pv, (Value.agg #[.int .i64 x0.src, .int .i64 x0.dst, pv]) = .agg #[.int .i64 1, .int .i64 2, pv] := fun _ => rfl
  rw [hx] at HADD
  clear hb2 hr2 hB2 hB1 hb1 hW2 hx hbs1 hP
  go_wp2_with fail
  refine HADD.out.mono ?_
  rintro e w3 ⟨rfl, hop⟩
  have hbel3 := hop.below (N := P) (Nat.le_refl _) (fun g e => by simp [Value.ownBlock] at e) (by have h5 := HBW2.out.size; have h6 := HPE.out; omega)
  obtain ⟨sv3, ps3, hB3, -, -⟩ := hop
  have HB3 := Lib.hid hB3
  have HBW3 := Lib.hid (HBW2.out.trans hbel3)
  have HTK := Lib.hid (take_any P P w3 ⟨2, 0, [x0]⟩ sv3 ps3 0 true hB3 (by decide) (fun x hx => by rw [List.mem_singleton.1 hx]; decide))
  clear hbel3 hB3 HADD HBW2
  go_wp2_with fail
  refine HTK.out.mono ?_
  rintro e w4 (⟨hno, -, -⟩ | ⟨x, a, c, -, hx, rfl, hr4, hop⟩)
  · cases hno
  rw [if_pos rfl] at hop
  have hxe : x = x0 := by
    have : (some x0 : Option Und) = some x := hx
    injection this with this
    exact this.symm
  subst hxe
  have hbel4 := hop.below (N := P) (Nat.le_refl _) (fun g e => (HB3.out.us.has g (Or.inl e)).1) (by have h5 := HBW3.out.size; have h6 := HPE.out; omega)
  obtain ⟨sv4, ps4, hB4, -, -⟩ := hop
  obtain ⟨W5, hW5⟩ : ∃ W5, w4.alloc (.cells #[.int .i64 1, .int .i64 2, .slice a 1 c] 34) = W5 := ⟨_, rfl⟩
  have hb5 : Below w4.heap.size w4 W5 := by rw [← hW5]; exact (Below.refl _ w4).alloc (Nat.le_refl _) _
  have hrow5 : W5.heap[w4.heap.size]? = some (.cells #[.int .i64 1, .int .i64 2, .slice a 1 c] 34 (0, 0)) := by rw [← hW5]; exact heap_alloc_new w4 _
  have hB5 := hB4.below hb5
  have HF := Lib.hid (first_any P P W5 ⟨2, 0, [x0]⟩ sv4 ps4 2 hB5 (by decide))
  have HL := Lib.hid (len_any P P W5 ⟨2, 0, [x0]⟩ sv4 ps4 hB5)
  have hcv := run_byz_string W5 _ _ 5 Try.underlying32 Try.underlying5 Try.underlying9 (hr4.below hb5).1.z
  have d0 : W5.cell? ⟨w4.heap.size, 0, none⟩ = some (.int .i64 1) := cell_of_row _ _ _ _ _ _ hrow5
  have d1 : W5.cell? ⟨w4.heap.size, 1, none⟩ = some (.int .i64 2) := cell_of_row _ _ _ _ _ _ hrow5
  have d2 : W5.cell? ⟨w4.heap.size, 2, none⟩ = some (.slice a 1 c) := cell_of_row _ _ _ _ _ _ hrow5
  have HBW5 := Lib.hid ((HBW3.out.trans hbel4).trans (hb5.mono (by have h5 := (HBW3.out.trans hbel4).size; have h6 := HPE.out; omega)))
  have HW5 := Lib.hid hW5
  rw [show firstF 2 0 (Bg.mk 2 0 [x0]).us = (0, true) from rfl] at HF
  rw [show (((Bg.mk 2 0 [x0]).us.length : Nat) : Int) = 1 from rfl] at HL
  have hx1 : x0.src = 1 := rfl
  have hx2 : x0.dst = 2 := rfl
  have hx3 : x0.bytes.length = 1 := rfl
  have hx4 : x0.bytes = [120] := rfl
  rw [hx1, hx2, hx3]
  rw [hx3, hx4] at hcv
  clear hx hr4 hbel4 hB4 hb5 hrow5 hB5 hW5 HTK HB3 HBW3 hx1 hx2 hx3 hx4
  go_wp2_with (first | rw [HW5.out])
  refine HF.out.mono ?_
  rintro e w6 ⟨rfl, rfl⟩
  clear HF
  go_wp2_with fail
  refine HL.out.mono ?_
  rintro e w6 ⟨rfl, rfl⟩
  clear HL
  go_wp2
  go_ret
  exact ⟨ret_bool (by simp), by rw [HPE.out]; exact HBW5.out⟩
end Go.Proofs.Ytdcpdeiljabkaaa
