/- Coord: what must be whatever is asked. -/
import Derived.Test.YtleghofpabdkhaaY10
import Derived.Test.YtleghofpabdkhaaY11
import Derived.Test.YtleghofpabdkhaaY18
import Derived.Test.YtleghofpabdkhaaY19
namespace Go.Proofs.Ytleghofpabdkhaa
open Go Go.RowKit

/-- The node of one's own, somewhere behind w. -/
def NdAt (w W : World) (p : Nat) (c : Cd) : Prop := ∃ sv, CdAt w.heap.size W p c sv ∧ Below w.heap.size w W
theorem NdAt.step {w W W' : World} {p : Nat} {c c' : Cd} {sv : Value} (h : CdAt w.heap.size W p c sv) (hb : Below w.heap.size w W) (ho : OpC w.heap.size W p sv c' W') : NdAt w W' p c' := by
  have := OpC.below h ho hb.size
  obtain ⟨sv', h1, _, _⟩ := ho
  exact ⟨sv', h1, hb.trans this⟩
theorem NdAt.below {w W W' : World} {p : Nat} {c : Cd} (h : NdAt w W p c) (hb : Below W.heap.size W W') : NdAt w W' p c := by
  obtain ⟨sv, h1, h2⟩ := h
  exact ⟨sv, h1.below hb, h2.trans (hb.mono h2.size)⟩
theorem cell_same {w w' : World} {b j : Nat} (h : w'.heap[b]? = w.heap[b]?) : w'.cell? ⟨b, j, none⟩ = w.cell? ⟨b, j, none⟩ := by unfold World.cell?; rw [h]
def lvX : Txn := ⟨7, 1, 1⟩
def lvC0 : Cd := ⟨7, 0, 1, []⟩
def lvC1 : Cd := ⟨7, 1, 1, []⟩
def lvC2 : Cd := ⟨7, 1, 2, [⟨lvX, ⟨true, true, false, false⟩, St4.none, false⟩]⟩
def lvC3 : Cd := ⟨7, 1, 2, [⟨lvX, ⟨true, true, false, false⟩, ⟨true, false, false, false⟩, false⟩]⟩
def lvC4 : Cd := ⟨7, 1, 2, [⟨lvX, ⟨true, true, false, false⟩, ⟨true, true, false, false⟩, false⟩]⟩
def lvC5 : Cd := ⟨7, 1, 2, [⟨lvX, ⟨true, true, false, false⟩, St4.none, true⟩]⟩
def lvL1 : List UInt8 := 1 :: num4 1
def lvL2 : List UInt8 := doneL 1 1 ⟨true, true, false, false⟩
theorem lv1 : lvC0.redo lvL1 = (0, lvC1) := by rfl
theorem lv2 : lvC1.begin [0, 1] = ((lvX, 0), lvC2) := by rfl
theorem lv3 : lvC2.vote lvX 0 true = (none, 0, lvC3) := by rfl
theorem lv4 : lvC3.vote lvX 1 true = (some lvL2, 0, lvC4) := by rfl
theorem lv5 : lvC4.ask lvX = 0 := by rfl
theorem lv6 : lvC4.redo lvL2 = (0, lvC5) := by rfl
theorem lv7 : lvC5.ask lvX = 1 := by rfl
theorem lv8 : (todoL lvC5.under).length = 2 := by rfl
theorem lv9 : lvX.eq ⟨7, 1, 1⟩ = true := by rfl
/-- The node, and a name in block b. -/
structure NdX (w W : World) (p b : Nat) (c : Cd) (sv : Value) : Prop where
  at_ : CdAt w.heap.size W p c sv
  bl : Below w.heap.size w W
  tx : TxAt W b lvX
  bp : b ≠ p
  ne : ∀ g, sv.ownBlock = some g → g ≠ b
theorem NdX.below {w W W' : World} {p b : Nat} {c : Cd} {sv : Value} (h : NdX w W p b c sv) (hb : Below W.heap.size W W') : NdX w W' p b c sv := ⟨h.at_.below hb, h.bl.trans (hb.mono h.bl.size), h.tx.below hb, h.bp, h.ne⟩
theorem NdX.step {w W W' : World} {p b : Nat} {c c' : Cd} {sv : Value} (h : NdX w W p b c sv) (ho : OpC w.heap.size W p sv c' W') : ∃ sv', NdX w W' p b c' sv' := by
  have hbb := OpC.below h.at_ ho h.bl.size
  obtain ⟨sv', h1, hf, h3⟩ := ho
  obtain ⟨y0, y1, y2, y3⟩ := h.tx
  have hfb := hf.block b y3 (fun e => by
    rcases e with e | e
    · exact h.bp e
    · exact h.ne _ e rfl)
  refine ⟨sv', h1, h.bl.trans hbb, ⟨by rw [← y0]; exact cell_same hfb, by rw [← y1]; exact cell_same hfb, by rw [← y2]; exact cell_same hfb, Nat.lt_of_lt_of_le y3 hf.size⟩, h.bp, fun g hg e => ?_⟩
  rcases h3 g hg with h4 | h4
  · exact h.ne g h4 e
  · omega
theorem lvrg3 : ∀ t ∈ lvC3.under, 0 ≤ t.tx.boot ∧ t.tx.boot ≤ 2147483648 ∧ 0 ≤ t.tx.n ∧ t.tx.n ≤ 2147483648 := by
  intro t ht
  simp only [lvC3, List.mem_cons, List.not_mem_nil, or_false] at ht
  subst ht
  simp only [lvX]
  omega
theorem lvrg : ∀ t ∈ lvC2.under, 0 ≤ t.tx.boot ∧ t.tx.boot ≤ 2147483648 ∧ 0 ≤ t.tx.n ∧ t.tx.n ≤ 2147483648 := by
  intro t ht
  simp only [lvC2, List.mem_cons, List.not_mem_nil, or_false] at ht
  subst ht
  simp only [lvX]
  omega
theorem two_ints (W : World) : Ints (W.alloc (.cells #[.int .i64 0, .int .i64 1] 3)) (.slice (some ⟨W.heap.size, 0, none⟩) 2 2) [0, 1] :=
  ⟨_, _, rfl, fun j x hj => ⟨W.heap.size, 0, rfl, by simp, by
    rw [Nat.zero_add]
    match j, hj with
    | 0, hj => cases hj; exact cell_of_row _ _ _ _ _ _ (heap_alloc_new W _)
    | 1, hj => cases hj; exact cell_of_row _ _ _ _ _ _ (heap_alloc_new W _)⟩⟩
set_option maxHeartbeats 32000000 in
set_option maxRecDepth 100000 in
theorem live_true (w : World) : Calls Try.prog 15 #[] w fun e w' => e = .returned (.bool true) ∧ Below w.heap.size w w' := by
  have HNEW := Lib.hid (new_any 7 (by decide) (by decide) w)
  obtain ⟨p, hp⟩ : ∃ p, w.heap.size = p := ⟨_, rfl⟩
  have HQ := Lib.hid (eq_tx lvX ⟨7, 1, 1⟩)
  go_enter Try.func15, Try.ntmps15
  go_wp2_with fail
  refine HNEW.out.mono ?_
  rintro e w1 ⟨rfl, h1, hb1⟩
  rw [hp]
  have hN1 : NdAt w w1 p lvC0 := ⟨_, by rw [← hp]; exact h1, hb1⟩
  clear h1 hb1 HNEW
  obtain ⟨sv1, hc1, hb1⟩ := hN1
  have HBT := Lib.hid (boot_any _ p w1 lvC0 sv1 hc1 (by show (0 : Int) ≤ 0; omega))
  have HC1 := Lib.hid (And.intro hc1 hb1)
  clear hc1 hb1
  go_wp2_with fail
  refine HBT.out.mono ?_
  rintro e w2 (⟨hbad, _⟩ | ⟨_, ra, rk, rfl, hrow, hb2⟩)
  · exact absurd hbad (by show ¬ (2147483647 : Int) ≤ 0; omega)
  have HRD := Lib.hid (redo_any w.heap.size p w2 lvC0 sv1 _ lvL1 (HC1.out.1.below hb2) (by have := hrow.1.z; exact this) (HC1.out.2.trans (hb2.mono HC1.out.2.size)).size (Nat.zero_le _) (by show (5 : Nat) ≤ 1000000; omega))
  have HC2 := Lib.hid (And.intro (HC1.out.1.below hb2) (HC1.out.2.trans (hb2.mono HC1.out.2.size)))
  clear HBT HC1 hrow hb2
  go_wp2_with fail
  refine HRD.out.mono ?_
  rintro e w3 ⟨rfl, ho⟩
  rw [lv1] at ho ⊢
  have hN3 := NdAt.step HC2.out.1 HC2.out.2 ho
  clear HRD HC2 ho
  obtain ⟨w4, hw4⟩ : ∃ w4, w3.alloc (.cells #[.int .i64 0, .int .i64 1] 3) = w4 := ⟨_, rfl⟩
  have hb34 : Below w3.heap.size w3 w4 := by rw [← hw4]; exact (Below.refl _ w3).alloc (Nat.le_refl _) _
  obtain ⟨sv4, hc4, hb4⟩ := hN3.below hb34
  have hbg := begin_any w.heap.size p w4 lvC1 sv4 _ [0, 1] hc4 (by rw [← hw4]; exact two_ints w3) hb4.size (by decide) (by decide) (by decide)
  unfold BegR at hbg
  rw [lv2] at hbg
  dsimp only at hbg
  have HBG := Lib.hid hbg
  have HW4 := Lib.hid hw4
  have HC4 := Lib.hid (And.intro hc4 hb4)
  clear hbg hw4 hb34 hc4 hb4 hN3
  go_wp2_with (first | rw [HW4.out])
  refine HBG.out.mono ?_
  rintro e w5 ⟨rfl, ho⟩
  have hN5 := NdAt.step HC4.out.1 HC4.out.2 ho
  obtain ⟨w6, hw6⟩ : ∃ w6, w5.alloc (.cells (txA lvX) 33) = w6 := ⟨_, rfl⟩
  have hb56 : Below w5.heap.size w5 w6 := by rw [← hw6]; exact (Below.refl _ w5).alloc (Nat.le_refl _) _
  have hx6 : TxAt w6 w5.heap.size lvX := by rw [← hw6]; exact txAt_new w5 lvX
  obtain ⟨sv5, hc5, hb5⟩ := hN5
  have hc6 := hc5.below hb56
  have hb6 := hb5.trans (hb56.mono hb5.size)
  have HX5 : Hid (CdAt w.heap.size w5 p lvC2 sv5 ∧ ∀ g, sv5.ownBlock = some g → g ≠ w5.heap.size) := Lib.hid ⟨hc5, fun g hg e => by have := (World.ownsRow.lt hc5.us g hg).2; omega⟩
  have hv := vote_any w.heap.size p w6 lvC2 sv5 lvX 0 true hc6 hb6.size (by show (1 : Nat) ≤ 1000; omega) lvrg
  rw [lv3] at hv
  unfold SayR txV at hv
  dsimp only at hv
  have HV := Lib.hid hv
  have HW6 := Lib.hid hw6
  have HX6 := Lib.hid (And.intro hx6 (And.intro hc6 hb6))
  obtain ⟨x0, x1, x2, _⟩ := hx6
  unfold txA at HW6
  unfold txV
  clear hv hw6 hb56 hc6 hb6 hc5 hb5 ho HBG HW4 HC4
  go_wp2_with (first | rw [HW6.out])
  refine HV.out.mono ?_
  rintro e w7 ⟨rfl, ho⟩
  have hN7 := NdAt.step HX6.out.2.1 HX6.out.2.2 ho
  have hne : w5.heap.size ≠ p := fun e => by have := HX5.out.1.lt; omega
  have hn6 : NdX w w6 p w5.heap.size lvC2 sv5 := ⟨HX6.out.2.1, HX6.out.2.2, HX6.out.1, hne, HX5.out.2⟩
  obtain ⟨sv7, hn7⟩ := hn6.step ho
  have H7 := Lib.hid hn7
  obtain ⟨b, hb⟩ : ∃ b, w5.heap.size = b := ⟨_, rfl⟩
  rw [hb] at H7 ⊢
  obtain ⟨x0, x1, x2, _⟩ := H7.out.tx
  have hv := vote_any w.heap.size p w7 lvC3 sv7 lvX 1 true H7.out.at_ H7.out.bl.size (by show (1 : Nat) ≤ 1000; omega) lvrg3
  rw [lv4] at hv
  unfold SayR txV at hv
  dsimp only at hv
  have HV := Lib.hid hv
  clear HX5 HX6 ho hN7 hne hn6 hn7 hv hb
  go_wp2_with fail
  refine HV.out.mono ?_
  rintro e w8 ⟨⟨ra2, rk2, rfl, hrow, -⟩, ho⟩
  obtain ⟨sv8, hn8⟩ := H7.out.step ho
  have H8 := Lib.hid hn8
  have hll : (lvL2.length : Nat) = 12 := rfl
  rw [hll] at hrow ⊢
  have HRW := Lib.hid hrow
  have hq := HQ.out
  rw [lv9] at hq
  obtain ⟨x0, x1, x2, _⟩ := H8.out.tx
  have hak := ask_any w.heap.size p w8 lvC4 sv8 lvX H8.out.at_ (by show (1 : Nat) ≤ 1000; omega)
  rw [lv5] at hak
  unfold txV at hak
  have HAK := Lib.hid hak
  clear HV ho hn8 hrow hak HQ H7
  go_wp2_with fail
  refine HAK.out.mono ?_
  rintro e w9 ⟨rfl, hb9⟩
  have H9 := Lib.hid (H8.out.below hb9)
  have hz : Byz w9 (.slice ra2 12 rk2) lvL2 := (HRW.out.1.z).below hb9
  have HRD := Lib.hid (redo_any w.heap.size p w9 lvC4 sv8 _ lvL2 H9.out.at_ hz H9.out.bl.size (by show (1 : Nat) ≤ 900; omega) (by show (12 : Nat) ≤ 1000000; omega))
  clear HAK x0 x1 x2 hb9 hz H8 HRW hq
  go_wp2_with fail
  refine HRD.out.mono ?_
  rintro e w10 ⟨rfl, ho⟩
  rw [lv6] at ho ⊢
  obtain ⟨sv10, hn10⟩ := H9.out.step ho
  have H10 := Lib.hid hn10
  obtain ⟨x0, x1, x2, _⟩ := H10.out.tx
  have hak := ask_any w.heap.size p w10 lvC5 sv10 lvX H10.out.at_ (by show (1 : Nat) ≤ 1000; omega)
  rw [lv7] at hak
  unfold txV at hak
  have HAK := Lib.hid hak
  clear HRD ho hn10 hak H9
  go_wp2_with fail
  refine HAK.out.mono ?_
  rintro e w11 ⟨rfl, hb11⟩
  have H11 := Lib.hid (H10.out.below hb11)
  have htd := todo_any w.heap.size p w11 lvC5 sv10 H11.out.at_ (by show (1 : Nat) ≤ 1000; omega)
  unfold TodoR at htd
  rw [lv8] at htd
  have HTD := Lib.hid htd
  clear HAK x0 x1 x2 hb11 htd H10
  go_wp2_with fail
  refine HTD.out.mono ?_
  rintro e w12 ⟨ta, tc, rfl, _, hb12⟩
  have HE := Lib.hid (H11.out.bl.trans (hb12.mono H11.out.bl.size))
  clear HTD hb12 H11
  go_wp2
  go_ret
  exact ⟨rfl, HE.out⟩
end Go.Proofs.Ytleghofpabdkhaa
