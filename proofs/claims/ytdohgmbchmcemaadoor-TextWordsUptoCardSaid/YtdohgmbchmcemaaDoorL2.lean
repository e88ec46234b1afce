import Derived.Test.YtdohgmbchmcemaaDoorW10
import Derived.Test.YtdohgmbchmcemaaDoorW11
import Derived.Test.YtdohgmbchmcemaaDoorW13
import Derived.Test.YtdohgmbchmcemaaDoorW14
namespace Go.Proofs.YtdohgmbchmcemaaDoor
open Go.RowKit

theorem Pows.below {w w' : World} (h : Pows w) (hb : Below w.heap.size w w') : Pows w' := by
  unfold Pows Lib.TabIs at *
  unfold World.var? at *
  cases hg : Tryd.prog.globalNamed "internal/strconv.uint64pow10" with
  | none => simp [hg] at h
  | some g =>
    simp only [hg, Option.bind_some] at h ⊢
    have hlt : g < w.heap.size := by
      rcases Nat.lt_or_ge g w.heap.size with h' | h'
      · exact h'
      · simp [Array.getElem?_eq_none h'] at h
    rw [hb.block g hlt]
    exact h

set_option maxHeartbeats 800000 in
theorem lawNumbers (s : ByteArray) (n : Int) (w : World) (hT : Tabs w) (hP : Pows w) (hs : s.size ≤ 4398046511104) :
    Calls Tryd.prog 5 #[.string s, .int .i64 n] w fun e w' => e = .returned (.bool true) ∧ Below w.heap.size w w' := by
  have h1 := number_any s w (by omega)
  unfold resN at h1
  go_enter Tryd.func5, Tryd.ntmps5
  go_wp2_with fail
  refine h1.mono ?_
  rintro e w1 ⟨rfl, b1⟩
  have h2 := refNumber s w1 (hT.below b1 (Nat.le_refl _)) hs
  unfold resN at h2
  clear h1
  go_wp2_with fail
  refine h2.mono ?_
  rintro e w2 ⟨rfl, b2⟩
  have b2 := b1.trans (b2.mono b1.size)
  have h3 := numberText_any n w2 (hP.below b2)
  unfold res2 at h3
  clear h2
  go_wp2_with fail
  refine h3.mono ?_
  rintro e w3 ⟨rfl, b3⟩
  have b3 := b2.trans (b3.mono b2.size)
  have h4 := refNumberText n w3
  unfold res2 at h4
  clear h3
  go_wp2_with fail
  refine h4.mono ?_
  rintro e w4 ⟨rfl, b4⟩
  have b4 := b3.trans (b4.mono b3.size)
  clear h4
  go_wp2_with fail
  refine (live_any w4 (hT.below b4 (Nat.le_refl _))).mono ?_
  rintro e w5 ⟨rfl, b5⟩
  have b5 := b4.trans (b5.mono b4.size)
  go_wp2
  go_ret
  exact ⟨ret_bool (by simp), b5⟩

set_option maxHeartbeats 800000 in
theorem lawAtoms (s : ByteArray) (w : World) (hT : Tabs w) (hs : s.size ≤ 9223372036854775807) :
    Calls Tryd.prog 7 #[.string s] w fun e w' => e = .returned (.bool true) ∧ Below w.heap.size w w' := by
  go_enter Tryd.func7, Tryd.ntmps7
  go_wp2_with fail
  refine (live_any w hT).mono ?_
  rintro e w1 ⟨rfl, b1⟩
  go_wp2_with fail
  refine (atom_any s _).mono ?_
  rintro e w2 ⟨rfl, b2⟩
  have b2 := b1.trans (b2.mono b1.size)
  go_wp2_with fail
  refine (refAtom s _ hs).mono ?_
  rintro e w3 ⟨rfl, b3⟩
  have b3 := b2.trans (b3.mono b2.size)
  go_wp2
  go_ret
  exact ⟨ret_bool (by simp), b3⟩

set_option maxHeartbeats 800000 in
theorem lawQuotes (s : ByteArray) (w : World) (hT : Tabs w) :
    Calls Tryd.prog 8 #[.string s] w fun e w' => e = .returned (.bool true) ∧ Below w.heap.size w w' := by
  have h1 := quote_any s w hT
  unfold res3 at h1
  go_enter Tryd.func8, Tryd.ntmps8
  go_wp2_with fail
  refine h1.mono ?_
  rintro e w1 ⟨rfl, b1⟩
  have h2 := refQuote s w1 (hT.below b1 (Nat.le_refl _))
  unfold res3 at h2
  clear h1
  go_wp2_with fail
  refine h2.mono ?_
  rintro e w2 ⟨rfl, b2⟩
  have b2 := b1.trans (b2.mono b1.size)
  clear h2
  go_wp2_with fail
  refine (live_any w2 (hT.below b2 (Nat.le_refl _))).mono ?_
  rintro e w5 ⟨rfl, b5⟩
  have b5 := b2.trans (b5.mono b2.size)
  go_wp2
  go_ret
  exact ⟨ret_bool (by simp), b5⟩

set_option maxHeartbeats 800000 in
theorem lawUnquotes (s : ByteArray) (w : World) (hT : Tabs w) (hs : s.size ≤ 4398046511104) :
    Calls Tryd.prog 9 #[.string s] w fun e w' => e = .returned (.bool true) ∧ Below w.heap.size w w' := by
  have h1 := unquote_any s w hT (by omega)
  unfold res3 at h1
  go_enter Tryd.func9, Tryd.ntmps9
  go_wp2_with fail
  refine h1.mono ?_
  rintro e w1 ⟨rfl, b1⟩
  have h2 := refUnquote s w1 (hT.below b1 (Nat.le_refl _)) hs
  unfold res3 at h2
  clear h1
  go_wp2_with fail
  refine h2.mono ?_
  rintro e w2 ⟨rfl, b2⟩
  have b2 := b1.trans (b2.mono b1.size)
  clear h2
  go_wp2_with fail
  refine (live_any w2 (hT.below b2 (Nat.le_refl _))).mono ?_
  rintro e w5 ⟨rfl, b5⟩
  have b5 := b2.trans (b5.mono b2.size)
  go_wp2
  go_ret
  exact ⟨ret_bool (by simp), b5⟩
end Go.Proofs.YtdohgmbchmcemaaDoor
