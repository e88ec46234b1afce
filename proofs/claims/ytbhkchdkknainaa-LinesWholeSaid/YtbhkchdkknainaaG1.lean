import Derived.Test.YtbhkchdkknainaaU3
import Derived.Deep.RegionHeld
namespace Go.Proofs.Ytbhkchdkknainaa
open Go.RowKit

/-- What a call's own row reads as, as a string, in every later world. -/
theorem conv_later {B : Nat} {w : World} {v : Value} {l : List UInt8} (h : Row B w v l) : ∀ wx, Below w.heap.size w wx → (convert 31 9 v).run Try.prog wx = .ok (.string ⟨l.toArray⟩) wx :=
  fun wx hb => run_byt_string (P := Try.prog) wx 31 9 5 Try.underlying31 Try.underlying5 Try.underlying9 (h.below hb).1

/-- Stuff and its reference behind w, both as one string. -/
theorem stuffs_at (a : Option Addr) (cap : Nat) (l : List UInt8) (w : World) (hv : Byt w (.slice a l.length cap) l) (hl : l.length ≤ 1073741824) (hM : Ml w) :
    (∀ w3, Below w.heap.size w w3 → Calls Try.prog 18 #[.slice a l.length cap] w3 fun e w' => ∃ v4, e = .returned v4 ∧ Below w.heap.size w w' ∧ (∀ wx, Below w'.heap.size w' wx → (convert 31 9 v4).run Try.prog wx = .ok (.string ⟨(stuffL l).toArray⟩) wx)) ∧
    (∀ w4, Below w.heap.size w w4 → Calls Try.prog 19 #[.slice a l.length cap] w4 fun e w' => ∃ v5, e = .returned v5 ∧ Below w.heap.size w w' ∧ Below w4.heap.size w4 w' ∧ (convert 31 9 v5).run Try.prog w' = .ok (.string ⟨(stuffL l).toArray⟩) w') := by
  constructor
  · intro w3 b3
    refine (stuff_any _ l w3 (hv.below b3) hl (hM.below b3 (Nat.le_refl _))).mono ?_
    rintro e w4 ⟨v4, rfl, R4, b4⟩
    exact ⟨v4, rfl, b3.trans (b4.mono b3.size), conv_later R4⟩
  · intro w4 b4
    have c5 := rstuff_any a cap l w4 (hv.below b4) hl
    rw [← stuff_eq] at c5
    refine c5.mono ?_
    rintro e w5 ⟨v5, rfl, R5, b5⟩
    exact ⟨v5, rfl, b4.trans (b5.mono b4.size), b5, conv_later R5 _ (Below.refl _ _)⟩

set_option maxHeartbeats 4000000 in
set_option maxRecDepth 100000 in
theorem walk_stuffs (v : Value) (l : List UInt8) (w : World) (hv : Byt w v l) (hl : l.length ≤ 1048576) (hM : Ml w) : Calls Try.prog 6 #[v] w fun e w' => e = .returned (.bool true) ∧ Below w.heap.size w w' := by
  obtain ⟨a, cap, rfl, hcap⟩ := hv.shape
  cases hu : unstL l with
  | none =>
    have c1 := unst_any a cap l w hv (by omega) hM
    rw [hu] at c1
    simp only at c1
    have hu2 := hu
    rw [unst_eq] at hu2
    have HU := Lib.hid hu2
    clear hu hu2
    go_enter Try.func6, Try.ntmps6
    go_wp2_with fail
    refine c1.mono ?_
    rintro e w1 ⟨b1, rfl⟩
    clear c1
    have c2 := runst_any a cap l w1 (hv.below b1) (by omega)
    rw [HU.out] at c2
    simp only at c2
    go_wp2_with fail
    refine c2.mono ?_
    rintro e w2 ⟨b2', rfl⟩
    have b2 := b1.trans (b2'.mono b1.size)
    have bd : Below w2.heap.size w2 w2.drew := ⟨rfl, rfl, rfl, Nat.le_refl _, fun _ _ => rfl⟩
    have cl : Calls Try.prog 10 #[] w2.drew fun e w' => e = .returned (.bool true) ∧ Below w2.heap.size w2 w' := (live_any w2.drew (hM.below (b2.trans (bd.mono b2.size)) (Nat.le_refl _))).mono fun e w' ⟨he, hb⟩ => ⟨he, bd.trans hb⟩
    obtain ⟨cs, cr⟩ := stuffs_at a cap l w2 (hv.below b2) (by omega) (hM.below b2 (Nat.le_refl _))
    have fin : ∀ wx, Below w2.heap.size w2 wx → Below w.heap.size w wx := fun wx h => b2.trans (h.mono b2.size)
    have P1 : ∀ wx, Below w2.heap.size w2 wx → (convert 31 9 (.slice none 0 0)).run Try.prog wx = .ok (.string ⟨#[]⟩) wx := conv_later (Row.nil 0 w2)
    have P2 := P1
    clear c2 hv hM b1 b2 b2'
    go_wp2_with fail
    go_region_held (fun wx => Below w2.heap.size w2 wx ∧ (convert 31 9 (.slice none 0 0)).run Try.prog wx = .ok (.string ⟨#[]⟩) wx ∧ (convert 31 9 (.slice none 0 0)).run Try.prog wx = .ok (.string ⟨#[]⟩) wx) (first | exact ⟨bd, P1 _ bd, P2 _ bd⟩ | exact ⟨b5, P1 _ b5, P2 _ b5⟩ | exact ⟨b4, P1 _ b4, P2 _ b4⟩ | exact ⟨b3, P1 _ b3, P2 _ b3⟩) (first
      | (go_at_call 10; refine cl.mono ?_; rintro e w3 ⟨rfl, b3⟩)
      | (go_at_call 18; refine (cs _ b3).mono ?_; rintro e w4 ⟨v4, rfl, b4, S4⟩; have cv4 := S4 _ (Below.refl _ _))
      | (go_at_call 19; refine (cr _ b4).mono ?_; rintro e w5 ⟨v5, rfl, b5, b45, cv5⟩; have cv4' := S4 _ b45))
    all_goals go_wp2
    all_goals go_ret
    all_goals exact ⟨rfl, fin _ b5⟩
  | some r =>
    obtain ⟨q, n⟩ := r
    have c1 := unst_any a cap l w hv (by omega) hM
    rw [hu] at c1
    simp only at c1
    have hu2 := hu
    rw [unst_eq] at hu2
    have HU := Lib.hid hu2
    clear hu hu2
    go_enter Try.func6, Try.ntmps6
    go_wp2_with fail
    refine c1.mono ?_
    rintro e w1 ⟨b1, v1, rfl, R1⟩
    clear c1
    have c2 := runst_any a cap l w1 (hv.below b1) (by omega)
    rw [HU.out] at c2
    simp only at c2
    go_wp2_with fail
    refine c2.mono ?_
    rintro e w2 ⟨b2', v2, rfl, R2⟩
    have b2 := b1.trans (b2'.mono b1.size)
    have bd : Below w2.heap.size w2 w2.drew := ⟨rfl, rfl, rfl, Nat.le_refl _, fun _ _ => rfl⟩
    have cl : Calls Try.prog 10 #[] w2.drew fun e w' => e = .returned (.bool true) ∧ Below w2.heap.size w2 w' := (live_any w2.drew (hM.below (b2.trans (bd.mono b2.size)) (Nat.le_refl _))).mono fun e w' ⟨he, hb⟩ => ⟨he, bd.trans hb⟩
    obtain ⟨cs, cr⟩ := stuffs_at a cap l w2 (hv.below b2) (by omega) (hM.below b2 (Nat.le_refl _))
    have fin : ∀ wx, Below w2.heap.size w2 wx → Below w.heap.size w wx := fun wx h => b2.trans (h.mono b2.size)
    have P1 := conv_later (R1.below b2')
    have P2 := conv_later R2
    clear R1 R2
    clear c2 hv hM b1 b2 b2'
    go_wp2_with fail
    go_region_held (fun wx => Below w2.heap.size w2 wx ∧ (convert 31 9 v1).run Try.prog wx = .ok (.string ⟨q.toArray⟩) wx ∧ (convert 31 9 v2).run Try.prog wx = .ok (.string ⟨q.toArray⟩) wx) (first | exact ⟨bd, P1 _ bd, P2 _ bd⟩ | exact ⟨b5, P1 _ b5, P2 _ b5⟩ | exact ⟨b4, P1 _ b4, P2 _ b4⟩ | exact ⟨b3, P1 _ b3, P2 _ b3⟩) (first
      | (go_at_call 10; refine cl.mono ?_; rintro e w3 ⟨rfl, b3⟩)
      | (go_at_call 18; refine (cs _ b3).mono ?_; rintro e w4 ⟨v4, rfl, b4, S4⟩; have cv4 := S4 _ (Below.refl _ _))
      | (go_at_call 19; refine (cr _ b4).mono ?_; rintro e w5 ⟨v5, rfl, b5, b45, cv5⟩; have cv4' := S4 _ b45))
    all_goals go_wp2
    all_goals go_ret
    all_goals exact ⟨rfl, fin _ b5⟩
end Go.Proofs.Ytbhkchdkknainaa
