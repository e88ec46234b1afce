/- Regions step by step: what is held may be said anew, if it says more. No program. -/
import Derived.Test.YtkkmjadkagpihaaDoorHH
namespace Go.Proofs.YtkkmjadkagpihaaDoor
open Go Go.RowKit
section
variable {P : Program} {ops : Array Oper} {Q : Exit → Act → World → Prop} {md : Region.Mode} {S S' : World → Prop}
theorem wpAnyH_str (hS : ∀ w, S' w → S w) : ∀ (fuel : Nat) (listed : Array Bool) (a : Act) (w : World), wpAnyH P md ops Q S' fuel listed a w → wpAnyH P md ops Q S fuel listed a w
  | 0, _, _, _, h => h
  | fuel + 1, _, _, _, h => ⟨h.1, fun i hi => wpOp_mono (fun a' w' h' => ⟨hS w' h'.1, wpAnyH_str hS fuel _ a' w' h'.2⟩) (h.2 i hi)⟩
/-- What is held: all that was below a world. -/
def Bl (W : World) : World → Prop := fun w => Below W.heap.size W w
theorem bl_refl (W : World) : Bl W W := Below.refl _ _
theorem Bl.trans {A B C : World} (h : Bl A B) (k : Bl B C) : Bl A C := Below.trans h (Below.mono k (Below.size h))
theorem wpAnyH_bl {W W' : World} (h : Bl W W') (fuel : Nat) (listed : Array Bool) (a : Act) (w : World) (k : wpAnyH P md ops Q (Bl W') fuel listed a w) : wpAnyH P md ops Q (Bl W) fuel listed a w :=
  wpAnyH_str (fun _ h' => h.trans h') fuel listed a w k
/-- A region begins. -/
theorem wp_held_bl {id : Nat} {a : Act} {w : World} (hm : P.follows .mixedOrders = true) (h : Bl w w.drew → wpAnyH P .any ops Q (Bl w) ops.size (Array.replicate ops.size false) a w.drew) : (Code.region id ops true).wp P Q a w :=
  wp_region_held_drew hm (Below.refl _ _).drew h
end
end Go.Proofs.YtkkmjadkagpihaaDoor
