/- A map of seats: made. -/
import Derived.Test.YtbmdhhafmieapaaH1
import Derived.Maps.Own
import Derived.Maps.OwnOps
import Derived.Maps.OwnSet
import Derived.Deep.RegionHeld3
import Derived.Deep.QuietTactic
import Derived.BigQuiet
namespace Go.Proofs.Ytbmdhhafmieapaa
open Go Go.RowKit Go.Maps

/-- How a seat reads. -/
def seatCells : List Value → Option (DataW Unit × List MemPlace)
  | [.string u, .int .i64 s, .int .i64 e] => some (.agg [.lit (.string u.data.toList), .lit (.int .i64 s), .lit (.int .i64 e)], [])
  | _ => none
def seatElem : Value → Option (DataW Unit × List MemPlace)
  | .agg cs => seatCells cs.toList
  | _ => none
theorem keyS : Keyed Try.prog 9 := string_keyed Try.underlying9

/-- Block p holds a map of seats: so many shards, and a map in block b that reads as D. -/
structure IsMap (w : World) (p b : Nat) (n : Int) (k : Nat) (D : DataW Unit) : Prop where
  c0 : w.cell? ⟨p, 0, none⟩ = some (.int .i64 n)
  c1 : w.cell? ⟨p, 1, none⟩ = some (.map (some b))
  own : w.ownsMap Try.prog 9 seatElem b k D
  ne : b < p

set_option maxHeartbeats 1000000 in
theorem new_any (n : Int) (w : World) (hn : 1 ≤ n ∧ n ≤ 4) :
    Calls Try.prog 16 #[.int .i64 n] w fun e w' => e = .returned (.tuple #[.pointer (some ⟨w.heap.size + 1, 0, none⟩), .int .i64 0]) ∧ Below w.heap.size w w' ∧ w'.heap.size = w.heap.size + 2 ∧ IsMap w' (w.heap.size + 1) w.heap.size n 0 (.map []) := by
  have hR := right_any n w
  rw [decide_eq_true hn] at hR
  have hmm := @run_makeMap Try.prog
  clear hn
  go_enter Try.func16, Try.ntmps16
  go_wp2_with (go_at_call 23; refine hR.mono ?_; rintro e w' ⟨rfl, rfl⟩)
  exact bodyPost_ret (v := .tuple #[.pointer (some ⟨w.heap.size + 1, 0, none⟩), .int .i64 0]) (by simp [results, Try.results16, go_sem]) rfl ⟨rfl, ((Below.refl _ w).alloc (Nat.le_refl _) _).alloc (by simp) _, by simp, ⟨by simp, by simp, (World.ownsMap_made w _ _ _).alloc _, by omega⟩⟩
end Go.Proofs.Ytbmdhhafmieapaa
