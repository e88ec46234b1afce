/- What is known of users, as a list by their bytes; where a user is. -/
import Derived.Test.YtbmdhhafmieapaaH2
namespace Go.Proofs.Ytbmdhhafmieapaa
open Go Go.RowKit Go.Maps

abbrev Known := List UInt8 × Int × Int
def entD (x : Known) : DataW Unit := .agg [.lit (.string x.1), .lit (.int .i64 x.2.1), .lit (.int .i64 x.2.2)]
def mapD (l : List Known) : DataW Unit := .map (l.map fun x => (.string x.1, entD x))
def findK (l : List Known) (u : List UInt8) : Option Known := l.find? fun x => x.1 == u
theorem same_str (a b : List UInt8) : (Lit.string a).sameKey (.string b) = (a == b) := rfl
theorem find_map (l : List Known) (u : List UInt8) : (l.map fun x : Known => ((Lit.string x.1, entD x) : Lit × DataW Unit)).find? (fun p => p.1.sameKey (.string u)) = (findK l u).map fun x => (.string x.1, entD x) := by
  unfold findK
  induction l with
  | nil => rfl
  | cons x t ih =>
    simp only [List.map_cons, List.find?_cons, same_str]
    cases x.1 == u with
    | true => rfl
    | false => exact ih
theorem at_mapD (l : List Known) (u : List UInt8) (z : DataW Unit) : (mapD l).atKey (.string u) z = match findK l u with | some x => entD x | none => z := by
  unfold mapD DataW.atKey
  simp only
  rw [find_map]
  cases findK l u <;> rfl
theorem seat_inv {v : Value} {ps : List MemPlace} {x : Known} (h : seatElem v = some (entD x, ps)) : v = .agg #[.string ⟨x.1.toArray⟩, .int .i64 x.2.1, .int .i64 x.2.2] := by
  cases v with
  | agg cs =>
    have h : seatCells cs.toList = some (entD x, ps) := h
    unfold seatCells at h
    split at h
    · rename_i u s e hcs
      injection h with h
      injection h with h1 h2
      unfold entD at h1
      injection h1 with h1
      injection h1 with a1 h1
      injection h1 with a2 h1
      injection h1 with a3 _
      injection a1 with a1
      injection a1 with a1
      injection a2 with a2
      injection a2 with _ a2
      injection a3 with a3
      injection a3 with _ a3
      have hc : cs = #[.string u, .int .i64 s, .int .i64 e] := by
        rw [← Array.toArray_toList (xs := cs), hcs]
      rw [hc, ← a1, ← a2, ← a3, Lib.mk_data]
    · cases h
  | _ => cases h
end Go.Proofs.Ytbmdhhafmieapaa
