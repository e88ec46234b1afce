/- Coord: bytes that come in. -/
import Derived.Test.YtleghofpabdkhaaYO
namespace Go.Proofs.Ytleghofpabdkhaa
open Go.ChangeShapes Go.WideShapes Go.ChangeAt Go.RowKit Go.Deep Go.Joins
set_option maxRecDepth 100000 in
theorem open_bys {H : Type} {enc : TypeId × Value → H} {W : World} {base : Nat} {v : Value} {d : DataW H} {p : List MemPlace}
    (hval : Value.okWide Try.prog W .any base 34 v) (h0 : DataW.Trod enc Try.prog W 0 (fun _ => true) true 34 v d p) {Q : Prop} (_ : Q) : ∃ l, Byz W v l ∧ l.length ≤ 9223372036854775807 := by
  obtain ⟨a0, len0, cap0, rfl⟩ := okWide_slice Try.underlying34 hval
  obtain ⟨fuel, hf⟩ := h0
  exact byt_of (n := fuel) (x := (d, p)) (by simpa [Value.cells] using hf)
end Go.Proofs.Ytleghofpabdkhaa
