/- Glob: what a row's list gives the walks; and a world for the witness that holds the library's tables. -/
import Derived.Test.YtnglmaebmabdcaaDoorCards
import Derived.Test.YtnglmaebmabdcaaDoorTie
import Derived.Test.YtnglmaebmabdcaaDoorQ7
import Derived.Lib.LaidU8T
import Derived.Lib.LaidTab
import Derived.Deep.DeepHandedRow
namespace Go.Proofs.YtnglmaebmabdcaaDoor
open Go.RowKit

theorem own : ownKnob Tryd.prog.godebug = none := by kernel_rfl
theorem env_of {l : List (String × DataW Unit)} {W : World} (_h : laidMetH Tryd.prog l W) (_hp : (l.filter fun x => x.2.handleName?.isSome) = [])
    (_h1 : ("unicode/utf8.first", Rows.laid_unicode_utf8_first) ∈ l) (_h2 : ("unicode/utf8.acceptRanges", Rows.laid_unicode_utf8_acceptRanges) ∈ l) (hsh : W.ShapedOpen Tryd.prog) : Ml W :=
  Tryd.laysM143.s1_3 W hsh

noncomputable def laidWorld (os : Os) : World :=
  let w0 := World.holding Tryd.prog os ⟨#[], #[], []⟩
  let put (h : Array Obj) (g : Nat) (cs : Array Value) : Array Obj := h.modify g fun
    | .cells _ t frozen => .cells cs t frozen
    | o => o
  let h1 := put w0.heap 1 (Lib.firstTab.map fun z => Value.int .u8 z).toArray
  let h2 := put h1 2 ((List.range 16).flatMap fun i => [Value.int .u8 (Lib.accLo i), Value.int .u8 (Lib.accHi i)]).toArray
  { w0 with heap := h2 }
end Go.Proofs.YtnglmaebmabdcaaDoor
