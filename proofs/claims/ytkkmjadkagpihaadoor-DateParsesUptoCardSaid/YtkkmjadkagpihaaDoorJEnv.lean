/- Date: what a row's list gives the walks: the library's tables; and a world for the witness that holds them. -/
import Derived.Test.YtkkmjadkagpihaaDoorCards
import Derived.Test.YtkkmjadkagpihaaDoorTie
import Derived.Test.YtkkmjadkagpihaaDoorJ25
import Derived.Lib.LaidU8T
import Derived.Lib.LaidTab
import Derived.Deep.DeepHandedRow
namespace Go.Proofs.YtkkmjadkagpihaaDoor
open Go Go.RowKit

theorem own : ownKnob Tryd.prog.godebug = none := by kernel_rfl
theorem laid_plain {P : Program} {l : List (String × DataW Unit)} {W : World} (h : laidMetH P l W) (hp : (l.filter fun x => x.2.handleName?.isSome) = []) : laidMet P l W := by
  unfold laidMetH at h
  rw [hp] at h
  exact h
theorem pow_is : (Rows.laid_internal_strconv_uint64pow10 : DataW Unit) = Lib.tabData .u64 Lib.pow10Tab := by kernel_rfl
theorem pows_of {l : List (String × DataW Unit)} {W : World} (h : laidMetH Tryd.prog l W) (hp : (l.filter fun x => x.2.handleName?.isSome) = [])
    (h1 : ("internal/strconv.uint64pow10", Rows.laid_internal_strconv_uint64pow10) ∈ l) : Pows W := by
  have h := laid_plain h hp
  rw [pow_is] at h1
  obtain ⟨g, t, cs, fuel, p, hg, hty, hvar, hd⟩ := Lib.laidMet.reads h h1
  have hg' : Tryd.prog.globalNamed "internal/strconv.uint64pow10" = some 3 := by kernel_rfl
  obtain rfl := Option.some.inj (hg'.symm.trans hg)
  have hty' : (Tryd.prog.globals[3]?).map (·.type) = some 118 := by kernel_rfl
  obtain rfl := Option.some.inj (hty'.symm.trans hty)
  unfold Pows Lib.TabIs
  rw [hvar, ← Lib.cells_of_tab Tryd.underlying118 Tryd.underlying105 (by kernel_rfl) (by kernel_rfl) hd]
theorem env_of {l : List (String × DataW Unit)} {W : World} (h : laidMetH Tryd.prog l W) (hp : (l.filter fun x => x.2.handleName?.isSome) = [])
    (h1 : ("internal/strconv.uint64pow10", Rows.laid_internal_strconv_uint64pow10) ∈ l) (hsh : W.ShapedOpen Tryd.prog) : Env W :=
  ⟨Tryd.laysM143.s1_3 W hsh, pows_of h hp h1⟩
theorem int_of {x : Int} (h : (Lit.int .i64 x).wf = true) : -9223372036854775808 ≤ x ∧ x ≤ 9223372036854775807 := by
  have h1 : IntKind.i64.min = -9223372036854775808 := rfl
  have h2 : IntKind.i64.max = 9223372036854775807 := rfl
  simp only [Lit.wf, Bool.and_eq_true, decide_eq_true_eq] at h
  omega
def numCells (d : DataW Unit) : List Value := match d with
  | .agg l => l.map fun | .lit (.int k n) => Value.int k n | .agg _ => Value.bool false | _ => Value.bool false
  | _ => []
def pairCells (d : DataW Unit) : List Value := match d with
  | .agg l => l.flatMap fun | .agg m => m.map (fun | .lit (.int k n) => Value.int k n | _ => Value.bool false) | _ => []
  | _ => []
noncomputable def laidWorld (os : Os) : World :=
  let w0 := World.holding Tryd.prog os ⟨#[], #[], []⟩
  let put (h : Array Obj) (g : Nat) (cs : Array Value) : Array Obj := h.modify g fun
    | .cells _ t frozen => .cells cs t frozen
    | o => o
  let h1 := put w0.heap 3 (numCells Rows.laid_internal_strconv_uint64pow10).toArray
  let h2 := put h1 4 (numCells Rows.laid_math_bits_deBruijn32tab).toArray
  let h3 := put h2 5 (numCells Rows.laid_math_bits_deBruijn64tab).toArray
  let h4 := put h3 1 (numCells Rows.laid_unicode_utf8_first).toArray
  let h5 := put h4 2 (pairCells Rows.laid_unicode_utf8_acceptRanges).toArray
  { w0 with heap := h5 }
end Go.Proofs.YtkkmjadkagpihaaDoor
