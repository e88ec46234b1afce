/- Box: Check, Size: the code's. -/
import Derived.Test.YtjljbnilckkjnaaDoorBOpen
import Derived.Deep.QuietTactic
import Derived.BigQuiet
import Derived.Outline
namespace Go.Proofs.YtjljbnilckkjnaaDoor
open Go Go.RowKit

/-- The box's own block, as the call finds it. -/
def BoxAt (w : World) (b : Nat) (name : ByteArray) (valid next : Int) (sv : Value) : Prop :=
  w.cell? ⟨b, 0, none⟩ = some (.string name) ∧ w.cell? ⟨b, 1, none⟩ = some (.int .i64 valid) ∧ w.cell? ⟨b, 2, none⟩ = some (.int .i64 next) ∧ w.cell? ⟨b, 3, none⟩ = some sv
theorem BoxAt.new (w : World) (name : ByteArray) (valid next : Int) (sv : Value) (t : TypeId) : BoxAt (w.alloc (.cells #[.string name, .int .i64 valid, .int .i64 next, sv] t)) w.heap.size name valid next sv :=
  ⟨World.cell?_alloc_new _ _ _ _, World.cell?_alloc_new _ _ _ _, World.cell?_alloc_new _ _ _ _, World.cell?_alloc_new _ _ _ _⟩
theorem BoxAt.below {B b : Nat} {w w' : World} {name : ByteArray} {valid next : Int} {sv : Value} (h : BoxAt w b name valid next sv) (hb : Below B w w') (hg : b < B) : BoxAt w' b name valid next sv :=
  ⟨(hb.cell (p := ⟨b, 0, none⟩) hg).trans h.1, (hb.cell (p := ⟨b, 1, none⟩) hg).trans h.2.1, (hb.cell (p := ⟨b, 2, none⟩) hg).trans h.2.2.1, (hb.cell (p := ⟨b, 3, none⟩) hg).trans h.2.2.2⟩
theorem below_alloc {w w' : World} {ob : Obj} (hb : Below (w.heap.size + 1) (w.alloc ob) w') : Below w.heap.size w w' :=
  ((Below.refl w.heap.size w).alloc (Nat.le_refl _) ob).trans (hb.mono (by omega))

theorem isNum_yes (n : Int) (w : World) (h : ¬ badN n) : Calls Tryd.prog 79 #[.int .i64 n] w fun e w' => e = .returned (.bool true) ∧ w = w' := by
  unfold badN at h
  have h1 : 1 ≤ n := by omega
  have h2 : n ≤ 4294967295 := by omega
  clear h
  go_enter Tryd.func79, Tryd.ntmps79
  go_wp2
  go_ret
  exact ⟨rfl, rfl⟩
theorem isNum_no (n : Int) (w : World) (h : badN n) : Calls Tryd.prog 79 #[.int .i64 n] w fun e w' => e = .returned (.bool false) ∧ w = w' := by
  unfold badN at h
  by_cases h1 : 1 ≤ n
  · have h2 : ¬ n ≤ 4294967295 := by omega
    clear h
    go_enter Tryd.func79, Tryd.ntmps79
    go_wp2
    go_ret
    exact ⟨rfl, rfl⟩
  · clear h
    go_enter Tryd.func79, Tryd.ntmps79
    go_wp2
    go_ret
    exact ⟨rfl, rfl⟩

theorem ret_int {a b : Int} (h : a = b) : Ending.returned (.int .i64 a) = .returned (.int .i64 b) := by rw [h]
theorem drop_at {α : Type} {l : List α} {k : Nat} {x : α} (h : l[k]? = some x) : l.drop k = x :: l.drop (k + 1) := by
  obtain ⟨hk, rfl⟩ := List.getElem?_eq_some_iff.1 h
  exact List.drop_eq_getElem_cons hk

end Go.Proofs.YtjljbnilckkjnaaDoor
