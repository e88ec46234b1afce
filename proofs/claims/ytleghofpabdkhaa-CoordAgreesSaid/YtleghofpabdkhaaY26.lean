/- Coord: names in a list of one's own. -/
import Derived.Test.YtleghofpabdkhaaY11
namespace Go.Proofs.Ytleghofpabdkhaa
open Go Go.RowKit

def cellsX (x : Txn) : List Value := [.int .i64 x.node, .int .i64 x.boot, .int .i64 x.n]
def TxsAt (B : Nat) (w : World) (v : Value) (xs : List Txn) : Prop := w.ownsRow B 33 3 v xs.length (xs.flatMap cellsX)
theorem infoTx3 : (Try.prog.info? 33).map (fun i => (i.zero, i.size, i.bytes)) = some (some (.agg #[.int .i64 0, .int .i64 0, .int .i64 0]), 3, 24) := by kernel_rfl
theorem TxsAt.nil (B : Nat) (w : World) : TxsAt B w (.slice none 0 0) [] := ⟨rfl, Or.inl ⟨rfl, rfl⟩⟩
theorem TxsAt.at {B : Nat} {w : World} {v : Value} {xs : List Txn} (h : TxsAt B w v xs) (i : Nat) (t : Txn) (hi : xs[i]? = some t) :
    ∃ g c, v = .slice (some ⟨g, 0, none⟩) xs.length c ∧ g < w.heap.size ∧ B ≤ g ∧ w.rangeAt g (i * 3) (cellsX t) := by
  rcases h.2 with ⟨_, h0⟩ | ⟨g, cap, cur, e, hb, hg, _⟩
  · rw [List.eq_nil_of_length_eq_zero h0] at hi; cases hi
  · refine ⟨g, cap, e, (Array.getElem?_eq_some_iff.1 hg).1, hb, fun j u hj => ?_⟩
    have := World.ownsRow.cells h (g := g) (by rw [e]; rfl) _ u (flat_at cellsX 3 xs i (fun _ _ => rfl) t hi j u hj)
    rwa [addr_plus, Nat.zero_add] at this
/-- append of one name. -/
theorem appX (B : Nat) (w : World) (v : Value) (ts : List Txn) (t : Txn) (hv : TxsAt B w v ts) (hB : B ≤ w.heap.size) (hl : ts.length ≤ 100000) :
    ∃ a c w', (∀ ty, (Builtin.append_ #[27, 27] ty #[v, .slice (some ⟨w.heap.size, 0, none⟩) 1 1]).run Try.prog (w.alloc (.cells (cellsX t).toArray 33)) = .ok (.slice a (ts ++ [t]).length c) w') ∧ TxsAt B w' (.slice a (ts ++ [t]).length c) (ts ++ [t]) ∧ Fr (fun k => v.ownBlock = some k) w w' ∧ ∀ g, (Value.slice a (ts ++ [t]).length c).ownBlock = some g → v.ownBlock = some g ∨ w.heap.size ≤ g := by
  have hb : Below w.heap.size w (w.alloc (.cells (cellsX t).toArray 33)) := (Below.refl _ w).alloc (Nat.le_refl _) _
  have hv' := owns_frame hv (fun k hk => hb.block k (World.ownsRow.lt hv k hk).2)
  obtain ⟨i, hi, hz, hs, hbs⟩ := info_parts infoTx3
  obtain ⟨v', w', hr, ho, hg, hwh⟩ := app_own (P := Try.prog) _ 27 33 i _ 3 24 Try.underlying27 hi hz hs hbs rfl (by decide) v ts.length (ts.flatMap cellsX) (World.ownsRow.mono hv' (Nat.zero_le _)) ⟨w.heap.size, 0, none⟩ 1 1 (cellsX t) rfl (by decide)
    (fun j u hu => by rw [addr_plus, Nat.zero_add, cell_of_row _ _ _ _ _ _ (heap_alloc_new w _)]; simpa using hu) (by intro u hu; simp only [cellsX, List.mem_cons, List.not_mem_nil, or_false] at hu; rcases hu with rfl | rfl | rfl <;> rfl) (by unfold maxLen; omega) (by omega)
  have hsz : (w.alloc (.cells (cellsX t).toArray 33)).heap.size = w.heap.size + 1 := by simp
  rw [hsz] at hwh
  have hcl : (ts ++ [t]).flatMap cellsX = ts.flatMap cellsX ++ cellsX t := by simp
  have hln : (ts ++ [t]).length = ts.length + 1 := by simp
  rw [← hcl, ← hln] at ho
  obtain ⟨a, c, rfl, _⟩ := owns_shape ho
  have hwh2 : ∀ g, (Value.slice a (ts ++ [t]).length c).ownBlock = some g → v.ownBlock = some g ∨ w.heap.size ≤ g := fun g hgg => (hwh g hgg).imp id (fun h => by omega)
  refine ⟨a, c, w', hr, ⟨ho.1, ?_⟩, (Fr.of_below _ hb).grown hg (fun k hk => Or.inl hk), hwh2⟩
  rcases ho.2 with h0 | ⟨g, cap, cur, e, _, rest⟩
  · exact Or.inl h0
  · refine Or.inr ⟨g, cap, cur, e, ?_, rest⟩
    rcases hwh2 g (by rw [e]; rfl) with h1 | h1
    · exact (World.ownsRow.lt hv g h1).1
    · omega
end Go.Proofs.Ytleghofpabdkhaa
