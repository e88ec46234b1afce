/- Box: a set's reader: lay, end. -/
import Derived.Test.YtpmakbjchepkmaaDoorB9
import Derived.Test.YtpmakbjchepkmaaDoorBN
namespace Go.Proofs.YtpmakbjchepkmaaDoor
open Go Go.RowKit

def cells2 (p : Int × Int) : List Value := [.int .i64 p.1, .int .i64 p.2]
theorem infoPair : (Tryd.prog.info? 30).map (fun i => (i.zero, i.size, i.bytes)) = some (some (.agg #[.int .i64 0, .int .i64 0]), 2, 16) := by kernel_rfl
/-- What the call owns: pairs of numbers. -/
def OwnsP (B : Nat) (w : World) (v : Value) (l : List (Int × Int)) : Prop := w.ownsRow B 30 2 v l.length (l.flatMap cells2)
theorem OwnsP.below {B : Nat} {w w' : World} {v : Value} {l : List (Int × Int)} (h : OwnsP B w v l) (hb : Below w.heap.size w w') : OwnsP B w' v l :=
  owns_frame h (fun k hk => hb.block k (World.ownsRow.lt h k hk).2)
theorem cells2_cell {l : List (Int × Int)} : ∀ u ∈ l.flatMap cells2, u.oneCell' = true := by
  intro u hu
  obtain ⟨x, _, hx⟩ := List.mem_flatMap.mp hu
  simp only [cells2, List.mem_cons, List.not_mem_nil, or_false] at hx
  rcases hx with rfl | rfl <;> rfl
theorem appP (w : World) {B : Nat} {v : Value} {l : List (Int × Int)} (x : Int × Int) (hv : OwnsP B w v l) (hB : B ≤ w.heap.size) (hlen : l.length + 1 ≤ 140737488355) :
    ∃ a c w', (∀ ty, (Builtin.append_ #[22, 22] ty #[v, .slice (some ⟨w.heap.size, 0, none⟩) 1 1]).run Tryd.prog (w.alloc (.cells #[.int .i64 x.1, .int .i64 x.2] 30)) = .ok (.slice a (l ++ [x]).length c) w') ∧ OwnsP B w' (.slice a (l ++ [x]).length c) (l ++ [x]) ∧ w.grownBy w' v.ownBlock ∧
      (∃ g, a = some ⟨g, 0, none⟩ ∧ (v.ownBlock = some g ∨ w.heap.size < g)) := by
  have hb : Below w.heap.size w (w.alloc (.cells #[.int .i64 x.1, .int .i64 x.2] 30)) := (Below.refl _ w).alloc (Nat.le_refl _) _
  obtain ⟨i, hi, hz, hs, hbs⟩ := info_parts infoPair
  obtain ⟨v', w', hr, ho, hg, hwh⟩ := app_own (P := Tryd.prog) _ 22 30 i _ 2 16 Tryd.underlying22 hi hz hs hbs rfl (by decide) v l.length _ (World.ownsRow.mono (hv.below hb) (Nat.zero_le _)) ⟨w.heap.size, 0, none⟩ 1 1 (cells2 x) rfl (by decide)
    (fun j u hu => by rw [addr_plus, Nat.zero_add, cell_of_row _ _ _ _ _ _ (heap_alloc_new w _)]; simpa [cells2] using hu) (fun u hu => cells2_cell (l := [x]) u (by simpa using hu)) (by unfold maxLen; omega) (by omega)
  have hsz : (w.alloc (.cells #[.int .i64 x.1, .int .i64 x.2] 30)).heap.size = w.heap.size + 1 := by simp
  rw [hsz] at hwh
  have hcl : (l ++ [x]).flatMap cells2 = l.flatMap cells2 ++ cells2 x := by simp
  have hln : (l ++ [x]).length = l.length + 1 := by simp
  rw [← hcl, ← hln] at ho
  rcases ho.2 with ⟨_, h0⟩ | ⟨g, cap, cur, rfl, _, rest⟩
  · rw [hln] at h0; omega
  · have hw := hwh g rfl
    refine ⟨_, cap, w', hr, ⟨ho.1, Or.inr ⟨g, cap, cur, rfl, ?_, rest⟩⟩, ⟨hg.os.trans hb.os, hg.tape.trans hb.tape, hg.output.trans hb.output, Nat.le_trans hb.size hg.size, fun k hk hne => (hg.block k (Nat.lt_of_lt_of_le hk hb.size) hne).trans (hb.block k hk)⟩, g, rfl, hw.imp id (fun h => by omega)⟩
    rcases hw with h1 | h1
    · exact (World.ownsRow.lt hv g h1).1
    · omega

/-- A set's reader. -/
structure Rd where
  most : Int
  far : Int
  from' : Nat
  a : Int
  b : Int
  second : Bool
  parts : List (Int × Int)
  starry : Bool
def rdC (r : Rd) (pv : Value) : Array Value := #[.int .i64 r.most, .int .i64 r.far, .int .i64 (r.from' : Int), .int .i64 r.a, .int .i64 r.b, .bool r.second, pv, .bool r.starry]
/-- The reader in block D. -/
structure RdAt (w : World) (D : Nat) (pv : Value) (r : Rd) : Prop where
  blk : w.heap[D]? = some (.cells (rdC r pv) 33 (0, 0))
  own : OwnsP (D + 1) w pv r.parts
section
variable {w w' : World} {D : Nat} {pv : Value} {r : Rd}
theorem RdAt.cell (h : RdAt w D pv r) (j : Nat) : w.cell? ⟨D, j, none⟩ = (rdC r pv)[j]? := cell_of_row _ _ _ _ _ _ h.blk
theorem RdAt.free (h : RdAt w D pv r) (j : Nat) : w.frozen? ⟨D, j, none⟩ = false := frozen_of_row _ _ _ _ _ h.blk
theorem RdAt.lt (h : RdAt w D pv r) : D < w.heap.size := (Array.getElem?_eq_some_iff.1 h.blk).1
theorem RdAt.shape (h : RdAt w D pv r) : ∃ a c, pv = .slice a r.parts.length c := by obtain ⟨a, c, e, _⟩ := owns_shape h.own; exact ⟨a, c, e⟩
theorem RdAt.below (h : RdAt w D pv r) (hb : Below w.heap.size w w') : RdAt w' D pv r := ⟨(hb.block D h.lt).trans h.blk, h.own.below hb⟩
theorem own_setD {B : Nat} {v : Value} {l : List (Int × Int)} (h : OwnsP B w v l) (hB : D < B) (j : Nat) (x : Value) : OwnsP B (w.setCell ⟨D, j, none⟩ x) v l :=
  owns_frame h (fun k hk => setCell_kept _ _ _ _ (by have := (World.ownsRow.lt h k hk).1; simp only; omega))
/-- A cell of it, but that of its parts, is laid. -/
theorem RdAt.set (h : RdAt w D pv r) (j : Nat) (v : Value) (r' : Rd) (hr : (rdC r pv).setIfInBounds j v = rdC r' pv) (hp : r'.parts = r.parts) : RdAt (w.setCell ⟨D, j, none⟩ v) D pv r' := by
  refine ⟨?_, ?_⟩
  · rw [heap_setCell_same w D j _ _ v h.blk, hr]
  · rw [hp]; exact own_setD h.own (by omega) j v
end
theorem setCell_belowD (w : World) (D j : Nat) (v : Value) : Below D w (w.setCell ⟨D, j, none⟩ v) := (Below.refl D w).setCell (Nat.le_refl _) _

def Rd.lay (r : Rd) (n : Int) : Rd := { r with b := n, a := if r.second then r.a else n }
def Rd.fin (r : Rd) : Rd := { r with parts := r.parts ++ [(min r.a r.b, max r.a r.b)], second := false }

set_option maxHeartbeats 1000000 in
set_option maxRecDepth 100000 in
theorem lay_any (w : World) (D : Nat) (pv : Value) (r : Rd) (n : Int) (h : RdAt w D pv r) :
    Calls Tryd.prog 19 #[.pointer (some ⟨D, 0, none⟩), .int .i64 n] w fun e w' => e = .returned (.tuple #[]) ∧ RdAt w' D pv (r.lay n) ∧ Below D w w' := by
  have c3 := h.cell 3
  have c4 := h.cell 4
  have c5 := h.cell 5
  have f3 := h.free 3
  have f4 := h.free 4
  have f5 := h.free 5
  simp only [rdC] at c3 c4 c5
  simp at c3 c4 c5
  cases hs : r.second with
  | true =>
    have h1 := h.set 4 (.int .i64 n) (r.lay n) (by simp [rdC, Rd.lay, hs]) rfl
    rw [hs] at c5
    have H1 := Lib.hid h1
    clear h1 h hs
    go_enter Tryd.func19, Tryd.ntmps19
    go_wp2
    exact bodyPost_end (results_none rfl _ _ _) rfl ⟨rfl, H1.out, setCell_belowD _ _ _ _⟩
  | false =>
    have h1 := h.set 4 (.int .i64 n) { r with b := n } (by simp [rdC]) rfl
    have h2 := h1.set 3 (.int .i64 n) (r.lay n) (by simp [rdC, Rd.lay, hs]) rfl
    rw [hs] at c5
    have H2 := Lib.hid h2
    clear h1 h2 h hs
    go_enter Tryd.func19, Tryd.ntmps19
    go_wp2
    exact bodyPost_end (results_none rfl _ _ _) rfl ⟨rfl, H2.out, (setCell_belowD _ _ _ _).trans (setCell_belowD _ _ _ _)⟩
end Go.Proofs.YtpmakbjchepkmaaDoor
