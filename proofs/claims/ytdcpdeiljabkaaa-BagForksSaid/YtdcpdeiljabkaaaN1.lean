/- Bag: messages as cells, and messages that the call owns. -/
import Derived.Test.YtdcpdeiljabkaaaBS
import Derived.Test.YtdcpdeiljabkaaaD1c
import Derived.Deep.Onto
import Derived.Laws.IdiomCopy
import Derived.Test.YtdcpdeiljabkaaaProg
namespace Go.Proofs.Ytdcpdeiljabkaaa
open Go Go.RowKit

/-- A message, as it reads; the slice that its bytes are in. -/
structure Und where
  src : Int
  dst : Int
  bytes : List UInt8
abbrev UV := Und × Value
def cellsUV (p : UV) : List Value := [.int .i64 p.1.src, .int .i64 p.1.dst, p.2]
theorem cellsUV_len (p : UV) : (cellsUV p).length = 3 := rfl
theorem row_base {B : Nat} {w : World} {v : Value} {l : List UInt8} (h : Row B w v l) : ∀ g, v.ownBlock = some g → B ≤ g := by
  intro g hg
  obtain ⟨a, c, rfl, _⟩ := h.1.shape
  cases a with
  | none => simp [Value.ownBlock] at hg
  | some ad =>
    have := (h.2 ad _ _ rfl).1
    simp [Value.ownBlock] at hg
    omega
def unC (x : Und) (pv : Value) : Array Value := #[.int .i64 x.src, .int .i64 x.dst, pv]
theorem infoUn : (Try.prog.info? 34).map (fun i => (i.zero, i.size, i.bytes)) = some (some (.agg #[.int .i64 0, .int .i64 0, .slice none 0 0]), 3, 40) := by kernel_rfl
/-- Messages of the call's own, and their bytes. -/
structure UsAt (B : Nat) (w : World) (v : Value) (ps : List (UV)) : Prop where
  own : w.ownsRow B 34 3 v ps.length (ps.flatMap cellsUV)
  rows : ∀ p ∈ ps, Row B w p.2 p.1.bytes
  ne : ∀ p ∈ ps, ∀ g, p.2.ownBlock = some g → v.ownBlock ≠ some g
theorem UsAt.nil (B : Nat) (w : World) : UsAt B w (.slice none 0 0) [] := ⟨World.ownsRow_nil _ _ _ _, (fun p hp => by cases hp), (fun p hp => by cases hp)⟩
theorem UsAt.fr {B : Nat} {o : Nat → Prop} {w w' : World} {v : Value} {ps : List (UV)} (h : UsAt B w v ps) (hf : Fr o w w') (ho : ∀ g, o g → g < B ∨ w.heap.size ≤ g) : UsAt B w' v ps := by
  have hk : ∀ k, B ≤ k → k < w.heap.size → w'.heap[k]? = w.heap[k]? := fun k h1 h2 => hf.block k h2 (fun e => by have := ho k e; omega)
  refine ⟨owns_frame h.own (fun k hkk => by have := World.ownsRow.lt h.own k hkk; exact hk k this.1 this.2), fun p hp => (h.rows p hp).kept hf.size (fun g hg => hk g ?_ ((h.rows p hp).1.lt g hg)), h.ne⟩
  have hr := (h.rows p hp).2
  obtain ⟨a, c, e, _⟩ := (h.rows p hp).1.shape
  rw [e] at hg hr
  cases a with
  | none => simp [Value.ownBlock] at hg
  | some ad =>
    have := (hr ad _ _ rfl).1
    simp [Value.ownBlock] at hg
    omega
theorem cellsUn_cell (p : UV) (hp : ∃ a n c, p.2 = .slice a n c) : ∀ u ∈ cellsUV p, u.oneCell' = true := by
  obtain ⟨a, n, c, hp⟩ := hp
  intro u hu
  simp only [cellsUV, List.mem_cons, List.not_mem_nil, or_false] at hu
  rcases hu with rfl | rfl | rfl
  all_goals first | rfl | (rw [hp]; rfl)
theorem appU (w : World) {B : Nat} {v : Value} {l : List (UV)} (x : UV) (hv : UsAt B w v l) (hB : B ≤ w.heap.size) (hlen : l.length + 1 ≤ 1000000) (hx : Row B w x.2 x.1.bytes) (hxv : ∀ g, x.2.ownBlock = some g → v.ownBlock ≠ some g) :
    ∃ a c w', (∀ ty, (Builtin.append_ #[43, 43] ty #[v, .slice (some ⟨w.heap.size, 0, none⟩) 1 1]).run Try.prog (w.alloc (.cells (unC x.1 x.2) 34)) = .ok (.slice a (l ++ [x]).length c) w') ∧ UsAt B w' (.slice a (l ++ [x]).length c) (l ++ [x]) ∧ w.grownBy w' v.ownBlock ∧ (∀ g, (Value.slice a (l ++ [x]).length c).ownBlock = some g → v.ownBlock = some g ∨ w.heap.size < g) := by
  have hb : Below w.heap.size w (w.alloc (.cells (unC x.1 x.2) 34)) := (Below.refl _ w).alloc (Nat.le_refl _) _
  have hv' : (w.alloc (.cells (unC x.1 x.2) 34)).ownsRow B 34 3 v l.length (l.flatMap cellsUV) := owns_frame hv.own (fun k hk => hb.block k (World.ownsRow.lt hv.own k hk).2)
  obtain ⟨i, hi, hz, hs, hbs⟩ := info_parts infoUn
  obtain ⟨v', w', hr, ho, hg, hwh⟩ := app_own (P := Try.prog) _ 43 34 i _ 3 40 Try.underlying43 hi hz hs hbs rfl (by decide) v l.length (l.flatMap cellsUV) (World.ownsRow.mono hv' (Nat.zero_le _)) ⟨w.heap.size, 0, none⟩ 1 1 (cellsUV x) rfl (by decide)
    (fun j u hu => by rw [addr_plus, Nat.zero_add, cell_of_row _ _ _ _ _ _ (heap_alloc_new w _)]; simpa [cellsUV, unC] using hu) (cellsUn_cell x (by obtain ⟨a, c, e, _⟩ := hx.1.shape; exact ⟨a, _, c, e⟩)) (by unfold maxLen; omega) (by omega)
  have hsz : (w.alloc (.cells (unC x.1 x.2) 34)).heap.size = w.heap.size + 1 := by simp
  rw [hsz] at hwh
  have hg2 : w.grownBy w' v.ownBlock := ⟨hg.os.trans hb.os, hg.tape.trans hb.tape, hg.output.trans hb.output, Nat.le_trans hb.size hg.size, fun k hk hne => (hg.block k (Nat.lt_of_lt_of_le hk hb.size) hne).trans (hb.block k hk)⟩
  have hcl : (l ++ [x]).flatMap cellsUV = l.flatMap cellsUV ++ cellsUV x := by simp
  have hln : (l ++ [x]).length = l.length + 1 := by simp
  rw [← hcl, ← hln] at ho
  obtain ⟨a, c, rfl, _⟩ := owns_shape ho
  have hwh2 : ∀ g, (Value.slice a (l ++ [x]).length c).ownBlock = some g → v.ownBlock = some g ∨ w.heap.size < g := fun g hgg => (hwh g hgg).imp id (fun h => by omega)
  have hkeep : ∀ p, (p ∈ l ∨ p = x) → Row B w p.2 p.1.bytes ∧ (∀ g, p.2.ownBlock = some g → v.ownBlock ≠ some g) := fun p hp => by
    rcases hp with hp | rfl
    · exact ⟨hv.rows p hp, hv.ne p hp⟩
    · exact ⟨hx, hxv⟩
  refine ⟨a, c, w', hr, ⟨⟨ho.1, ?_⟩, fun p hp => ?_, fun p hp g hgp hgv => ?_⟩, hg2, hwh2⟩
  · rcases ho.2 with h0 | ⟨g, cap, cur, e, _, rest⟩
    · exact Or.inl h0
    · refine Or.inr ⟨g, cap, cur, e, ?_, rest⟩
      rcases hwh g (by rw [e]; rfl) with h1 | h1
      · exact (World.ownsRow.lt hv.own g h1).1
      · omega
  · have hp' : p ∈ l ∨ p = x := by rcases List.mem_append.1 hp with h | h; exact Or.inl h; exact Or.inr (List.mem_singleton.1 h)
    obtain ⟨h1, h2⟩ := hkeep p hp'
    exact h1.kept hg2.size (fun g hgp => hg2.block g (h1.1.lt g hgp) (fun e => h2 g hgp e.symm))
  · have hp' : p ∈ l ∨ p = x := by rcases List.mem_append.1 hp with h | h; exact Or.inl h; exact Or.inr (List.mem_singleton.1 h)
    obtain ⟨h1, h2⟩ := hkeep p hp'
    have := h1.1.lt g hgp
    rcases hwh2 g hgv with h | h
    · exact h2 g hgp h
    · omega
theorem below_row {w w' : World} {B b : Nat} {o : Obj} (h : w.heap[b]? = some o) (hb : Below B w w') (hlt : b < B) : w'.heap[b]? = some o := (hb.block b hlt).trans h
/-- Whatever messages lie in. -/
def HasU (v : Value) (ps : List UV) (g : Nat) : Prop := v.ownBlock = some g ∨ ∃ p ∈ ps, p.2.ownBlock = some g
theorem UsAt.lt {B : Nat} {w : World} {v : Value} {ps : List UV} (h : UsAt B w v ps) : (∀ g, v.ownBlock = some g → B ≤ g ∧ g < w.heap.size) ∧ ∀ p ∈ ps, ∀ g, p.2.ownBlock = some g → B ≤ g ∧ g < w.heap.size :=
  ⟨World.ownsRow.lt h.own, fun p hp g hg => ⟨row_base (h.rows p hp) g hg, (h.rows p hp).1.lt g hg⟩⟩
theorem UsAt.has {B : Nat} {w : World} {v : Value} {ps : List UV} (h : UsAt B w v ps) : ∀ g, HasU v ps g → B ≤ g ∧ g < w.heap.size := by
  intro g hg
  rcases hg with hg | ⟨p, hp, hg⟩
  · exact h.lt.1 g hg
  · exact h.lt.2 p hp g hg
theorem UsAt.kept {B : Nat} {w w' : World} {v : Value} {ps : List UV} (h : UsAt B w v ps) (hs : w.heap.size ≤ w'.heap.size) (hk : ∀ g, HasU v ps g → w'.heap[g]? = w.heap[g]?) : UsAt B w' v ps :=
  ⟨owns_frame h.own (fun g hg => hk g (Or.inl hg)), fun p hp => (h.rows p hp).kept hs (fun g hg => hk g (Or.inr ⟨p, hp, hg⟩)), h.ne⟩
theorem UsAt.down {B B' : Nat} {w : World} {v : Value} {ps : List UV} (h : UsAt B w v ps) (hB : B' ≤ B) : UsAt B' w v ps :=
  ⟨World.ownsRow.mono h.own hB, fun p hp => ⟨(h.rows p hp).1, fun ad n' c' e' => by obtain ⟨a1, a2, a3⟩ := (h.rows p hp).2 ad n' c' e'; exact ⟨by omega, a2, a3⟩⟩, h.ne⟩
theorem UsAt.len_le {B : Nat} {w : World} {v : Value} {ps : List UV} (h : UsAt B w v ps) : ∃ a c, v = .slice a ps.length c ∧ ps.length ≤ c := owns_shape h.own
/-- What stands at a place. -/
theorem UsAt.at {B : Nat} {w : World} {v : Value} {ps : List UV} (h : UsAt B w v ps) (i : Nat) (p : UV) (hi : ps[i]? = some p) :
    ∃ g c, v = .slice (some ⟨g, 0, none⟩) ps.length c ∧ g < w.heap.size ∧ B ≤ g ∧ w.cell? ⟨g, i * 3, none⟩ = some (.int .i64 p.1.src) ∧ w.cell? ⟨g, i * 3 + 1, none⟩ = some (.int .i64 p.1.dst) ∧ w.cell? ⟨g, i * 3 + 2, none⟩ = some p.2 := by
  have ho := h.own
  rcases ho.2 with ⟨_, h0⟩ | ⟨g, cap, cur, e, hb, hg, _⟩
  · rw [List.eq_nil_of_length_eq_zero h0] at hi; cases hi
  · have hc := fun j u (hj : (cellsUV p)[j]? = some u) => by
      have := World.ownsRow.cells ho (g := g) (by rw [e]; rfl) _ u (flat_at cellsUV 3 ps i (fun _ _ => rfl) p hi j u hj)
      rwa [addr_plus, Nat.zero_add] at this
    exact ⟨g, cap, e, (Array.getElem?_eq_some_iff.1 hg).1, hb, hc 0 _ rfl, hc 1 _ rfl, hc 2 _ rfl⟩
theorem made_list (m : Nat) : (madeCells (Value.int .u8 0).cells m).toList = (List.replicate m (0 : UInt8)).map fun b => Value.int .u8 (b.toNat : Int) := by
  apply List.ext_getElem
  · simp [madeCells]
  · intro i h1 h2
    simp [madeCells, Value.cells, Nat.mod_one]
section
variable {P : Program}
/-- A copy of bytes into the block that was made last. -/
theorem run_copy_new (w : World) (T e ty : TypeId) (hu : P.underlying T = some (.slice e)) (hs : (P.info? e).map (·.size) = some 1) (Z : List Value) (t : TypeId) (o dl dc : Nat) (v : Value) (l : List UInt8) (hz : Byz w v l) (hl : l.length ≤ dl) (ho : o + l.length ≤ Z.length) :
    (Builtin.copy_ #[T, T] ty #[.slice (some ⟨w.heap.size, o, none⟩) dl dc, v]).run P (w.alloc (.cells Z.toArray t)) = .ok (goInt l.length) (w.alloc (.cells (over Z o (pgC l)).toArray t)) := by
  by_cases hne : l = []
  · obtain ⟨a, cap, rfl⟩ := hz.1
    subst hne
    rw [run_copy_none _ T T ty e _ _ _ _ _ _ hu hs (by simp)]
    show _ = Result.ok (goInt 0) (w.alloc (.cells (over Z o []).toArray t))
    rw [over_nil]
  have hv := hz.2 hne
  have hv' := hv.below (w' := w.alloc (.cells Z.toArray t)) ((Below.refl _ w).alloc (Nat.le_refl _) _)
  obtain ⟨a, cap, rfl, h2, h3, h4⟩ := hv'
  cases a with
  | none =>
    have h0 := h3 rfl
    obtain rfl : l = [] := List.eq_nil_of_length_eq_zero (by omega)
    rw [run_copy_none _ T T ty e _ _ _ _ _ _ hu hs (by simp)]
    show _ = Result.ok (goInt 0) (w.alloc (.cells (over Z o []).toArray t))
    rw [over_nil]
  | some ad =>
    obtain ⟨g, off, rfl, hg, hc⟩ := h4 _ rfl
    have hb := heap_alloc_last w (.cells Z.toArray t)
    have hr := run_copy_cells (P := P) (w.alloc (.cells Z.toArray t)) T T ty e w.heap.size o dl dc ⟨g, off, none⟩ l.length cap (pgC l) hu hs (by rw [pgC_len]; exact (Nat.min_eq_left hl).symm) (fun j u hj => by
        have hj' : j < l.length := by have := (List.getElem?_eq_some_iff.1 hj).1; rwa [pgC_len] at this
        rw [addr_plus, hc j hj']
        simpa [pgC, hj'] using hj)
      (fun j hj => by rw [pgC_len] at hj; rw [cell_of_row _ _ _ _ _ _ hb]; simp; omega)
      (fun j _ => frozen_of_row _ _ _ _ _ hb) pgC_cell
    rw [hr, pgC_len]
    congr 1
    have h1 := setCells_row w.heap.size t (pgC l) o Z _ hb (by rw [pgC_len]; exact ho)
    obtain ⟨s1, s2, s3, s4, s5⟩ := setCells_all w.heap.size (pgC l) o (w.alloc (.cells Z.toArray t))
    have hd : ((w.alloc (.cells Z.toArray t)).setCells w.heap.size o (pgC l)).drawn = w.drawn := setCells_drawn _ _ _ _
    generalize (w.alloc (.cells Z.toArray t)).setCells w.heap.size o (pgC l) = W at *
    cases W with
    | mk heap tape drawn os output =>
      simp only at s1 s2 s3 s4 s5 h1 hd
      subst s1 s2 s3 hd
      simp only [World.alloc] at s4 s5 ⊢
      congr 1
      apply Array.ext_getElem?
      intro k
      by_cases hk : k = w.heap.size
      · subst hk
        rw [h1]; simp
      · rw [s5 k hk, Array.getElem?_push, Array.getElem?_push, if_neg hk, if_neg hk]
end
end Go.Proofs.Ytdcpdeiljabkaaa
