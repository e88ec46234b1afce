/- Deed: deeds that the call owns; one more is laid behind. -/
import Derived.Test.YtjljbnilckkjnaaDoorG10
import Derived.Test.YtjljbnilckkjnaaDoorBS
import Derived.Deep.Onto
namespace Go.Proofs.YtjljbnilckkjnaaDoor
open Go Go.RowKit

def cellsDd (p : Dd × Value) : List Value := (ddC p.1 p.2).toList
theorem infoDd : (Tryd.prog.info? 28).map (fun i => (i.zero, i.size, i.bytes)) = some (some (.agg #[.int .i64 0, .string ⟨#[]⟩, .string ⟨#[]⟩, .string ⟨#[]⟩, .int .i64 0, .int .i64 0, .int .u8 0, .int .i64 0, .int .i64 0, .slice none 0 0]), 10, 120) := by kernel_rfl
/-- Deeds of the call's own, and their bytes. -/
structure DsAt (B : Nat) (w : World) (v : Value) (ps : List (Dd × Value)) : Prop where
  own : w.ownsRow B 28 10 v ps.length (ps.flatMap cellsDd)
  rows : ∀ p ∈ ps, Row B w p.2 p.1.bytes
  ne : ∀ p ∈ ps, ∀ g, p.2.ownBlock = some g → v.ownBlock ≠ some g
theorem DsAt.nil (B : Nat) (w : World) : DsAt B w (.slice none 0 0) [] := ⟨World.ownsRow_nil _ _ _ _, (fun p hp => by cases hp), (fun p hp => by cases hp)⟩
theorem DsAt.fr {B : Nat} {o : Nat → Prop} {w w' : World} {v : Value} {ps : List (Dd × Value)} (h : DsAt B w v ps) (hf : Fr o w w') (ho : ∀ g, o g → g < B ∨ w.heap.size ≤ g) : DsAt B w' v ps := by
  have hk : ∀ k, B ≤ k → k < w.heap.size → w'.heap[k]? = w.heap[k]? := fun k h1 h2 => hf.block k h2 (fun e => by have := ho k e; omega)
  refine ⟨owns_frame h.own (fun k hkk => by have := World.ownsRow.lt h.own k hkk; exact hk k this.1 this.2), fun p hp => (h.rows p hp).kept hf.size (fun g hg => hk g ?_ ((h.rows p hp).1.lt g hg)), h.ne⟩
  have hr := (h.rows p hp).2
  obtain ⟨a, c, e, _⟩ := (h.rows p hp).1.shape
  rw [e] at hg hr
  cases a with
  | none => simp [Value.ownBlock] at hg
  | some ad =>
    have := (hr ad _ _ rfl).1
    simp [Value.ownBlock] at hg
    omega
theorem row_base {B : Nat} {w : World} {v : Value} {l : List UInt8} (h : Row B w v l) : ∀ g, v.ownBlock = some g → B ≤ g := by
  intro g hg
  obtain ⟨a, c, rfl, _⟩ := h.1.shape
  cases a with
  | none => simp [Value.ownBlock] at hg
  | some ad =>
    have := (h.2 ad _ _ rfl).1
    simp [Value.ownBlock] at hg
    omega
theorem cellsDd_cell (p : Dd × Value) (hp : ∃ a n c, p.2 = .slice a n c) : ∀ u ∈ cellsDd p, u.oneCell' = true := by
  obtain ⟨a, n, c, hp⟩ := hp
  intro u hu
  simp only [cellsDd, ddC, List.mem_cons, List.not_mem_nil, or_false] at hu
  rcases hu with rfl | rfl | rfl | rfl | rfl | rfl | rfl | rfl | rfl | rfl
  all_goals first | rfl | (rw [hp]; rfl)
theorem appD (w : World) {B : Nat} {v : Value} {l : List (Dd × Value)} (x : Dd × Value) (hv : DsAt B w v l) (hB : B ≤ w.heap.size) (hlen : l.length + 1 ≤ 1000000) (hx : Row B w x.2 x.1.bytes) (hxv : ∀ g, x.2.ownBlock = some g → v.ownBlock ≠ some g) :
    ∃ a c w', (∀ ty, (Builtin.append_ #[32, 32] ty #[v, .slice (some ⟨w.heap.size, 0, none⟩) 1 1]).run Tryd.prog (w.alloc (.cells (ddC x.1 x.2) 28)) = .ok (.slice a (l ++ [x]).length c) w') ∧ DsAt B w' (.slice a (l ++ [x]).length c) (l ++ [x]) ∧ w.grownBy w' v.ownBlock ∧ (∀ g, (Value.slice a (l ++ [x]).length c).ownBlock = some g → v.ownBlock = some g ∨ w.heap.size < g) := by
  have hb : Below w.heap.size w (w.alloc (.cells (ddC x.1 x.2) 28)) := (Below.refl _ w).alloc (Nat.le_refl _) _
  have hv' : (w.alloc (.cells (ddC x.1 x.2) 28)).ownsRow B 28 10 v l.length (l.flatMap cellsDd) := owns_frame hv.own (fun k hk => hb.block k (World.ownsRow.lt hv.own k hk).2)
  obtain ⟨i, hi, hz, hs, hbs⟩ := info_parts infoDd
  obtain ⟨v', w', hr, ho, hg, hwh⟩ := app_own (P := Tryd.prog) _ 32 28 i _ 10 120 Tryd.underlying32 hi hz hs hbs rfl (by decide) v l.length (l.flatMap cellsDd) (World.ownsRow.mono hv' (Nat.zero_le _)) ⟨w.heap.size, 0, none⟩ 1 1 (cellsDd x) rfl (by decide)
    (fun j u hu => by rw [addr_plus, Nat.zero_add, cell_of_row _ _ _ _ _ _ (heap_alloc_new w _)]; simpa [cellsDd] using hu) (cellsDd_cell x (by obtain ⟨a, c, e, _⟩ := hx.1.shape; exact ⟨a, _, c, e⟩)) (by unfold maxLen; omega) (by omega)
  have hsz : (w.alloc (.cells (ddC x.1 x.2) 28)).heap.size = w.heap.size + 1 := by simp
  rw [hsz] at hwh
  have hg2 : w.grownBy w' v.ownBlock := ⟨hg.os.trans hb.os, hg.tape.trans hb.tape, hg.output.trans hb.output, Nat.le_trans hb.size hg.size, fun k hk hne => (hg.block k (Nat.lt_of_lt_of_le hk hb.size) hne).trans (hb.block k hk)⟩
  have hcl : (l ++ [x]).flatMap cellsDd = l.flatMap cellsDd ++ cellsDd x := by simp
  have hln : (l ++ [x]).length = l.length + 1 := by simp
  rw [← hcl, ← hln] at ho
  obtain ⟨a, c, rfl, _⟩ := owns_shape ho
  have hwh2 : ∀ g, (Value.slice a (l ++ [x]).length c).ownBlock = some g → v.ownBlock = some g ∨ w.heap.size < g := fun g hgg => (hwh g hgg).imp id (fun h => by omega)
  have hkeep : ∀ p, (p ∈ l ∨ p = x) → Row B w p.2 p.1.bytes ∧ (∀ g, p.2.ownBlock = some g → v.ownBlock ≠ some g) := fun p hp => by
    rcases hp with hp | rfl
    · exact ⟨hv.rows p hp, hv.ne p hp⟩
    · exact ⟨hx, hxv⟩
  refine ⟨a, c, w', hr, ⟨⟨ho.1, ?_⟩, fun p hp => ?_, fun p hp g hgp hgv => ?_⟩, hg2, hwh2⟩
  · rcases ho.2 with h0 | ⟨g, cap, cur, e, _, rest⟩
    · exact Or.inl h0
    · refine Or.inr ⟨g, cap, cur, e, ?_, rest⟩
      rcases hwh g (by rw [e]; rfl) with h1 | h1
      · exact (World.ownsRow.lt hv.own g h1).1
      · omega
  · have hp' : p ∈ l ∨ p = x := by rcases List.mem_append.1 hp with h | h; exact Or.inl h; exact Or.inr (List.mem_singleton.1 h)
    obtain ⟨h1, h2⟩ := hkeep p hp'
    exact h1.kept hg2.size (fun g hgp => hg2.block g (h1.1.lt g hgp) (fun e => h2 g hgp e.symm))
  · have hp' : p ∈ l ∨ p = x := by rcases List.mem_append.1 hp with h | h; exact Or.inl h; exact Or.inr (List.mem_singleton.1 h)
    obtain ⟨h1, h2⟩ := hkeep p hp'
    have := h1.1.lt g hgp
    rcases hwh2 g hgv with h | h
    · exact h2 g hgp h
    · omega
/-- A call in a region, by its contract, however it ends. -/
theorem wp_calls {P : Program} {o : Oper} {a : Act} {w : World} {K : Act → World → Prop} {Q : Exit → Act → World → Prop} (f : FuncId) (args : Array Value) (d : Option Tmp) (hd : o.dst = d) (hr : (execOp a.eval o).run P w = .ok (.enter f args) w) (R : Ending → World → Prop) (hc : Calls P f args w R)
    (hv : ∀ v w', R (.returned v) w' → K (a.put d v) w') (hp : ∀ c w', R (.panicked c) w' → Q (.panic c) a w') (ho : ∀ w', R .outgrown w' → False) : o.wp P a w K Q := by
  subst hd
  unfold Oper.wp
  rw [hr]
  refine hc.mono ?_
  intro e w' hR
  cases e with
  | returned v => exact hv v w' hR
  | panicked c => exact hp c w' hR
  | outgrown => exact (ho w' hR).elim
end Go.Proofs.YtjljbnilckkjnaaDoor
