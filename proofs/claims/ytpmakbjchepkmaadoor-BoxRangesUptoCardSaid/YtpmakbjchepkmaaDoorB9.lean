/- Box: Add, where it lays a letter. -/
import Derived.Test.YtpmakbjchepkmaaDoorB8
import Derived.Test.YtpmakbjchepkmaaDoorD1c
namespace Go.Proofs.YtpmakbjchepkmaaDoor
open Go Go.RowKit

/-- A letter is laid behind letters that are owned, in one more block. -/
theorem app_one (w : World) {B : Nat} {v : Value} {l : List LV} (x : LV) (hv : Owns B w v l) (hB : B ≤ w.heap.size) (hlen : l.length + 1 ≤ 1000) (hx : Byz w x.2 x.1.bytes) :
    ∃ a c w', (∀ ty, (Builtin.append_ #[38, 38] ty #[v, .slice (some ⟨w.heap.size, 0, none⟩) 1 1]).run Tryd.prog (w.alloc (.cells #[.int .i64 x.1.uid, .int .u8 (x.1.flags.toNat : Int), x.2] 68)) = .ok (.slice a (l ++ [x]).length c) w') ∧ Owns B w' (.slice a (l ++ [x]).length c) (l ++ [x]) ∧ w.grownBy w' v.ownBlock ∧ (∀ g, (Value.slice a (l ++ [x]).length c).ownBlock = some g → v.ownBlock = some g ∨ w.heap.size < g) := by
  have hb : Below w.heap.size w (w.alloc (.cells #[.int .i64 x.1.uid, .int .u8 (x.1.flags.toNat : Int), x.2] 68)) := (Below.refl _ w).alloc (Nat.le_refl _) _
  have hv' := hv.below hb
  obtain ⟨i, hi, hz, hs, hbs⟩ := info_parts infoLt
  have hcell : ∀ u ∈ cellsLV x, u.oneCell' = true := by
    intro u hu
    exact cellsP_cell (w := w) (l := [x]) (fun p hp => by rw [List.mem_singleton] at hp; subst hp; exact hx) u (by simpa [cellsP] using hu)
  obtain ⟨v', w', hr, ho, hg, hwh⟩ := app_own (P := Tryd.prog) _ 38 68 i _ 3 40 Tryd.underlying38 hi hz hs hbs rfl (by decide) v l.length (cellsP l) (World.ownsRow.mono hv' (Nat.zero_le _)) ⟨w.heap.size, 0, none⟩ 1 1 (cellsLV x) rfl (by decide)
    (fun j u hu => by rw [addr_plus, Nat.zero_add, cell_of_row _ _ _ _ _ _ (heap_alloc_new w _)]; simpa [cellsLV] using hu) hcell (by unfold maxLen; omega) (by omega)
  have hsz : (w.alloc (.cells #[.int .i64 x.1.uid, .int .u8 (x.1.flags.toNat : Int), x.2] 68)).heap.size = w.heap.size + 1 := by simp
  rw [hsz] at hwh
  have hg2 : w.grownBy w' v.ownBlock := ⟨hg.os.trans hb.os, hg.tape.trans hb.tape, hg.output.trans hb.output, Nat.le_trans hb.size hg.size, fun k hk hne => (hg.block k (Nat.lt_of_lt_of_le hk hb.size) hne).trans (hb.block k hk)⟩
  have hcl : cellsP (l ++ [x]) = cellsP l ++ cellsLV x := by rw [cellsP_app]; congr 1
  have hln : (l ++ [x]).length = l.length + 1 := by simp
  rw [← hcl, ← hln] at ho
  obtain ⟨a, c, rfl, _⟩ := owns_shape ho
  refine ⟨a, c, w', hr, ?_, hg2, fun g hgg => (hwh g hgg).imp id (fun h => by omega)⟩
  unfold Owns
  refine ⟨ho.1, ?_⟩
  rcases ho.2 with h0 | ⟨g, cap, cur, e, _, rest⟩
  · exact Or.inl h0
  · refine Or.inr ⟨g, cap, cur, e, ?_, rest⟩
    rcases hwh g (by rw [e]; rfl) with h1 | h1
    · exact (World.ownsRow.lt hv g h1).1
    · omega

/-- All of a letter's bytes are new memory, apart from the letters'. -/
def Fresh (B : Nat) (w : World) (a : Option Addr) (qs : List LV) : Prop := ∀ q ∈ qs, Row B w q.2 q.1.bytes ∧ ∀ g, a = some ⟨g, 0, none⟩ → q.2.ownBlock ≠ some g
/-- What the last statements of Add come to. -/
theorem add_last {W2 wn w3 : World} {B : Nat} {a a3 : Option Addr} {c c3 : Nat} {qs : List LV} (x : LV) (hfr : Fresh B W2 a qs) (hbn : Below W2.heap.size W2 wn) (hB : B ≤ W2.heap.size) (hrow : Row W2.heap.size wn x.2 x.1.bytes)
    (ho : Owns B wn (.slice a qs.length c) qs) (hg : wn.grownBy w3 (Value.slice a qs.length c).ownBlock) (hwh : ∀ g, (Value.slice a3 (qs ++ [x]).length c3).ownBlock = some g → (Value.slice a qs.length c).ownBlock = some g ∨ wn.heap.size < g) (hlt : ∀ g, (Value.slice a qs.length c).ownBlock = some g → g < W2.heap.size ∧ ∃ g', a = some ⟨g', 0, none⟩) :
    Fresh B w3 a3 (qs ++ [x]) := by
  have hx3 : ∀ g, x.2.ownBlock = some g → W2.heap.size ≤ g ∧ g < wn.heap.size := fun g hgx => by
    refine ⟨?_, hrow.1.lt g hgx⟩
    obtain ⟨a0, c0, e0, _⟩ := hrow.1.shape
    rw [e0] at hgx
    cases a0 with
    | none => simp [Value.ownBlock] at hgx
    | some ad =>
      simp [Value.ownBlock] at hgx
      have := (hrow.2 ad _ _ e0).1
      omega
  intro q hq
  rcases List.mem_append.1 hq with hq | hq
  · obtain ⟨r1, r2⟩ := hfr q hq
    have hne : ∀ g, q.2.ownBlock = some g → (Value.slice a qs.length c).ownBlock ≠ some g := fun g hgq e => by
      obtain ⟨_, g', rfl⟩ := hlt g e
      cases e
      exact r2 _ rfl hgq
    refine ⟨(r1.below hbn).kept hg.size (fun g hgq => hg.block g ((r1.below hbn).1.lt g hgq) (fun e => hne g hgq e.symm)), fun g e hgq => ?_⟩
    rcases hwh g (by rw [e]; rfl) with h1 | h1
    · exact hne g hgq h1
    · have := r1.1.lt g hgq
      have := hbn.size
      omega
  · rw [List.mem_singleton] at hq
    subst hq
    have hne : ∀ g, q.2.ownBlock = some g → (Value.slice a qs.length c).ownBlock ≠ some g := fun g hgq e => by
      have := (hlt g e).1
      have := (hx3 g hgq).1
      omega
    have r3 := hrow.kept hg.size (fun g hgq => hg.block g (hx3 g hgq).2 (fun e => hne g hgq e.symm))
    refine ⟨⟨r3.1, fun ad n' c' e => by obtain ⟨z1, z2⟩ := r3.2 ad n' c' e; exact ⟨by omega, z2⟩⟩, fun g e hgq => ?_⟩
    rcases hwh g (by rw [e]; rfl) with h1 | h1
    · exact hne g hgq h1
    · have := (hx3 g hgq).2
      omega
end Go.Proofs.YtpmakbjchepkmaaDoor
