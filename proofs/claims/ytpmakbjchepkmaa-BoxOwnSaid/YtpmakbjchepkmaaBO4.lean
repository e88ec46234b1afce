/- Box: BoxOwn: copies of one's own; memory of which bytes alone are turned; the walk; a box opened with its bulk. -/
import Derived.Test.YtpmakbjchepkmaaBR1
import Derived.Test.YtpmakbjchepkmaaBA4
namespace Go.Proofs.Ytpmakbjchepkmaa
open Go Go.RowKit

theorem own_bytes (w : World) (v : Value) (l : List UInt8) (hz : Byz w v l) (hl : l.length ≤ 140737488351232) :
    ∃ a c w', (∀ ty, (Builtin.append_ #[30, 30] ty #[.slice (some ⟨w.heap.size, 0, none⟩) 0 0, v]).run Try.prog (w.alloc (.cells #[] 5)) = .ok (.slice a l.length c) w') ∧ Row w.heap.size w' (.slice a l.length c) l ∧ Below w.heap.size w w' := by
  obtain ⟨i0, hi0, hz0, hz1, hz2⟩ := info_parts infoU8
  have hb1 : Below w.heap.size w (w.alloc (.cells #[] 5)) := (Below.refl _ w).alloc (Nat.le_refl _) _
  have hr := Row.made w 5 [] #[] rfl (Nat.le_refl w.heap.size) (by decide)
  obtain ⟨v', w', hrun, h2, h3, h4⟩ := run_append_src (P := Try.prog) (w.alloc (.cells #[] 5)) 30 30 5 i0 Try.underlying30 hi0 hz0 hz1 hz2 hr ((hz.below hb1).src Try.underlying30) hb1.size (by simp only [List.length_nil]; omega)
  rw [List.nil_append] at h2
  obtain ⟨a, c, rfl, _⟩ := h2.1.shape
  exact ⟨a, c, w', hrun, h2, hb1.grown h3 hb1.size (fun k hk => by simp [Value.ownBlock] at hk; omega)⟩

/-- A letter is laid behind letters that are owned, in one more block; however many. -/
theorem app_more (w : World) {B : Nat} {v : Value} {l : List LV} (x : LV) (hv : Owns B w v l) (hB : B ≤ w.heap.size) (hlen : (l.length + 1) * 40 ≤ 140737488355328) (hx : Byz w x.2 x.1.bytes) :
    ∃ a c w', (∀ ty, (Builtin.append_ #[22, 22] ty #[v, .slice (some ⟨w.heap.size, 0, none⟩) 1 1]).run Try.prog (w.alloc (.cells #[.int .i64 x.1.uid, .int .u8 (x.1.flags.toNat : Int), x.2] 44)) = .ok (.slice a (l ++ [x]).length c) w') ∧ Owns B w' (.slice a (l ++ [x]).length c) (l ++ [x]) ∧ w.grownBy w' v.ownBlock ∧ (∀ g, (Value.slice a (l ++ [x]).length c).ownBlock = some g → v.ownBlock = some g ∨ w.heap.size < g) := by
  have hb : Below w.heap.size w (w.alloc (.cells #[.int .i64 x.1.uid, .int .u8 (x.1.flags.toNat : Int), x.2] 44)) := (Below.refl _ w).alloc (Nat.le_refl _) _
  have hv' := hv.below hb
  obtain ⟨i, hi, hz, hs, hbs⟩ := info_parts infoLt
  have hcell : ∀ u ∈ cellsLV x, u.oneCell' = true := by
    intro u hu
    exact cellsP_cell (w := w) (l := [x]) (fun p hp => by rw [List.mem_singleton] at hp; subst hp; exact hx) u (by simpa [cellsP] using hu)
  obtain ⟨v', w', hr, ho, hg, hwh⟩ := app_own (P := Try.prog) _ 22 44 i _ 3 40 Try.underlying22 hi hz hs hbs rfl (by decide) v l.length (cellsP l) (World.ownsRow.mono hv' (Nat.zero_le _)) ⟨w.heap.size, 0, none⟩ 1 1 (cellsLV x) rfl (by decide)
    (fun j u hu => by rw [addr_plus, Nat.zero_add, cell_of_row _ _ _ _ _ _ (heap_alloc_new w _)]; simpa [cellsLV] using hu) hcell (by unfold maxLen; omega) (by omega)
  have hsz : (w.alloc (.cells #[.int .i64 x.1.uid, .int .u8 (x.1.flags.toNat : Int), x.2] 44)).heap.size = w.heap.size + 1 := by simp
  rw [hsz] at hwh
  have hg2 : w.grownBy w' v.ownBlock := ⟨hg.os.trans hb.os, hg.tape.trans hb.tape, hg.output.trans hb.output, Nat.le_trans hb.size hg.size, fun k hk hne => (hg.block k (Nat.lt_of_lt_of_le hk hb.size) hne).trans (hb.block k hk)⟩
  have hcl : cellsP (l ++ [x]) = cellsP l ++ cellsLV x := by rw [cellsP_app]; congr 1
  have hln : (l ++ [x]).length = l.length + 1 := by simp
  rw [← hcl, ← hln] at ho
  obtain ⟨a, c, rfl, _⟩ := owns_shape ho
  refine ⟨a, c, w', hr, ?_, hg2, fun g hgg => (hwh g hgg).imp id (fun h => by omega)⟩
  unfold Owns
  refine ⟨ho.1, ?_⟩
  rcases ho.2 with h0 | ⟨g, cap, cur, e, _, rest⟩
  · exact Or.inl h0
  · refine Or.inr ⟨g, cap, cur, e, ?_, rest⟩
    rcases hwh g (by rw [e]; rfl) with h1 | h1
    · exact (World.ownsRow.lt hv g h1).1
    · omega

/-- What was a byte is one; all else stands, and all that lies below N. -/
structure Sft (N : Nat) (w w' : World) : Prop where
  below : Below N w w'
  keep : ∀ p v, w.cell? p = some v → (∀ z, v ≠ .int .u8 z) → w'.cell? p = some v
  byte : ∀ p z, w.cell? p = some (.int .u8 z) → ∃ z', w'.cell? p = some (.int .u8 z')
  fz : ∀ p v, w.cell? p = some v → w'.frozen? p = w.frozen? p
theorem Sft.refl (N : Nat) (w : World) : Sft N w w := ⟨Below.refl _ _, fun _ _ h _ => h, fun _ z h => ⟨z, h⟩, fun _ _ _ => rfl⟩
theorem Sft.trans {N : Nat} {a b c : World} (h : Sft N a b) (k : Sft N b c) : Sft N a c := by
  refine ⟨h.below.trans k.below, fun p v hp hv => k.keep p v (h.keep p v hp hv) hv, fun p z hp => ?_, fun p v hp => ?_⟩
  · obtain ⟨z', h1⟩ := h.byte p z hp
    exact k.byte p z' h1
  · by_cases hv : ∃ z, v = .int .u8 z
    · obtain ⟨z, rfl⟩ := hv
      obtain ⟨z', h1⟩ := h.byte p z hp
      exact (k.fz p _ h1).trans (h.fz p _ hp)
    · exact (k.fz p v (h.keep p v hp (fun z e => hv ⟨z, e⟩))).trans (h.fz p _ hp)
theorem Sft.of_below {N : Nat} {w w' : World} (h : Below w.heap.size w w') (hN : N ≤ w.heap.size) : Sft N w w' :=
  ⟨h.mono hN, fun p v hp _ => (h.cell (World.block_lt_of_cell? w p hp)).trans hp, fun p z hp => ⟨z, (h.cell (World.block_lt_of_cell? w p hp)).trans hp⟩, fun p v hp => h.frozen (World.block_lt_of_cell? w p hp)⟩
theorem Sft.set {N : Nat} {w : World} {p : Addr} {z : Int} (h : w.cell? p = some (.int .u8 z)) (hN : N ≤ p.block) (y : Int) : Sft N w (w.setCell p (.int .u8 y)) := by
  refine ⟨(Below.refl _ _).setCell hN _, fun q v hq hv => ?_, fun q z' hq => ?_, fun q v hq => World.frozen?_setCell ..⟩
  · by_cases e : p = q
    · subst e
      rw [h] at hq
      injection hq with hq
      exact absurd hq.symm (hv z)
    · exact (World.cell?_setCell_other (h := e) ..).trans hq
  · by_cases e : p = q
    · subst e
      exact ⟨y, World.cell?_setCell_same _ _ _ h⟩
    · exact ⟨z', (World.cell?_setCell_other (h := e) ..).trans hq⟩
theorem Sft.size {N : Nat} {w w' : World} (h : Sft N w w') : w.heap.size ≤ w'.heap.size := h.below.size

/-- n bytes that may be turned, from block N on. -/
def SoftB (N : Nat) (w : World) (v : Value) (m : Nat) : Prop := ∃ a c, v = .slice a m c ∧ m ≤ 1000000 ∧ (0 < m → ∃ g o, a = some ⟨g, o, none⟩ ∧ N ≤ g ∧ ∀ k, k < m → (∃ z, w.cell? ⟨g, o + k, none⟩ = some (.int .u8 z)) ∧ w.frozen? ⟨g, o + k, none⟩ = false)
/-- Letters whose flags and bytes may be turned, from block N on. -/
def Soft (N : Nat) (w : World) (v : Value) (n : Nat) : Prop := ∃ a c, v = .slice a n c ∧ n ≤ 1000 ∧ (0 < n → ∃ g o, a = some ⟨g, o, none⟩ ∧ N ≤ g ∧ ∀ j, j < n → (∃ z, w.cell? ⟨g, o + j * 3 + 1, none⟩ = some (.int .u8 z)) ∧ w.frozen? ⟨g, o + j * 3 + 1, none⟩ = false ∧ ∃ bv m, w.cell? ⟨g, o + j * 3 + 2, none⟩ = some bv ∧ SoftB N w bv m)
theorem SoftB.sft {N : Nat} {w w' : World} {v : Value} {m : Nat} (h : SoftB N w v m) (hs : Sft N w w') : SoftB N w' v m := by
  obtain ⟨a, c, rfl, hm, h⟩ := h
  refine ⟨a, c, rfl, hm, fun h0 => ?_⟩
  obtain ⟨g, o, rfl, hN, hk⟩ := h h0
  refine ⟨g, o, rfl, hN, fun k hkm => ?_⟩
  obtain ⟨⟨z, h1⟩, h2⟩ := hk k hkm
  exact ⟨hs.byte _ z h1, (hs.fz _ _ h1).trans h2⟩
theorem Soft.sft {N : Nat} {w w' : World} {v : Value} {n : Nat} (h : Soft N w v n) (hs : Sft N w w') : Soft N w' v n := by
  obtain ⟨a, c, rfl, hn, h⟩ := h
  refine ⟨a, c, rfl, hn, fun h0 => ?_⟩
  obtain ⟨g, o, rfl, hN, hj⟩ := h h0
  refine ⟨g, o, rfl, hN, fun j hjn => ?_⟩
  obtain ⟨⟨z, h1⟩, h2, bv, m, h3, h4⟩ := hj j hjn
  have hbv : ∀ z, bv ≠ .int .u8 z := fun z e => by
    obtain ⟨a', c', e', _⟩ := h4
    rw [e'] at e
    cases e
  exact ⟨hs.byte _ z h1, (hs.fz _ _ h1).trans h2, bv, m, hs.keep _ _ h3 hbv, h4.sft hs⟩
theorem soft_row {N : Nat} {w : World} {v : Value} {l : List UInt8} (h : Row N w v l) (hl : l.length ≤ 1000000) : SoftB N w v l.length := by
  obtain ⟨⟨a, cap, rfl, h2, h3, h4⟩, hr⟩ := h
  refine ⟨a, cap, rfl, hl, fun hn => ?_⟩
  cases a with
  | none => have := h3 rfl; omega
  | some ad =>
    obtain ⟨g, off, rfl, hg, hc⟩ := h4 ad rfl
    obtain ⟨hB, _, hf⟩ := hr _ _ _ rfl
    exact ⟨g, off, rfl, hB, fun k hk => ⟨⟨_, hc k hk⟩, (hf k (by omega)).2⟩⟩
theorem soft_owns {N : Nat} {w : World} {a : Option Addr} {c : Nat} {qs : List LV} (h : Owns N w (.slice a qs.length c) qs) (hf : Fresh N w a qs) (hn : qs.length ≤ 1000) (hl : ∀ q ∈ qs, q.1.bytes.length ≤ 1000000) : Soft N w (.slice a qs.length c) qs.length := by
  refine ⟨a, c, rfl, hn, fun h0 => ?_⟩
  rcases h.2 with ⟨_, e⟩ | ⟨g, cap, cur, e, hN, _⟩
  · omega
  · injection e with e1 _ e2
    subst e1 e2
    refine ⟨g, 0, rfl, hN, fun j hj => ?_⟩
    have hq := List.getElem?_eq_getElem hj
    obtain ⟨_, x1, x2⟩ := cellsP_at qs j _ hq
    have y1 := World.ownsRow.cellAt h (j * 3 + 1) (by omega)
    have y2 := World.ownsRow.cellAt h (j * 3 + 2) (by omega)
    rw [x1] at y1
    rw [x2] at y2
    rw [Nat.zero_add]
    exact ⟨⟨_, y1⟩, World.ownsRow.frozenAt h _, _, _, y2, soft_row (hf _ (List.getElem_mem hj)).1 (hl _ (List.getElem_mem hj))⟩
theorem soft_none (N : Nat) (w : World) (a : Option Addr) (c : Nat) : Soft N w (.slice a 0 c) 0 := ⟨a, c, rfl, by omega, fun h => absurd h (by omega)⟩
end Go.Proofs.Ytpmakbjchepkmaa
namespace Go.Proofs.Ytpmakbjchepkmaa
open Go Go.RowKit

theorem right_small {valid next : Int} {l : List Letr} (h : chk valid next l = 0) : l.length ≤ 1000 ∧ ∀ x ∈ l, x.bytes.length ≤ 1000000 := by
  obtain ⟨_, _, c, d⟩ := chk_ok h
  exact ⟨by omega, fun x hx => by have := d.bytes x hx; omega⟩
theorem soft_right {N : Nat} {w : World} {valid next : Int} {a : Option Addr} {c : Nat} {qs : List LV} (h : Owns N w (.slice a qs.length c) qs) (hf : Fresh N w a qs) (hr : chk valid next (qs.map (·.1)) = 0) : Soft N w (.slice a qs.length c) qs.length := by
  obtain ⟨h1, h2⟩ := right_small hr
  rw [List.length_map] at h1
  exact soft_owns h hf h1 (fun q hq => h2 q.1 (List.mem_map.2 ⟨q, hq, rfl⟩))
theorem flagE_chk {valid next : Int} {l : List Letr} {u how : Int} {flags : UInt8} (h : flagE valid next l u how flags = 0) : chk valid next (flagL l u how flags) = 0 := by
  have h2 := flag_more (how' := 0) h ⟨by omega, by omega⟩
  unfold flagE at h2
  split at h2
  · rename_i h0; exact absurd h2 h0
  · rename_i h0; simpa using h0
theorem cutE_chk {valid next : Int} {l : List Letr} {u : Int} (h : cutE valid next l u = 0) : chk valid next (cutL l u) = 0 := by
  unfold cutE at h
  split at h
  · rename_i h0; exact absurd h h0
  · rename_i h0; exact cut_right u (by simpa using h0)
/-- What a call tells of a box that may be turned. -/
def OwnT2 (N : Nat) (W : World) (e : Ending) (w' : World) : Prop :=
  ∃ nm vl nx a n c E, e = .returned (.tuple #[.agg #[.string nm, .int .i64 vl, .int .i64 nx, .slice a n c], .int .i64 E]) ∧ Soft N w' (.slice a n c) n ∧ Below W.heap.size W w'
def OwnT3 (N : Nat) (W : World) (e : Ending) (w' : World) : Prop :=
  ∃ nm vl nx a n c m E, e = .returned (.tuple #[.agg #[.string nm, .int .i64 vl, .int .i64 nx, .slice a n c], .int .i64 m, .int .i64 E]) ∧ Soft N w' (.slice a n c) n ∧ Below W.heap.size W w'
theorem SoftB.mono {N N' : Nat} {w : World} {v : Value} {m : Nat} (h : SoftB N w v m) (hN : N' ≤ N) : SoftB N' w v m := by
  obtain ⟨a, c, rfl, hm, h⟩ := h
  exact ⟨a, c, rfl, hm, fun h0 => by obtain ⟨g, o, e, h1, h2⟩ := h h0; exact ⟨g, o, e, by omega, h2⟩⟩
theorem Soft.mono {N N' : Nat} {w : World} {v : Value} {n : Nat} (h : Soft N w v n) (hN : N' ≤ N) : Soft N' w v n := by
  obtain ⟨a, c, rfl, hn, h⟩ := h
  refine ⟨a, c, rfl, hn, fun h0 => ?_⟩
  obtain ⟨g, o, e, h1, h2⟩ := h h0
  refine ⟨g, o, e, by omega, fun j hj => ?_⟩
  obtain ⟨x1, x2, bv, m, x3, x4⟩ := h2 j hj
  exact ⟨x1, x2, bv, m, x3, x4.mono hN⟩
theorem own_add (N : Nat) (name : ByteArray) (valid next : Int) (sv : Value) (ps : List LV) (pv : Value) (p : List UInt8) (w : World) (hN : N ≤ w.heap.size) (h : Lets w sv ps) (hlen : ps.length ≤ 9223372036854775807) (hp : Byz w pv p) :
    Calls Try.prog 15 #[boxV name valid next sv, .int .u8 0, pv] w (OwnT3 N w) := by
  refine (add_any name valid next sv ps 0 pv p w h hlen hp).mono ?_
  rintro e w' ⟨hb, h1, h2⟩
  by_cases hE : addE valid next (ps.map (·.1)) 0 p.length = 0
  · obtain ⟨a, c, qs, rfl, ho, hq, hf⟩ := h2 hE
    exact ⟨_, _, _, a, _, c, _, _, rfl, (soft_right ho hf (by rw [hq]; exact add_right hE)).mono hN, hb⟩
  · exact ⟨_, _, _, _, _, _, _, _, h1 hE, soft_none _ _ _ _, hb⟩
theorem own_flag (N : Nat) (name : ByteArray) (valid next : Int) (sv : Value) (ps : List LV) (u how : Int) (fl : UInt8) (w : World) (hN : N ≤ w.heap.size) (h : Lets w sv ps) (hlen : ps.length ≤ 9223372036854775807) :
    Calls Try.prog 18 #[boxV name valid next sv, .int .i64 u, .int .i64 how, .int .u8 (fl.toNat : Int)] w (OwnT2 N w) := by
  refine (flag_any name valid next sv ps u how fl w h hlen).mono ?_
  rintro e w' ⟨hb, h1, h2⟩
  by_cases hE : flagE valid next (ps.map (·.1)) u how fl = 0
  · obtain ⟨a, c, qs, rfl, ho, hq, hf⟩ := h2 hE
    exact ⟨_, _, _, a, _, c, _, rfl, (soft_right ho hf (by rw [hq]; exact flagE_chk hE)).mono hN, hb⟩
  · exact ⟨_, _, _, _, _, _, _, h1 hE, soft_none _ _ _ _, hb⟩
theorem own_cut (N : Nat) (name : ByteArray) (valid next : Int) (sv : Value) (ps : List LV) (u : Int) (w : World) (hN : N ≤ w.heap.size) (h : Lets w sv ps) (hlen : ps.length ≤ 9223372036854775807) :
    Calls Try.prog 20 #[boxV name valid next sv, .int .i64 u] w (OwnT2 N w) := by
  refine (cut_any name valid next sv ps u w h hlen).mono ?_
  rintro e w' ⟨hb, h1, h2⟩
  by_cases hE : cutE valid next (ps.map (·.1)) u = 0
  · obtain ⟨a, c, qs, rfl, ho, hq, hf⟩ := h2 hE
    exact ⟨_, _, _, a, _, c, _, rfl, (soft_right ho hf (by rw [hq]; exact cutE_chk hE)).mono hN, hb⟩
  · exact ⟨_, _, _, _, _, _, _, h1 hE, soft_none _ _ _ _, hb⟩

/-- At a round's head of the copy. -/
structure KMid (w wr : World) (name : ByteArray) (valid next : Int) (sv : Value) (u how : Int) (fl : UInt8) (ps : List LV) (k : Nat) (a : Option Addr) (c : Nat) (qs : List LV) : Prop where
  b0 : BoxW wr w.heap.size name valid next sv
  tn : TurnW wr (w.heap.size + 1) u how fl
  bk : BoxW wr (w.heap.size + 1 + 1) name valid next (.slice a qs.length c)
  own : Owns (w.heap.size + 3) wr (.slice a qs.length c) qs
  fresh : Fresh (w.heap.size + 3) wr a qs
  map : qs.map (·.1) = (ps.take k).map (·.1)
  below : Below w.heap.size w wr
/-- One more letter. -/
theorem KMid.step {w wr w4 w6 : World} {name : ByteArray} {valid next : Int} {sv : Value} {u how : Int} {fl : UInt8} {ps : List LV} {k : Nat} {a a6 : Option Addr} {c c6 : Nat} {qs : List LV} {x : LV} (h : KMid w wr name valid next sv u how fl ps k a c qs)
    (p : LV) (hk : ps[k]? = some p) (hx : x.1 = p.1) (h4 : Below wr.heap.size wr w4) (hrow : Row wr.heap.size w4 x.2 x.1.bytes)
    (ho : Owns (w.heap.size + 3) w6 (.slice a6 (qs ++ [x]).length c6) (qs ++ [x])) (hg : w4.grownBy w6 (Value.slice a qs.length c).ownBlock) (hwh : ∀ g, (Value.slice a6 (qs ++ [x]).length c6).ownBlock = some g → (Value.slice a qs.length c).ownBlock = some g ∨ w4.heap.size < g) :
    KMid w (w6.setCell ⟨w.heap.size + 1 + 1, 3, none⟩ (.slice a6 (qs ++ [x]).length c6)) name valid next sv u how fl ps (k + 1) a6 c6 (qs ++ [x]) ∧ BoxW w6 (w.heap.size + 1 + 1) name valid next (.slice a qs.length c) := by
  have hlt := h.bk.lt
  have hrow0 : ∀ g, (Value.slice a qs.length c).ownBlock = some g → w.heap.size + 3 ≤ g ∧ g < wr.heap.size := fun g hg => World.ownsRow.lt h.own g hg
  have hsn := h4.size
  have hb : ∀ b, b < w.heap.size + 3 → w6.heap[b]? = wr.heap[b]? := fun b h1 => (hg.block b (by omega) (fun e => by have := (hrow0 b e.symm).1; omega)).trans (h4.block b (by omega))
  have hbw : Below w.heap.size w w6 := (h.below.trans (h4.mono h.below.size)).grown hg (by have := h.below.size; omega) (fun k hk => by have := (hrow0 k hk).1; omega)
  have hfr := add_last (B := w.heap.size + 3) (a := a) (a3 := a6) (c := c) (c3 := c6) x h.fresh h4 (by omega) hrow (h.own.below h4) hg hwh (fun g hgg => ⟨(hrow0 g hgg).2, by
    have ho' := h.own
    rcases ho'.2 with ⟨e, _⟩ | ⟨g', cap, cur, e, _⟩
    · rw [e] at hgg; simp [Value.ownBlock] at hgg
    · injection e with e1 _ _; exact ⟨g', e1⟩⟩)
  have hf : Fr (· = w.heap.size + 1 + 1) w6 (w6.setCell ⟨w.heap.size + 1 + 1, 3, none⟩ (.slice a6 (qs ++ [x]).length c6)) := (Fr.refl (· = w.heap.size + 1 + 1) w6).setCell ⟨w.heap.size + 1 + 1, 3, none⟩ (Or.inl rfl) _
  have hbk : BoxW w6 (w.heap.size + 1 + 1) name valid next (.slice a qs.length c) := h.bk.kept (hb _ (by omega))
  have htn : TurnW w6 (w.heap.size + 1) u how fl := ⟨(World.cell?_of_block (a := ⟨w.heap.size + 1, 0, none⟩) (hb (w.heap.size + 1) (by omega))).trans h.tn.c0, (World.cell?_of_block (a := ⟨w.heap.size + 1, 1, none⟩) (hb (w.heap.size + 1) (by omega))).trans h.tn.c1, (World.cell?_of_block (a := ⟨w.heap.size + 1, 2, none⟩) (hb (w.heap.size + 1) (by omega))).trans h.tn.c2⟩
  refine ⟨⟨(h.b0.kept (hb _ (by omega))).kept (setCell_kept _ _ _ _ (by simp <;> omega)), ?_, hbk.set3 _, Owns.fr ho hf (fun k e => by omega), Fresh.fr hfr hf (fun k e => by omega), ?_, hbw.setCell (by simp <;> omega) _⟩, hbk⟩
  · have hk2 : (w6.setCell ⟨w.heap.size + 1 + 1, 3, none⟩ (.slice a6 (qs ++ [x]).length c6)).heap[w.heap.size + 1]? = w6.heap[w.heap.size + 1]? := setCell_kept _ _ _ _ (by simp <;> omega)
    exact ⟨(World.cell?_of_block (a := ⟨w.heap.size + 1, 0, none⟩) hk2).trans htn.c0, (World.cell?_of_block (a := ⟨w.heap.size + 1, 1, none⟩) hk2).trans htn.c1, (World.cell?_of_block (a := ⟨w.heap.size + 1, 2, none⟩) hk2).trans htn.c2⟩
  · rw [List.map_append, h.map, List.take_add_one, hk, Option.toList_some, List.map_append, List.map_cons, List.map_cons, hx]
end Go.Proofs.Ytpmakbjchepkmaa
namespace Go.Proofs.Ytpmakbjchepkmaa
open Go Go.RowKit

theorem over1 (w : World) (ob : Obj) : Below w.heap.size w (w.alloc ob) := (Below.refl _ _).alloc (Nat.le_refl _) _
theorem over2 (w : World) (ob ob' : Obj) : Below w.heap.size w ((w.alloc ob).alloc ob') := (over1 w ob).alloc (over1 w ob).size _

set_option maxHeartbeats 16000000 in
set_option maxRecDepth 100000 in
theorem walk_own (name : ByteArray) (valid next : Int) (sv pv : Value) (ps : List LV) (pl : List UInt8) (u how : Int) (fl : UInt8) (w : World) (h : BoxIn w name valid next sv ps) (hp : Byz w pv pl) (hM : Ml w)
    (hP : ps.length * 40 ≤ 140737488351232) (hPB : ∀ p ∈ ps, p.1.bytes.length ≤ 140737488351232) :
    Calls Try.prog 9 #[boxV name valid next sv, pv, turnV u how fl] w fun e w' => e = .returned (.bool true) ∧ Below w.heap.size w w' := by
  have hst : ∀ W, W = (((w.alloc (.cells #[.string name, .int .i64 valid, .int .i64 next, sv] 24)).alloc (.cells #[.int .i64 u, .int .i64 how, .int .u8 (fl.toNat : Int)] 36)).alloc (.cells #[.string name, .int .i64 valid, .int .i64 next, .slice none 0 0] 24)) → KMid w W name valid next sv u how fl ps 0 none 0 [] := by
    intro W hW
    subst hW
    have x0 := BoxW.new w name valid next sv 24
    have x2 := BoxW.new ((w.alloc (.cells #[.string name, .int .i64 valid, .int .i64 next, sv] 24)).alloc (.cells #[.int .i64 u, .int .i64 how, .int .u8 (fl.toNat : Int)] 36)) name valid next (.slice none 0 0) 24
    simp only [World.size_alloc] at x2
    have htn : TurnW ((w.alloc (.cells #[.string name, .int .i64 valid, .int .i64 next, sv] 24)).alloc (.cells #[.int .i64 u, .int .i64 how, .int .u8 (fl.toNat : Int)] 36)) (w.heap.size + 1) u how fl := by
      have a := fun j v (hj : (#[.int .i64 u, .int .i64 how, .int .u8 (fl.toNat : Int)] : Array Value)[j]? = some v) => (two_boxes w #[.string name, .int .i64 valid, .int .i64 next, sv] #[.int .i64 u, .int .i64 how, .int .u8 (fl.toNat : Int)] 24 36 j).2.trans hj
      exact ⟨a 0 _ rfl, a 1 _ rfl, a 2 _ rfl⟩
    exact ⟨x0.below (over2 _ _ _) (by simp), htn.below (over1 _ _) (by simp), x2, ⟨rfl, Or.inl ⟨rfl, rfl⟩⟩, fun q hq => by simp at hq, rfl, chain_alloc _ (chain_alloc _ (chain_alloc _ (Below.refl _ _)))⟩
  have hl := h.lets
  have hlen := h.len
  obtain ⟨sa, sc, hsv, g1, o1, hg1, hc1⟩ := hl.opened
  subst hsv
  obtain ⟨⟨pa, pc, hpv⟩, _⟩ := id hp
  subst hpv
  unfold boxV turnV
  obtain ⟨W0, hW0⟩ : ∃ W0, W0 = (((w.alloc (.cells #[.string name, .int .i64 valid, .int .i64 next, .slice sa ps.length sc] 24)).alloc (.cells #[.int .i64 u, .int .i64 how, .int .u8 (fl.toNat : Int)] 36)).alloc (.cells #[.string name, .int .i64 valid, .int .i64 next, .slice none 0 0] 24)) := ⟨_, rfl⟩
  have HST := Lib.hid (hst W0 hW0)
  have HW0 := Lib.hid hW0
  have HL := Lib.hid hl
  have HP0 := Lib.hid hp
  have HC1 := Lib.hid hc1
  have HG1 := Lib.hid hg1
  have HMM := Lib.hid hM
  have HPP := Lib.hid hP
  have HPB := Lib.hid hPB
  clear hst hW0 hl h hp hc1 hg1 hM hP hPB
  go_enter Try.func9, Try.ntmps9
  go_wp2_with (first | rw [← HW0.out])
  go_loopw [8] (fun i wr => ∃ (k : Nat) (a : Option Addr) (c : Nat) (qs : List LV), k ≤ ps.length ∧ i = .int .i64 k ∧ KMid w wr name valid next (.slice sa ps.length sc) u how fl ps k a c qs) (fun i _ => ps.length - (intOf i).toNat)
  case atStart => exact ⟨0, none, 0, [], Nat.zero_le _, rfl, HST.out⟩
  case round =>
    obtain ⟨k, a, c, qs, hk, rfl, hmid⟩ := hrel
    have hb := hmid.below
    have HMID := Lib.hid hmid
    obtain ⟨c0, c1, c2, c3, _⟩ := hmid.b0
    clear hmid
    by_cases hlt : k < ps.length
    · have hpk := List.getElem?_eq_getElem hlt
      generalize ps[k] = q at hpk
      have hne : ps ≠ [] := fun e => by subst e; simp at hlt
      obtain ⟨rfl, hgl⟩ := HG1.out hne
      obtain ⟨p0, p1, p2⟩ := HC1.out k _ hpk
      have m0 := (hb.cell (p := ⟨g1, o1 + k * 3, none⟩) hgl).trans p0
      have m1 := (hb.cell (p := ⟨g1, o1 + k * 3 + 1, none⟩) hgl).trans p1
      have m2 := (hb.cell (p := ⟨g1, o1 + k * 3 + 2, none⟩) hgl).trans p2
      have hk1 : (k : Int) < (ps.length : Int) := by omega
      have hqm := List.mem_of_getElem? hpk
      have hby := (HL.out.bytes _ hqm).below hb
      obtain ⟨⟨qu, qf, qb⟩, qv⟩ := q
      simp only at m0 m1 m2 hby
      obtain ⟨⟨qa, qc, hqv⟩, _⟩ := id hby
      subst hqv
      have hy1 : Below wr.heap.size wr (wr.alloc (.cells #[.int .i64 qu, .int .u8 (qf.toNat : Int), .slice qa qb.length qc] 44)) := (Below.refl _ wr).alloc (Nat.le_refl _) _
      obtain ⟨W1, hW1⟩ : ∃ W1, W1 = wr.alloc (.cells #[.int .i64 qu, .int .u8 (qf.toNat : Int), .slice qa qb.length qc] 44) := ⟨_, rfl⟩
      have hs1 : W1.heap.size = wr.heap.size + 1 := by rw [hW1]; simp
      have l0 : W1.cell? ⟨wr.heap.size, 0, none⟩ = some (.int .i64 qu) := by rw [hW1, cell_of_row _ _ _ _ _ _ (heap_alloc_last wr _)]; rfl
      have l1 : W1.cell? ⟨wr.heap.size, 1, none⟩ = some (.int .u8 (qf.toNat : Int)) := by rw [hW1, cell_of_row _ _ _ _ _ _ (heap_alloc_last wr _)]; rfl
      have l2 : W1.cell? ⟨wr.heap.size, 2, none⟩ = some (.slice qa qb.length qc) := by rw [hW1, cell_of_row _ _ _ _ _ _ (heap_alloc_last wr _)]; rfl
      have l3 : W1.frozen? ⟨wr.heap.size, 2, none⟩ = false := by rw [hW1]; exact World.frozen?_alloc_new _ _ _ _
      rw [← hW1] at hy1
      obtain ⟨a3, c3', X3, hr3, ho3, hb3⟩ := own_bytes W1 (.slice qa qb.length qc) qb (hby.below hy1) (HPB.out _ hqm)
      obtain ⟨W2, hW2⟩ : ∃ W2, W2 = W1.alloc (.cells #[] 5) := ⟨_, rfl⟩
      have hy2 : Below W1.heap.size W1 W2 := by rw [hW2]; exact over1 _ _
      rw [← hW2] at hr3
      have e2 := (hy2.cell (p := ⟨wr.heap.size, 2, none⟩) (by simp only; omega)).trans l2
      have e3 := (hb3.cell (p := ⟨wr.heap.size, 2, none⟩) (by simp only; omega)).trans l2
      have e4 := (hb3.frozen (p := ⟨wr.heap.size, 2, none⟩) (by simp only; omega)).trans l3
      obtain ⟨W4, hW4⟩ : ∃ W4, W4 = X3.setCell ⟨wr.heap.size, 2, none⟩ (.slice a3 qb.length c3') := ⟨_, rfl⟩
      have hf4 : Fr (· = wr.heap.size) X3 W4 := by rw [hW4]; exact (Fr.refl (· = wr.heap.size) X3).setCell ⟨wr.heap.size, 2, none⟩ (Or.inl rfl) _
      have n2 : W4.cell? ⟨wr.heap.size, 2, none⟩ = some (.slice a3 qb.length c3') := by rw [hW4]; exact World.cell?_setCell_same _ _ _ e3
      have n0 : W4.cell? ⟨wr.heap.size, 0, none⟩ = some (.int .i64 qu) := by rw [hW4]; exact (World.cell?_setCell_other _ _ _ _ (by simp)).trans ((hb3.cell (p := ⟨wr.heap.size, 0, none⟩) (by simp only; omega)).trans l0)
      have n1 : W4.cell? ⟨wr.heap.size, 1, none⟩ = some (.int .u8 (qf.toNat : Int)) := by rw [hW4]; exact (World.cell?_setCell_other _ _ _ _ (by simp)).trans ((hb3.cell (p := ⟨wr.heap.size, 1, none⟩) (by simp only; omega)).trans l1)
      have hrow4 : Row W1.heap.size W4 (.slice a3 qb.length c3') qb := ho3.fr hf4 (fun k e => by omega)
      have hbx : Below wr.heap.size wr X3 := hy1.trans (hb3.mono hy1.size)
      have h4 : Below wr.heap.size wr W4 := hbx.trans (hf4.below hbx.size (fun k e => by omega))
      obtain ⟨z0, z1, z2, z3, _⟩ := HMID.out.bk.below h4 HMID.out.bk.lt
      have hql : qs.length = k := by have := congrArg List.length HMID.out.map; simpa [Nat.min_eq_left hk] using this
      obtain ⟨a6, c6, X6, hr6, ho6, hg6, hwh6⟩ := app_more W4 ((⟨qu, qf, qb⟩ : Letr), Value.slice a3 qb.length c3') (HMID.out.own.below h4) (by have := HMID.out.bk.lt; have := h4.size; omega) (by have := HPP.out; omega) hrow4.1.z
      obtain ⟨hstep, hbk6⟩ := HMID.out.step (p := ((⟨qu, qf, qb⟩ : Letr), Value.slice qa qb.length qc)) (x := ((⟨qu, qf, qb⟩ : Letr), Value.slice a3 qb.length c3')) hpk rfl h4 (hrow4.mono (by omega)) ho6 hg6 hwh6
      obtain ⟨_, _, _, y3, _, _, _, y7⟩ := hbk6
      rw [show (qs ++ [((⟨qu, qf, qb⟩ : Letr), Value.slice a3 qb.length c3')]).length = qs.length + 1 by simp] at hstep hr6
      have HSTEP := Lib.hid hstep
      have HR3 := Lib.hid hr3
      have HR6 := Lib.hid hr6
      have HW1 := Lib.hid hW1
      have HW2 := Lib.hid hW2
      have HW4 := Lib.hid hW4
      clear hstep hr3 hr6 hW1 hW2 hW4 hy1 hy2 hs1 l3 hf4 hrow4 hbx h4 ho3 hb3 ho6 hg6 hwh6 hql hby hqm hpk hne p0 p1 p2 hb
      go_wp2_with (first
        | (at_builtin; first
            | refine wpList_append_run _ rfl _ _ 30 30 rfl _ _ rfl rfl _ X3 HR3.out ?_
            | refine wpList_append_run _ rfl _ _ 22 22 rfl _ _ rfl rfl _ X6 HR6.out ?_)
        | rw [← HW1.out] | rw [← HW2.out] | rw [← HW4.out])
      go_roundw
      case rel => exact ⟨k + 1, a6, c6, _, by omega, by go_num, HSTEP.out⟩
      case measure => simp [intOf]; omega
    · have hk2 : k = ps.length := by omega
      subst hk2
      obtain ⟨wo, rfl⟩ : ∃ wo : World, wo = wr := ⟨_, rfl⟩
      have hcv : (convert 30 9 (.slice pa pl.length pc)).run Try.prog wo = .ok (.string ⟨pl.toArray⟩) wo := run_byz_string _ _ _ 5 Try.underlying30 Try.underlying5 Try.underlying9 (HP0.out.below hb)
      have h0l := HL.out.below hb
      have hmap : qs.map (·.1) = ps.map (·.1) := by have := HMID.out.map; rwa [List.take_length] at this
      have hll : qs.length = ps.length := by have := congrArg List.length hmap; simpa using this
      have HKL := Lib.hid (HMID.out.own.lets (fun q hq => (HMID.out.fresh q hq).1.1.z))
      have HMAP := Lib.hid hmap
      have HLL := Lib.hid hll
      have HBW := Lib.hid hb
      have HBX := Lib.hid HMID.out.b0
      have HTN := Lib.hid HMID.out.tn
      have HBK := Lib.hid HMID.out.bk
      have HL0 := Lib.hid h0l
      have HPW := Lib.hid (HP0.out.below hb)
      have HX := Lib.hid (own_add wo.heap.size name valid next (.slice sa ps.length sc) ps (.slice pa pl.length pc) pl wo (Nat.le_refl _) h0l hlen (HP0.out.below hb))
      have HY := Lib.hid (fun W (hW : Below wo.heap.size wo W) => own_flag wo.heap.size name valid next (.slice sa ps.length sc) ps u how fl W hW.size (h0l.below hW) hlen)
      have HZ := Lib.hid (fun W (hW : Below wo.heap.size wo W) => own_cut wo.heap.size name valid next (.slice sa ps.length sc) ps u W hW.size (h0l.below hW) hlen)
      unfold boxV at HX HY HZ
      clear hb h0l hmap hll HMID HST HG1 HC1 HPP HPB HW0 HP0 HL
      go_wp2_with fail
      refine HX.out.mono ?_
      rintro e w1 ⟨n1, v1, x1, a1, m1, k1, u1, E1, rfl, hs1, hb1⟩
      obtain ⟨W1, hW1⟩ : ∃ W1, W1 = w1.alloc (.cells #[.string n1, .int .i64 v1, .int .i64 x1, .slice a1 m1 k1] 24) := ⟨_, rfl⟩
      have hy1 : Below w1.heap.size w1 W1 := by rw [hW1]; exact over1 _ _
      have hx1 := BoxW.new w1 n1 v1 x1 (.slice a1 m1 k1) 24
      rw [← hW1] at hx1
      have HB1 := Lib.hid (hb1.trans (hy1.mono hb1.size))
      have HS1 := Lib.hid (hs1.sft (Sft.of_below hy1 hb1.size))
      have HX1 := Lib.hid hx1
      have HW1 := Lib.hid hW1
      have HY1 := Lib.hid (HY.out W1 HB1.out)
      clear hs1 hb1 hy1 hx1 hW1 HX HY c0 c1 c2 c3 hcv
      obtain ⟨c0, c1, c2, c3, _⟩ := HBX.out.below HB1.out HBX.out.lt
      obtain ⟨d0, d1, d2⟩ := HTN.out.below HB1.out HTN.out.lt
      go_wp2_with (first | rw [← HW1.out])
      refine HY1.out.mono ?_
      rintro e w2 ⟨n2, v2, x2, a2, m2, k2, E2, rfl, hs2, hb2⟩
      obtain ⟨W2, hW2⟩ : ∃ W2, W2 = w2.alloc (.cells #[.string n2, .int .i64 v2, .int .i64 x2, .slice a2 m2 k2] 24) := ⟨_, rfl⟩
      have hy2 : Below w2.heap.size w2 W2 := by rw [hW2]; exact over1 _ _
      have hx2 := BoxW.new w2 n2 v2 x2 (.slice a2 m2 k2) 24
      rw [← hW2] at hx2
      have hb12 := hb2.trans (hy2.mono hb2.size)
      have HB2 := Lib.hid (HB1.out.trans (hb12.mono HB1.out.size))
      have HS12 := Lib.hid (HS1.out.sft (Sft.of_below hb12 HB1.out.size))
      have HS2 := Lib.hid (hs2.sft (Sft.of_below hy2 (Nat.le_trans HB1.out.size hb2.size)))
      have HX12 := Lib.hid (HX1.out.below hb12 HX1.out.lt)
      have HX2 := Lib.hid hx2
      have HW2 := Lib.hid hW2
      have HZ2 := Lib.hid (HZ.out W2 HB2.out)
      clear hs2 hb2 hy2 hx2 hW2 hb12 HY1 HZ c0 c1 c2 c3 d0 d1 d2 HS1 HX1 HW1
      obtain ⟨c0, c1, c2, c3, _⟩ := HBX.out.below HB2.out HBX.out.lt
      obtain ⟨d0, d1, d2⟩ := HTN.out.below HB2.out HTN.out.lt
      go_wp2_with (first | rw [← HW2.out])
      refine HZ2.out.mono ?_
      rintro e w3 ⟨n3, v3, x3, a3, m3, k3, E3, rfl, hs3, hb3⟩
      obtain ⟨W3, hW3⟩ : ∃ W3, W3 = w3.alloc (.cells #[.string n3, .int .i64 v3, .int .i64 x3, .slice a3 m3 k3] 24) := ⟨_, rfl⟩
      have hy3 : Below w3.heap.size w3 W3 := by rw [hW3]; exact over1 _ _
      have hx3 := BoxW.new w3 n3 v3 x3 (.slice a3 m3 k3) 24
      rw [← hW3] at hx3
      have hb23 := hb3.trans (hy3.mono hb3.size)
      have hB3 := HB2.out.trans (hb23.mono HB2.out.size)
      obtain ⟨W4, hW4⟩ : ∃ W4, W4 = W3.alloc (.cells #[.string n1, .int .i64 v1, .int .i64 x1, .slice a1 m1 k1, .string n2, .int .i64 v2, .int .i64 x2, .slice a2 m2 k2, .string n3, .int .i64 v3, .int .i64 x3, .slice a3 m3 k3] 24) := ⟨_, rfl⟩
      have hy4 : Below W3.heap.size W3 W4 := by rw [hW4]; exact over1 _ _
      have hrow := fun j v (hj : (#[.string n1, .int .i64 v1, .int .i64 x1, .slice a1 m1 k1, .string n2, .int .i64 v2, .int .i64 x2, .slice a2 m2 k2, .string n3, .int .i64 v3, .int .i64 x3, .slice a3 m3 k3] : Array Value)[j]? = some v) => (show W4.cell? ⟨W3.heap.size, j, none⟩ = some v by rw [hW4, cell_of_row _ _ _ _ _ _ (heap_alloc_last W3 _)]; exact hj)
      have HB4 := Lib.hid (hB3.trans (hy4.mono hB3.size))
      have hs14 := (HS12.out.sft (Sft.of_below hb23 HB2.out.size)).sft (Sft.of_below hy4 hB3.size)
      have hs24 := (HS2.out.sft (Sft.of_below hb23 HB2.out.size)).sft (Sft.of_below hy4 hB3.size)
      have hs34 := (hs3.sft (Sft.of_below hy3 (Nat.le_trans HB2.out.size hb3.size))).sft (Sft.of_below hy4 hB3.size)
      have HBOX := Lib.hid (show ∀ i, i < 3 → ∃ nm vl nx a m c, W4.cell? ⟨W3.heap.size, i * 4, none⟩ = some (.string nm) ∧ W4.cell? ⟨W3.heap.size, i * 4 + 1, none⟩ = some (.int .i64 vl) ∧ W4.cell? ⟨W3.heap.size, i * 4 + 2, none⟩ = some (.int .i64 nx) ∧ W4.cell? ⟨W3.heap.size, i * 4 + 3, none⟩ = some (.slice a m c) ∧ Soft wo.heap.size W4 (.slice a m c) m from fun i hi => by
        have hi3 : i = 0 ∨ i = 1 ∨ i = 2 := by omega
        rcases hi3 with rfl | rfl | rfl
        · exact ⟨_, _, _, _, _, _, hrow 0 _ rfl, hrow 1 _ rfl, hrow 2 _ rfl, hrow 3 _ rfl, hs14⟩
        · exact ⟨_, _, _, _, _, _, hrow 4 _ rfl, hrow 5 _ rfl, hrow 6 _ rfl, hrow 7 _ rfl, hs24⟩
        · exact ⟨_, _, _, _, _, _, hrow 8 _ rfl, hrow 9 _ rfl, hrow 10 _ rfl, hrow 11 _ rfl, hs34⟩)
      have HW3 := Lib.hid hW3
      have HW4 := Lib.hid hW4
      have hsz3 : W3.heap.size < W4.heap.size := by rw [hW4]; simp
      obtain ⟨r0, r1, r2, r3, _⟩ := HX12.out.below hb23 HX12.out.lt
      obtain ⟨s0, s1, s2, s3, _⟩ := HX2.out.below hb23 HX2.out.lt
      obtain ⟨t0, t1, t2, t3, _⟩ := hx3
      clear hs3 hb3 hy3 hW3 hb23 hB3 hW4 hy4 hrow hs14 hs24 hs34 HZ2 c0 c1 c2 c3 d0 d1 d2 HS12 HS2 HX12 HX2 HW2 HB2 HB1 HTN
      go_wp2_with (first | rw [← HW3.out] | rw [← HW4.out])
      clear r0 r1 r2 r3 s0 s1 s2 s3 t0 t1 t2 t3 HW3 HW4
      go_loopw [79] (fun i wr => ∃ k : Nat, k ≤ 3 ∧ i = .int .i64 k ∧ Sft wo.heap.size W4 wr) (fun i _ => 3 - (intOf i).toNat)
      case atStart => exact ⟨0, by omega, rfl, Sft.refl _ _⟩
      case round =>
        obtain ⟨k, hk, rfl, hsf⟩ := hrel
        have HSF := Lib.hid hsf
        by_cases hlt : k < 3
        · obtain ⟨nm, vl, nx, a, m, c, q0, q1, q2, q3, q4⟩ := HBOX.out k hlt
          have p0 := hsf.keep _ _ q0 (fun z e => by cases e)
          have p1 := hsf.keep _ _ q1 (fun z e => by cases e)
          have p2 := hsf.keep _ _ q2 (fun z e => by cases e)
          have p3 := hsf.keep _ _ q3 (fun z e => by cases e)
          have hk1 : (k : Int) < 3 := by omega
          obtain ⟨WC, hWC⟩ : ∃ WC, WC = wr.alloc (.cells #[.string nm, .int .i64 vl, .int .i64 nx, .slice a m c] 24) := ⟨_, rfl⟩
          have hyc : Below wr.heap.size wr WC := by rw [hWC]; exact over1 _ _
          have hxc := BoxW.new wr nm vl nx (.slice a m c) 24
          rw [← hWC] at hxc
          have hsc := hsf.trans (Sft.of_below hyc (Nat.le_trans HB4.out.size hsf.size))
          have HSC := Lib.hid hsc
          have HQ := Lib.hid (q4.sft hsc)
          have HWC := Lib.hid hWC
          have HXC := Lib.hid hxc
          clear q0 q1 q2 q3 q4 hWC hyc hsf hxc hsc
          go_wp2_with (first | rw [← HWC.out])
          clear p0 p1 p2 p3 HWC
          obtain ⟨w5, rfl⟩ : ∃ w5 : World, w5 = wr := ⟨_, rfl⟩
          go_loopw [20] (fun i wr => ∃ j : Nat, j ≤ m ∧ i = .int .i64 j ∧ Sft wo.heap.size WC wr) (fun i _ => m - (intOf i).toNat)
          case atStart => exact ⟨0, Nat.zero_le _, rfl, Sft.refl _ _⟩
          case round =>
            obtain ⟨j, hj, rfl, hsj⟩ := hrel
            have b3 := hsj.keep _ _ HXC.out.c3 (fun z e => by cases e)
            have HSJ := Lib.hid hsj
            obtain ⟨a', c', he, hm1000, hcells⟩ := HQ.out.sft hsj
            cases he
            clear hsj
            by_cases hjl : j < m
            · obtain ⟨g, o, rfl, hNg, hat⟩ := hcells (by omega)
              obtain ⟨⟨z, f1⟩, f2, bv, mb, f3, hsb⟩ := hat j hjl
              have hj1 : (j : Int) < (m : Int) := by omega
              obtain ⟨WF, hWF⟩ : ∃ WF, WF = wr.setCell ⟨g, o + j * 3 + 1, none⟩ (.int .u8 (bits .xor .u8 z 1)) := ⟨_, rfl⟩
              have hsw : Sft wo.heap.size wr WF := by rw [hWF]; exact Sft.set f1 hNg _
              have g3 := hsw.keep _ _ b3 (fun z e => by cases e)
              have HSW := Lib.hid (HSJ.out.trans hsw)
              have HSB := Lib.hid (hsb.sft hsw)
              obtain ⟨ba, bc, hbv, hmb, _⟩ := id hsb
              subst hbv
              have g2 := hsw.keep _ _ f3 (fun z e => by cases e)
              have HWF := Lib.hid hWF
              clear hat hcells hsw hsb hWF
              go_wp2_with (first | rw [← HWF.out])
              clear b3 f1 f2 f3 HWF
              obtain ⟨w6, rfl⟩ : ∃ w6 : World, w6 = wr := ⟨_, rfl⟩
              go_loopw [21] (fun i wr => ∃ l : Nat, l ≤ mb ∧ i = .int .i64 l ∧ Sft wo.heap.size WF wr) (fun i _ => mb - (intOf i).toNat)
              case atStart => exact ⟨0, Nat.zero_le _, rfl, Sft.refl _ _⟩
              case round =>
                obtain ⟨l, hl, rfl, hsl⟩ := hrel
                have v3 := hsl.keep _ _ g3 (fun z e => by cases e)
                have v2 := hsl.keep _ _ g2 (fun z e => by cases e)
                obtain ⟨ba', bc', he, _, hby⟩ := HSB.out.sft hsl
                cases he
                have HSL := Lib.hid hsl
                clear hsl
                by_cases hll : l < mb
                · obtain ⟨gb, ob, rfl, hNb, hbt⟩ := hby (by omega)
                  obtain ⟨⟨zb, x1⟩, x2⟩ := hbt l hll
                  have hl1 : (l : Int) < (mb : Int) := by omega
                  have HSN := Lib.hid (HSL.out.trans (Sft.set x1 hNb (bits .xor .u8 zb 1)))
                  clear hby hbt
                  go_wp2
                  go_roundw
                  case rel => exact ⟨l + 1, by omega, by go_num, HSN.out⟩
                  case measure => simp [intOf]; omega
                · have HSN := Lib.hid (HSW.out.trans HSL.out)
                  clear hby
                  go_wp2
                  go_roundw
                  case rel => exact ⟨j + 1, by omega, by go_num, HSN.out⟩
                  case measure => simp [intOf]; omega
            · have HSN := Lib.hid (HSC.out.trans HSJ.out)
              clear hcells
              go_wp2
              go_roundw
              case rel => exact ⟨k + 1, by omega, by go_num, HSN.out⟩
              case measure => simp [intOf]; omega
        · have hbw := HB4.out.trans hsf.below
          have HBE := Lib.hid hbw
          have HLV := Lib.hid (bring (W0 := wo) hbw (live_any wr (HMM.out.below (HBW.out.trans (hbw.mono HBW.out.size)))))
          clear hsf hbw
          go_wp2_with fail
          refine HLV.out.mono ?_
          rintro e w7 ⟨rfl, hb7⟩
          obtain ⟨c0, c1, c2, c3, _⟩ := HBX.out.below hb7 HBX.out.lt
          obtain ⟨d0, d1, d2, d3, _⟩ := HBK.out.below hb7 HBK.out.lt
          have HS := Lib.hid (same_old (W0 := wo) name valid next (.slice sa ps.length sc) _ ps qs hb7 (HL0.out.below hb7) (HKL.out.below hb7) HMAP.out.symm hlen)
          unfold boxV at HS
          clear hb7
          go_wp2_with fail
          refine HS.out.mono ?_
          rintro e w8 ⟨rfl, hb8⟩
          have hcv8 : (convert 30 9 (.slice pa pl.length pc)).run Try.prog w8 = .ok (.string ⟨pl.toArray⟩) w8 := run_byz_string _ _ _ 5 Try.underlying30 Try.underlying5 Try.underlying9 (HPW.out.below hb8)
          have HB8 := Lib.hid (HBW.out.trans (hb8.mono HBW.out.size))
          clear c0 c1 c2 c3 d0 d1 d2 d3 hb8
          go_wp2
          go_ret
          exact ⟨by simp, HB8.out⟩
end Go.Proofs.Ytpmakbjchepkmaa
namespace Go.Proofs.Ytpmakbjchepkmaa
open Go.ChangeShapes Go.WideShapes Go.ChangeAt Go.RowKit Go.Deep Go.Joins

theorem bytesL40 : Try.prog.bytesOf 44 = 40 := by kernel_rfl
theorem wAll_mem {H : Type} {P : Program} {e : TypeId} : ∀ {l : List (DataW H)} {d : DataW H}, d ∈ l → ∀ n ∈ d.weights P e, n ∈ DataW.weightsAll P e l
  | d' :: r, d, hd, n, hn => by
    simp only [DataW.weightsAll, List.mem_append]
    rcases List.mem_cons.1 hd with rfl | h
    · exact Or.inl hn
    · exact Or.inr (wAll_mem h n hn)
theorem byt_small {H : Type} {enc : TypeId × Value → H} {W : World} {v : Value} {n : Nat} {x : DataW H × List MemPlace} {l : List UInt8} (h : DataW.trod enc Try.prog W 0 (fun _ => true) true n 30 [v] = some x) (hb : Byz W v l)
    (hw : ∀ m ∈ x.1.weights Try.prog 30, m ≤ 140737488351232) : l.length ≤ 140737488351232 := by
  obtain ⟨a', c', rfl⟩ := hb.1
  rcases open_ints Try.underlying30 Try.underlying5 cells5 h with ⟨hcs, hx⟩ | ⟨a, len, cap, zs, hcs, _, hl, hm, hz, hx, _, _⟩
  · simp only [List.cons.injEq, and_true, Value.slice.injEq] at hcs
    omega
  · simp only [List.cons.injEq, and_true, Value.slice.injEq] at hcs
    obtain ⟨_, h2, _⟩ := hcs
    rw [hx] at hw
    have := hw ((lits .u8 (zs.take len)).length + (lits .u8 (zs.drop len)).length) (by
      simp only [DataW.weights, Try.underlying30, List.mem_cons]
      left
      rw [bytes5, Nat.mul_one])
    simp only [lits, List.length_map, List.length_take, List.length_drop] at this
    simp only [if_true] at hz
    omega
theorem letter_small {H : Type} {enc : TypeId × Value → H} {W : World} {p : LV} {n : Nat} {x : DataW H × List MemPlace} (h : DataW.trod enc Try.prog W 0 (fun _ => true) true n 44 (cellsLV p) = some x) (hb : Byz W p.2 p.1.bytes)
    (hw : ∀ m ∈ x.1.weights Try.prog 44, m ≤ 140737488351232) : p.1.bytes.length ≤ 140737488351232 := by
  obtain ⟨y0, y1, y2, m, rfl, hl, t0, t1, t2⟩ := trod_struct3 Try.underlying44 h
  simp only [cellsLV, cellsI, cells5, cellsBs, List.drop_zero, List.drop_succ_cons, List.take_succ_cons, List.take_zero] at t0 t1 t2
  refine byt_small t2 hb (fun q hq => hw q ?_)
  simp only [DataW.weights, Try.underlying44]
  exact DataW.weights_mem_each (j := 2) rfl rfl q hq
set_option maxRecDepth 100000 in
/-- Letters that were read, with their bulk. -/
theorem letters_small {H : Type} {enc : TypeId × Value → H} {W : World} {v : Value} {n : Nat} {x : DataW H × List MemPlace} (h : DataW.trod enc Try.prog W 0 (fun _ => true) true n 22 [v] = some x) (hw : ∀ m ∈ x.1.weights Try.prog 22, m ≤ 140737488351232) :
    ∃ ps, Lets W v ps ∧ ps.length ≤ maxLen ∧ (∀ p ∈ ps, p.1.bytes.length ≤ maxLen ∧ (-9223372036854775808 ≤ p.1.uid ∧ p.1.uid ≤ 9223372036854775807)) ∧ ps.length * 40 ≤ 140737488351232 ∧ ∀ p ∈ ps, p.1.bytes.length ≤ 140737488351232 := by
  rcases open_slice Try.underlying22 h with ⟨hcs, _⟩ | ⟨a, len, cap, m, n', D, Pl, hcs, _, hl, hm, hmm, hxd, hx⟩
  · simp only [List.cons.injEq, and_true] at hcs
    subst hcs
    exact ⟨[], Lets.nil W none 0, by simp, fun p hp => by simp at hp, by simp, fun p hp => by simp at hp⟩
  · simp only [List.cons.injEq, and_true] at hcs
    subst hcs
    simp only [if_true] at hmm
    subst hmm
    rw [cellsL3] at hx
    rw [hxd] at hw
    have hwj : ∀ j, j < len → ∀ q ∈ (D j).weights Try.prog 44, q ≤ 140737488351232 := fun j hj q hq => hw q (by
      simp only [DataW.weights, Try.underlying22, List.mem_cons, List.mem_append]
      exact Or.inr (Or.inl (wAll_mem (List.mem_map.2 ⟨j, List.mem_range.2 hj, rfl⟩) q hq)))
    have hwl : len * 40 ≤ 140737488351232 := by
      have := hw ((((List.range len).map D).length + ((List.range (m - len)).map fun j => D (len + j)).length) * Try.prog.bytesOf 44) (by
        simp only [DataW.weights, Try.underlying22, List.mem_cons]
        left; trivial)
      rw [bytesL40] at this
      simp only [List.length_map, List.length_range] at this
      omega
    have hsp : len ≠ 0 → ∃ g off, a = ⟨g, off, none⟩ ∧ g < W.heap.size := fun h0 => by
      obtain ⟨cs0, g1, g2⟩ := hx 0 (by omega)
      obtain ⟨p0, rfl, _⟩ := letter_of g2
      obtain ⟨_, _, hcell0⟩ := World.cells?_some g1
      have hz := hcell0 0 (by simp [cellsLV])
      obtain ⟨g, off, sp⟩ := a
      rw [show ((⟨g, off, sp⟩ : Addr).add (0 * 3)).add 0 = ⟨g, off, sp⟩ by unfold Addr.add; simp] at hz
      have hs : sp = none := cell_spot hz
      subst hs
      exact ⟨g, off, rfl, World.block_lt_of_cell? W _ hz⟩
    obtain ⟨ps, hpl, hp⟩ := choose_list (p := fun j (p : LV) => (∀ i u, (cellsLV p)[i]? = some u → W.cell? ((a.add (j * 3)).add i) = some u) ∧ Byz W p.2 p.1.bytes ∧ p.1.bytes.length ≤ maxLen ∧ (-9223372036854775808 ≤ p.1.uid ∧ p.1.uid ≤ 9223372036854775807) ∧ p.1.bytes.length ≤ 140737488351232) len (fun j hj => by
      obtain ⟨cs', h1, h2⟩ := hx j (by omega)
      obtain ⟨p, rfl, q1, q2, q3⟩ := letter_of h2
      obtain ⟨_, hlen, hcell⟩ := World.cells?_some h1
      exact ⟨p, fun i u hu => by have := hcell i (by have := (List.getElem?_eq_some_iff.1 hu).1; simpa [cellsLV] using this); rw [hu] at this; exact this, q1, q2, q3, letter_small h2 q1 (hwj j hj)⟩)
    subst hpl
    refine ⟨ps, ⟨⟨some a, _, rfl, hl⟩, fun hne => ?_, fun p hpm => ?_⟩, by omega, fun p hpm => ?_, hwl, fun p hpm => ?_⟩
    · obtain ⟨g, off, rfl, hg⟩ := hsp (fun e => hne (List.eq_nil_of_length_eq_zero e))
      refine ⟨g, off, _, rfl, hg, fun j u hu => ?_⟩
      have hjl : j < ps.length * 3 := by rw [← cellsP_len]; exact (List.getElem?_eq_some_iff.1 hu).1
      have hq : j / 3 < ps.length := by omega
      have hat := (hp (j / 3) _ (List.getElem?_eq_getElem hq)).1 (j % 3) ((cellsLV ps[j / 3])[j % 3]'(by rw [cellsLV_len]; omega)) (List.getElem?_eq_getElem _)
      have hu2 := flat_at cellsLV 3 ps (j / 3) (fun _ _ => rfl) _ (List.getElem?_eq_getElem hq) (j % 3) _ (List.getElem?_eq_getElem (by rw [cellsLV_len]; omega))
      rw [show j / 3 * 3 + j % 3 = j by omega] at hu2
      have he : (cellsLV ps[j / 3])[j % 3]'(by rw [cellsLV_len]; omega) = u := by
        have : (cellsP ps)[j]? = some ((cellsLV ps[j / 3])[j % 3]'(by rw [cellsLV_len]; omega)) := hu2
        rw [hu] at this
        injection this with this
        exact this.symm
      rw [addr_plus, addr_plus, he, Nat.add_assoc, show j / 3 * 3 + j % 3 = j by omega] at hat
      exact hat
    · obtain ⟨j, hj⟩ := List.getElem?_of_mem hpm
      exact (hp j p hj).2.1
    · obtain ⟨j, hj⟩ := List.getElem?_of_mem hpm
      exact ⟨(hp j p hj).2.2.1, (hp j p hj).2.2.2.1⟩
    · obtain ⟨j, hj⟩ := List.getElem?_of_mem hpm
      exact (hp j p hj).2.2.2.2
set_option maxRecDepth 100000 in
theorem open_box_small {H : Type} {enc : TypeId × Value → H} {W : World} {base : Nat} {v : Value} {d : DataW H} {p : List MemPlace}
    (hval : Value.okWide Try.prog W .any base 24 v) (h0 : DataW.Trod enc Try.prog W 0 (fun _ => true) true 24 v d p) (hw : ∀ m ∈ d.weights Try.prog 24, m ≤ 140737488351232) :
    ∃ name valid next sv ps, v = boxV name valid next sv ∧ BoxIn W name valid next sv ps ∧ ps.length * 40 ≤ 140737488351232 ∧ ∀ p ∈ ps, p.1.bytes.length ≤ 140737488351232 := by
  obtain ⟨v0, v1, v2, v3, y0, y1, y2, y3, n, rfl, hd, _, t0, t1, t2, t3⟩ := open_agg4 Try.underlying24 (by kernel_rfl) (by kernel_rfl) hval h0
  obtain ⟨s, e0, _, ws⟩ := DataW.trod_string Try.underlying9 t0
  obtain ⟨a1, e1, _, w1⟩ := DataW.trod_int Try.underlying3 t1
  obtain ⟨a2, e2, _, w2⟩ := DataW.trod_int Try.underlying3 t2
  simp only [List.cons.injEq, and_true] at e0 e1 e2
  subst e0 e1 e2
  subst hd
  obtain ⟨ps, hl, hlen, hsm, hx1, hx2⟩ := letters_small t3 (fun q hq => hw q (by
    simp only [DataW.weights, Try.underlying24]
    exact DataW.weights_mem_each (j := 3) rfl rfl q hq))
  unfold maxLen at ws hlen hsm
  exact ⟨s, a1, a2, v3, ps, rfl, ⟨hl, hlen, hsm, ws, int_of w1, int_of w2⟩, hx1, hx2⟩
end Go.Proofs.Ytpmakbjchepkmaa
