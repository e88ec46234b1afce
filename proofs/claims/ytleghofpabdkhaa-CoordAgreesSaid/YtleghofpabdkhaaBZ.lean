/- Bytes that are read, an empty slice of whatever address; letters as cells. No program. -/
import Derived.Test.YtleghofpabdkhaaD1
namespace Go.Proofs.Ytleghofpabdkhaa
open Go Go.RowKit

/-- The slice v reads as l; of an empty one nothing is asked of where it lies. -/
def Byz (w : World) (v : Value) (l : List UInt8) : Prop := (∃ a cap, v = .slice a l.length cap) ∧ (l ≠ [] → Byt w v l)
theorem Byt.z {w : World} {v : Value} {l : List UInt8} (h : Byt w v l) : Byz w v l := ⟨by obtain ⟨a, c, e, _⟩ := h.shape; exact ⟨a, c, e⟩, fun _ => h⟩
theorem Byz.kept {w w' : World} {v : Value} {l : List UInt8} (h : Byz w v l) (hs : w.heap.size ≤ w'.heap.size) (hk : ∀ g, v.ownBlock = some g → l ≠ [] → w'.heap[g]? = w.heap[g]?) : Byz w' v l :=
  ⟨h.1, fun hn => (h.2 hn).kept hs (fun g hg => hk g hg hn)⟩
theorem Byz.below {w w' : World} {v : Value} {l : List UInt8} (h : Byz w v l) (hb : Below w.heap.size w w') : Byz w' v l := ⟨h.1, fun hn => (h.2 hn).below hb⟩
theorem Byz.lt {w : World} {v : Value} {l : List UInt8} (h : Byz w v l) : ∀ g, v.ownBlock = some g → l ≠ [] → g < w.heap.size := fun g hg hn => (h.2 hn).lt g hg
section
variable {P : Program}
theorem Byz.src {w : World} {v : Value} {l : List UInt8} (h : Byz w v l) {t e' : TypeId} (hk : P.underlying t = some (.slice e')) : Go.Src P 1 t v l.length (l.map fun b => Value.int .u8 (b.toNat : Int)) w := by
  by_cases hne : l = []
  · obtain ⟨a, cap, rfl⟩ := h.1
    subst hne
    cases a with
    | none => exact Go.Src.ofNil w hk cap
    | some ad => exact Go.Src.ofSlice w hk ad 0 cap _ (by simp) (fun j u hj => by simp at hj) (fun u hu => by simp at hu)
  · exact (h.2 hne).src hk
/-- string(v). -/
theorem run_byz_string (w : World) (src dst e : TypeId) (hs : P.underlying src = some (.slice e)) (he : P.underlying e = some (.int .u8)) (hd : P.underlying dst = some .string) {v : Value} {l : List UInt8} (h : Byz w v l) :
    (convert src dst v).run P w = .ok (.string ⟨l.toArray⟩) w := by
  by_cases hne : l = []
  · obtain ⟨a, cap, rfl⟩ := h.1
    subst hne
    cases a with
    | none =>
      rw [run_convert_bytes_string w src dst e none _ _ hs he hd]
      rfl
    | some ad => exact run_convert_bytes_back (P := P) w src dst e ad cap [] hs he hd (fun j hj => by simp at hj)
  · exact run_byt_string w src dst e hs he hd (h.2 hne)
end

/-- A letter; the slice that its bytes are in. -/
structure Letr where
  uid : Int
  flags : UInt8
  bytes : List UInt8
abbrev LV := Letr × Value
def cellsLV (p : LV) : List Value := [.int .i64 p.1.uid, .int .u8 (p.1.flags.toNat : Int), p.2]
theorem cellsLV_len (p : LV) : (cellsLV p).length = 3 := rfl
def cellsP (l : List LV) : List Value := l.flatMap cellsLV
theorem cellsP_len (l : List LV) : (cellsP l).length = l.length * 3 := flat_len cellsLV 3 l (fun _ _ => rfl)
theorem cellsP_at (l : List LV) (i : Nat) (p : LV) (h : l[i]? = some p) : (cellsP l)[i * 3]? = some (.int .i64 p.1.uid) ∧ (cellsP l)[i * 3 + 1]? = some (.int .u8 (p.1.flags.toNat : Int)) ∧ (cellsP l)[i * 3 + 2]? = some p.2 :=
  ⟨flat_at cellsLV 3 l i (fun _ _ => rfl) p h 0 _ rfl, flat_at cellsLV 3 l i (fun _ _ => rfl) p h 1 _ rfl, flat_at cellsLV 3 l i (fun _ _ => rfl) p h 2 _ rfl⟩

/-- A stretch of cells stands from a place of block g on. -/
def CellsAt (w : World) (g o : Nat) (cs : List Value) : Prop := ∀ j u, cs[j]? = some u → w.cell? ⟨g, o + j, none⟩ = some u

/-- The slice v reads as the letters ps. -/
structure Lets (w : World) (v : Value) (ps : List LV) : Prop where
  shape : ∃ a cap, v = .slice a ps.length cap ∧ ps.length ≤ cap
  cells : ps ≠ [] → ∃ g off cap, v = .slice (some ⟨g, off, none⟩) ps.length cap ∧ g < w.heap.size ∧ CellsAt w g off (cellsP ps)
  bytes : ∀ p ∈ ps, Byz w p.2 p.1.bytes
theorem Lets.kept {w w' : World} {v : Value} {ps : List LV} (h : Lets w v ps) (hs : w.heap.size ≤ w'.heap.size) (hk : ∀ k, k < w.heap.size → w'.heap[k]? = w.heap[k]?) : Lets w' v ps := by
  refine ⟨h.shape, fun hne => ?_, fun p hp => (h.bytes p hp).kept hs (fun g hg hn => hk g ((h.bytes p hp).lt g hg hn))⟩
  obtain ⟨g, off, cap, e, hg, hc⟩ := h.cells hne
  exact ⟨g, off, cap, e, by omega, fun j u hu => (World.cell?_of_block (a := ⟨g, off + j, none⟩) (hk g hg)).trans (hc j u hu)⟩
theorem Lets.below {w w' : World} {v : Value} {ps : List LV} (h : Lets w v ps) (hb : Below w.heap.size w w') : Lets w' v ps := h.kept hb.size hb.block
theorem Lets.nil (w : World) (a : Option Addr) (cap : Nat) : Lets w (.slice a 0 cap) [] := ⟨⟨a, cap, rfl, Nat.zero_le _⟩, fun h => absurd rfl h, fun p hp => by simp at hp⟩
/-- What stands at a place. -/
theorem Lets.at {w : World} {v : Value} {ps : List LV} (h : Lets w v ps) (i : Nat) (p : LV) (hi : ps[i]? = some p) :
    ∃ g off cap, v = .slice (some ⟨g, off, none⟩) ps.length cap ∧ g < w.heap.size ∧ w.cell? ⟨g, off + i * 3, none⟩ = some (.int .i64 p.1.uid) ∧ w.cell? ⟨g, off + i * 3 + 1, none⟩ = some (.int .u8 (p.1.flags.toNat : Int)) ∧ w.cell? ⟨g, off + i * 3 + 2, none⟩ = some p.2 := by
  obtain ⟨g, off, cap, e, hg, hc⟩ := h.cells (fun e => by subst e; simp at hi)
  obtain ⟨a0, a1, a2⟩ := cellsP_at ps i p hi
  refine ⟨g, off, cap, e, hg, hc _ _ a0, ?_, ?_⟩
  · rw [Nat.add_assoc]; exact hc _ _ a1
  · rw [Nat.add_assoc]; exact hc _ _ a2
/-- Its address, all letters at once. -/
theorem Lets.opened {w : World} {v : Value} {ps : List LV} (h : Lets w v ps) : ∃ a cap, v = .slice a ps.length cap ∧ ∃ g off, (ps ≠ [] → a = some ⟨g, off, none⟩ ∧ g < w.heap.size) ∧ ∀ i p, ps[i]? = some p → w.cell? ⟨g, off + i * 3, none⟩ = some (.int .i64 p.1.uid) ∧ w.cell? ⟨g, off + i * 3 + 1, none⟩ = some (.int .u8 (p.1.flags.toNat : Int)) ∧ w.cell? ⟨g, off + i * 3 + 2, none⟩ = some p.2 := by
  by_cases hne : ps = []
  · obtain ⟨a, cap, e, _⟩ := h.shape
    exact ⟨a, cap, e, 0, 0, fun h => absurd hne h, fun i p hp => by subst hne; simp at hp⟩
  · obtain ⟨g, off, cap, e, hg, hc⟩ := h.cells hne
    refine ⟨_, cap, e, g, off, fun _ => ⟨rfl, hg⟩, fun i p hi => ?_⟩
    obtain ⟨a0, a1, a2⟩ := cellsP_at ps i p hi
    refine ⟨hc _ _ a0, ?_, ?_⟩
    · rw [Nat.add_assoc]; exact hc _ _ a1
    · rw [Nat.add_assoc]; exact hc _ _ a2
end Go.Proofs.Ytleghofpabdkhaa
