/- text.Lower. -/
import Derived.Test.YtnglmaebmabdcaaDoorW1
namespace Go.Proofs.YtnglmaebmabdcaaDoor
open Go.RowKit

/-- n bytes of the call's own in block B: they read as f tells, and may be written. -/
def Bufs (w : World) (B n : Nat) (f : Nat → Nat) : Prop :=
  (∀ i, i < n → w.cell? ⟨B, i, none⟩ = some (.int .u8 (f i : Int))) ∧ (∀ i, i < n → w.frozen? ⟨B, i, none⟩ = false)
theorem Bufs.other {w w' : World} {B n : Nat} {f : Nat → Nat} (h : Bufs w B n f) (hb : w'.heap[B]? = w.heap[B]?) : Bufs w' B n f :=
  ⟨fun i hi => (World.cell?_of_block (a := ⟨B, i, none⟩) hb).trans (h.1 i hi), fun i hi => (World.frozen?_of_block (a := ⟨B, i, none⟩) hb).trans (h.2 i hi)⟩
theorem Bufs.as {w : World} {B n : Nat} {f g : Nat → Nat} (h : Bufs w B n f) (hg : ∀ i, i < n → f i = g i) : Bufs w B n g :=
  ⟨fun i hi => by rw [h.1 i hi, hg i hi], h.2⟩
theorem Bufs.set {w : World} {B n : Nat} {f : Nat → Nat} (h : Bufs w B n f) (k v : Nat) (hk : k < n) (x : Int) (hx : x = (v : Int)) : Bufs (w.setCell ⟨B, k, none⟩ (.int .u8 x)) B n (fun i => if i = k then v else f i) := by
  subst hx
  refine ⟨fun i hi => ?_, fun i hi => by rw [World.frozen?_setCell]; exact h.2 i hi⟩
  by_cases e : i = k
  · subst e
    simp only [if_true]
    exact World.cell?_setCell_same _ _ _ (h.1 i hi)
  · simp only [if_neg e]
    rw [World.cell?_setCell_other _ _ _ _ (by intro he; injection he with _ h2; omega)]
    exact h.1 i hi

/-- The bytes with those ahead of a place made small. -/
def mixB (s : ByteArray) (pos i : Nat) : Nat := if i < pos then (lowB (s.get! i)).toNat else (s.get! i).toNat

theorem lowB_high (c : UInt8) (h : 128 ≤ c.toNat) : lowB c = c := lowB_out c (by omega)
theorem mix_step (s : ByteArray) (pos k i : Nat) (h : ∀ j, j < k → lowB (s.get! (pos + j)) = s.get! (pos + j)) : mixB s pos i = mixB s (pos + k) i := by
  unfold mixB
  by_cases h1 : i < pos
  · rw [if_pos h1, if_pos (by omega)]
  · rw [if_neg h1]
    by_cases h2 : i < pos + k
    · rw [if_pos h2]
      obtain ⟨j, rfl⟩ : ∃ j, i = pos + j := ⟨i - pos, by omega⟩
      rw [h j (by omega)]
    · rw [if_neg h2]

theorem bytes_new (w : World) (s : ByteArray) (cap : Nat) : Bufs (w.alloc (.cells (bytesRow s cap) 5 ((bytesRow s cap).size, (bytesRow s cap).size + 1))) w.heap.size s.size (mixB s 0) := by
  constructor
  · intro i hi
    rw [World.cell?_alloc_mark, bytesRow_at s cap i hi]
    unfold mixB
    rw [if_neg (by omega), get_lt s i hi]
    rfl
  · intro i hi
    rw [World.frozen?_alloc_mark]
    have : s.size ≤ (bytesRow s cap).size := by
      unfold bytesRow
      simp
    simp; omega

theorem mix_end (s : ByteArray) (pos : Nat) (h : ¬ pos < s.size) (j : Nat) (hj : j < (low s.data.toList).length) : mixB s pos j = ((low s.data.toList)[j]).toNat := by
  rw [low_length, ← Lib.size_eq] at hj
  unfold mixB
  rw [if_pos (by omega)]
  simp only [low, List.getElem_map]
  rw [← get_list s j hj]

set_option maxHeartbeats 400000 in
set_option maxRecDepth 100000 in
theorem lower (s : ByteArray) (w : World) :
    Calls Tryd.prog 46 #[.string s] w fun e w' => e = .returned (.string ⟨(low s.data.toList).toArray⟩) ∧ Below w.heap.size w w' := by
  have hcv := run_bytes_of_string (P := Tryd.prog) w 9 35 5 s Tryd.underlying9 Tryd.underlying35 Tryd.underlying5
  generalize hcap : grownCap w s.size 0 5 = cap at hcv
  have hnew := bytes_new w s cap
  generalize hC : (bytesRow s cap) = C at hcv hnew
  clear hcap hC
  go_enter Tryd.func46, Tryd.ntmps46
  go_wp2
  go_loopw [4, 5] (fun _i _r wr => ∃ pos : Nat, pos ≤ s.size ∧ wr.heap[w.heap.size + 1]? = some (.stringIter s pos) ∧ Bufs wr w.heap.size s.size (mixB s pos) ∧ Below w.heap.size w wr) (fun _ _ wr => s.size - wr.iterPos (w.heap.size + 1))
  case atStart =>
    refine ⟨0, Nat.zero_le _, ?_, ?_, (((Below.refl _ w).alloc (Nat.le_refl _) _).drew).alloc (by simp) _⟩
    · have := World.iter_heap (w.alloc (.cells C 5 (C.size, C.size + 1))).drew s 0
      simpa using this
    · refine hnew.other ?_
      exact Below.heap_alloc _ _ _ (by simp)
  case round =>
    obtain ⟨pos, hle, hit, hbuf, hb⟩ := hrel
    have hsz : w.heap.size + 1 < wr.heap.size := (Array.getElem?_eq_some_iff.1 hit).1
    by_cases hp : pos < s.size
    · have hnx : ∀ ty, (Instr.next (.pointer (some ⟨w.heap.size + 1, 0, none⟩)) true ty).run Tryd.prog wr = _ := fun ty => Lib.run_next_any_at wr (w.heap.size + 1) s pos ty hit hp
      have hwd := dec_le s pos hp
      have hd1 := decode_le s pos
      have hit2 := Lib.iterAt_heap wr (w.heap.size + 1) s pos (pos + (Utf8.decode s pos).2) hit
      have hb2 := Lib.below_iterAt hb (k := w.heap.size + 1) (by omega) s (pos + (Utf8.decode s pos).2)
      have hbuf2 : Bufs (wr.iterAt (w.heap.size + 1) s (pos + (Utf8.decode s pos).2)) w.heap.size s.size (mixB s pos) := hbuf.other (Lib.iterAt_other wr _ _ s _ (by omega))
      have hmu : s.size - (pos + (Utf8.decode s pos).2) < s.size - wr.iterPos (w.heap.size + 1) := by simp only [World.iterPos, hit]; omega
      generalize hW : wr.iterAt (w.heap.size + 1) s (pos + (Utf8.decode s pos).2) = W at *
      clear hW
      by_cases hu : 65 ≤ (Utf8.decode s pos).1 ∧ (Utf8.decode s pos).1 ≤ 90
      · have hlo := dec_low s pos hp (by omega)
        have hc := hbuf2.1 pos hp
        have hf := hbuf2.2 pos hp
        have hm : mixB s pos pos = (Utf8.decode s pos).1 := by
          unfold mixB
          rw [if_neg (by omega), get_lt s pos hp, hlo.1]
        rw [hm] at hc
        have h2 := hlo.2
        have hset := (hbuf2.set pos ((Utf8.decode s pos).1 + 32) hp (((Utf8.decode s pos).1 : Int) + 32) (by omega))
        have hnext : Bufs (W.setCell ⟨w.heap.size, pos, none⟩ (.int .u8 (((Utf8.decode s pos).1 : Int) + 32))) w.heap.size s.size (mixB s (pos + 1)) := by
          refine hset.as fun i hi => ?_
          unfold mixB
          by_cases e : i = pos
          · subst e
            rw [if_pos rfl, if_pos (by omega), get_lt s i hp]
            have := lowB_in (s[i]) (by omega)
            omega
          · rw [if_neg e]
            by_cases h : i < pos
            · rw [if_pos h, if_pos (by omega)]
            · rw [if_neg h, if_neg (by omega)]
        have HN := Lib.hid hnext
        rw [h2] at hit2 hmu
        have hit3 := (heap_setCell_other W ⟨w.heap.size, pos, none⟩ (w.heap.size + 1) (.int .u8 (((Utf8.decode s pos).1 : Int) + 32)) (by simp)).trans hit2
        have HI := Lib.hid hit3
        have HM := Lib.hid hmu
        clear hnext hset hlo hm hit3 hit2 hmu hbuf hbuf2 hit
        obtain ⟨hu1, hu2⟩ := hu
        go_wp2
        refine ⟨⟨pos + 1, by omega, HI.out, HN.out, hb2.setCell (Nat.le_refl _) _⟩, ?_⟩
        simp only [World.iterPos, HI.out]
        exact HM.out
      · have hnext : Bufs W w.heap.size s.size (mixB s (pos + (Utf8.decode s pos).2)) := by
          refine hbuf2.as fun i hi => mix_step s pos _ i fun j hj => ?_
          by_cases h128 : (Utf8.decode s pos).1 < 128
          · have hlo := dec_low s pos hp h128
            have h2 := hlo.2
            obtain rfl : j = 0 := by omega
            rw [Nat.add_zero, get_lt s pos hp]
            exact lowB_out _ (by omega)
          · exact lowB_high _ (dec_bytes s pos hp (by omega) j hj)
        have HN := Lib.hid hnext
        have HI := Lib.hid hit2
        have HM := Lib.hid hmu
        clear hnext hit2 hmu hbuf hbuf2 hit
        by_cases hu1 : 65 ≤ (Utf8.decode s pos).1
        · have hu2 : ¬ (Utf8.decode s pos).1 ≤ 90 := fun h => hu ⟨hu1, h⟩
          clear hu
          go_wp2
          refine ⟨⟨_, hwd.2.2, HI.out, HN.out, hb2⟩, ?_⟩
          simp only [World.iterPos, HI.out]
          exact HM.out
        · clear hu
          go_wp2
          refine ⟨⟨_, hwd.2.2, HI.out, HN.out, hb2⟩, ?_⟩
          simp only [World.iterPos, HI.out]
          exact HM.out
    · have hnx : ∀ ty, (Instr.next (.pointer (some ⟨w.heap.size + 1, 0, none⟩)) true ty).run Tryd.prog wr = _ := fun ty => Lib.run_next_end_at wr (w.heap.size + 1) s pos ty hit hp
      have hback := run_convert_bytes_back (P := Tryd.prog) wr 35 9 5 ⟨w.heap.size, 0, none⟩ cap (low s.data.toList) Tryd.underlying35 Tryd.underlying5 Tryd.underlying9 (fun j hj => by
        rw [addr_at, hbuf.1 j (by rw [low_length, ← Lib.size_eq] at hj; exact hj), mix_end s pos hp j hj])
      rw [low_length, ← Lib.size_eq] at hback
      clear hbuf hit
      go_wp2
      go_ret
      exact ⟨rfl, hb⟩

end Go.Proofs.YtnglmaebmabdcaaDoor
