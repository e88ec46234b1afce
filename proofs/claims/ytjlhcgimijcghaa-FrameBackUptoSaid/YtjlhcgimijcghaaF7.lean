/- Frame: row. -/
import Derived.Test.YtjlhcgimijcghaaF6
namespace Go.Proofs.Ytjlhcgimijcghaa
open Go Go.RowKit

/-- A byte is laid into what the call owns. -/
theorem Row.put {B : Nat} {w : World} {g off n cap : Nat} {l : List UInt8} (h : Row B w (.slice (some ⟨g, off, none⟩) n cap) l) (i : Nat) (hi : i < l.length) (b : UInt8) :
    Row B (w.setCell ⟨g, off + i, none⟩ (.int .u8 (b.toNat : Int))) (.slice (some ⟨g, off, none⟩) n cap) (l.set i b) := by
  obtain ⟨⟨a', cap', hv, h2, h3, h4⟩, h5⟩ := h
  injection hv with e1 e2 e3
  subst e1 e2 e3
  obtain ⟨q1, q2, q3⟩ := h5 _ _ _ rfl
  obtain ⟨g', off', e, hg, hc⟩ := h4 _ rfl
  injection e with e1 e2
  subst e1 e2
  simp only at q1 q3
  refine ⟨⟨some ⟨g, off, none⟩, cap, by rw [List.length_set], by rw [List.length_set]; exact h2, h3, fun ad had => ?_⟩, fun ad n c hv => ?_⟩
  · injection had with had
    subst had
    refine ⟨g, off, rfl, by simpa [World.setCell] using hg, fun j hj => ?_⟩
    rw [List.length_set] at hj
    by_cases hij : i = j
    · subst hij
      rw [World.cell?_setCell_same _ _ _ (hc i hj)]
      simp
    · rw [World.cell?_setCell_other _ _ _ _ (fun e => hij (by injection e with _ e2; omega)), hc j hj, List.getElem_set_ne hij]
  · injection hv with e1 e2 e3
    injection e1 with e1
    subst e1 e3
    refine ⟨q1, q2, fun j hj => ?_⟩
    simp only
    obtain ⟨z1, z2⟩ := q3 j hj
    refine ⟨?_, by rw [World.frozen?_setCell]; exact z2⟩
    by_cases hij : i = j
    · subst hij
      rw [World.cell?_setCell_same _ _ _ (hc i hi)]; rfl
    · rw [World.cell?_setCell_other _ _ _ _ (fun e => hij (by injection e with _ e2; omega))]; exact z1

def rowB (n size i : Nat) : UInt8 := UInt8.ofNat (n / 2 ^ (8 * (size - 1 - i)))
def rowU (n size k : Nat) : List UInt8 := (List.range size).map fun i => if i < k then rowB n size i else 0
def rowL (n size : Nat) : List UInt8 := (List.range size).map (rowB n size)
theorem rowU_len (n size k : Nat) : (rowU n size k).length = size := by simp [rowU]
theorem rowU_zero (n size : Nat) : rowU n size 0 = List.replicate size 0 := by
  apply List.ext_getElem
  · simp [rowU]
  · intro i h1 h2; simp [rowU]
theorem rowU_step (n size k : Nat) : (rowU n size k).set k (rowB n size k) = rowU n size (k + 1) := by
  apply List.ext_getElem
  · simp [rowU]
  · intro i h1 h2
    rw [List.getElem_set]
    simp only [rowU, List.getElem_map, List.getElem_range]
    by_cases hik : k = i
    · subst hik; simp
    · rw [if_neg hik]
      by_cases h : i < k
      · rw [if_pos h, if_pos (by omega)]
      · rw [if_neg h, if_neg (by omega)]
theorem rowU_end (n size : Nat) : rowU n size size = rowL n size := by
  apply List.ext_getElem
  · simp [rowU, rowL]
  · intro i h1 h2
    simp only [rowU, rowL, List.getElem_map, List.getElem_range]
    rw [if_pos (by simpa [rowU] using h1)]
theorem made_list (m : Nat) : (madeCells (Value.int .u8 0).cells m).toList = (List.replicate m (0 : UInt8)).map fun b => Value.int .u8 (b.toNat : Int) := by
  apply List.ext_getElem
  · simp [madeCells]
  · intro i h1 h2
    simp [madeCells, Value.cells, Nat.mod_one]

set_option maxHeartbeats 1000000 in
theorem row_any (n m : Nat) (w : World) (_ : n < 4294967296) (hm : m ≤ 4) :
    Calls Try.prog 20 #[.int .u32 (n : Int), .int .i64 (m : Int)] w fun e w' => ∃ v, e = .returned v ∧ Row w.heap.size w' v (rowL n m) ∧ Below w.heap.size w w' := by
  obtain ⟨i0, hi, hz0, hz1, hz2⟩ := info_parts info5
  have hmk := run_make (P := Try.prog) w 22 5 i0 _ Try.underlying22 hi hz0 .i64 .i64 (m : Int) (m : Int) (by omega) (Int.le_refl _) (by rw [hz2]; omega) (by omega)
  rw [hz1, Nat.mul_one, Int.toNat_natCast] at hmk
  have hr0 := Row.made w 5 (rowU n m 0) (madeCells (Value.int .u8 0).cells m) (by rw [made_list, rowU_zero]) (Nat.le_refl _) (by rw [rowU_len]; unfold maxLen; omega)
  rw [rowU_len] at hr0
  have hb0 : Below w.heap.size w (w.alloc (.cells (madeCells (Value.int .u8 0).cells m) 5)) := (Below.refl _ w).alloc (Nat.le_refl _) _
  have HR0 := Lib.hid hr0
  have HB0 := Lib.hid hb0
  generalize w.alloc (.cells (madeCells (Value.int .u8 0).cells m) 5) = w0 at *
  clear hr0 hb0
  go_enter Try.func20, Try.ntmps20
  go_wp2
  go_loopw [6, 11] (fun _ iv wr => ∃ k : Nat, iv = .int .i64 k ∧ k ≤ m ∧ Row w.heap.size wr (.slice (some ⟨w.heap.size, 0, none⟩) m m) (rowU n m k) ∧ Below w.heap.size w wr) (fun _ iv _ => m - (intOf iv).toNat)
  case atStart => exact ⟨0, rfl, Nat.zero_le _, HR0.out, HB0.out⟩
  case round =>
    obtain ⟨k, rfl, hk, hR, hB⟩ := hrel
    by_cases hlt : k < m
    · obtain ⟨_, _, hq⟩ := hR.2 _ _ _ rfl
      simp only [Nat.zero_add] at hq
      obtain ⟨hq1, hq2⟩ := hq k hlt
      obtain ⟨old, hold⟩ := Option.isSome_iff_exists.1 hq1
      have hval : (n : Int) / 2 ^ (8 * (m - 1 - k)) % 256 = ((rowB n m k).toNat : Int) := by
        unfold rowB
        rw [UInt8.toNat_ofNat']
        show _ = ((n / 2 ^ (8 * (m - 1 - k)) % 256 : Nat) : Int)
        rw [Int.natCast_emod, Int.natCast_ediv, Int.natCast_pow]
        rfl
      have hput := hR.put k (by rw [rowU_len]; exact hlt) (rowB n m k)
      rw [rowU_step, Nat.zero_add, ← hval] at hput
      have hbel : Below w.heap.size w (wr.setCell ⟨w.heap.size, k, none⟩ (.int .u8 ((n : Int) / 2 ^ (8 * (m - 1 - k)) % 256))) := hB.setCell (Nat.le_refl _) _
      have HP := Lib.hid hput
      have HB := Lib.hid hbel
      clear hput hbel hR hB hq hq1 hval
      go_wp2
      go_roundw
      case rel => exact ⟨k + 1, by go_num, by omega, HP.out, HB.out⟩
      case measure => simp [intOf]; omega
    · obtain rfl : k = m := by omega
      rw [rowU_end] at hR
      have HR := Lib.hid hR
      have HB := Lib.hid hB
      clear hR hB
      go_wp2
      go_ret
      exact ⟨_, rfl, HR.out, HB.out⟩
end Go.Proofs.Ytjlhcgimijcghaa
