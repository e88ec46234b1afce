/- Box: Size, the code's and the document's. -/
import Derived.Test.YtjljbnilckkjnaaDoorB1
namespace Go.Proofs.YtjljbnilckkjnaaDoor
open Go Go.RowKit

set_option maxHeartbeats 1000000 in
set_option maxRecDepth 100000 in
theorem size_any (name : ByteArray) (valid next : Int) (sv : Value) (ps : List LV) (w : World) (h : Lets w sv ps) (hlen : ps.length ≤ 9223372036854775807) :
    Calls Tryd.prog 60 #[boxV name valid next sv] w fun e w' => e = .returned (.int .i64 (szF 0 (ps.map (·.1)))) ∧ Below w.heap.size w w' := by
  have hb0 : Below w.heap.size w (w.alloc (.cells #[.string name, .int .i64 valid, .int .i64 next, sv] 52)) := (Below.refl _ w).alloc (Nat.le_refl _) _
  have h0 := h.below hb0
  unfold boxV
  obtain ⟨a, cap, rfl, g, off, hg, hc⟩ := h0.opened
  have HC := Lib.hid hc
  have HG := Lib.hid hg
  have HY := Lib.hid h0.bytes
  clear h h0 hc hg
  go_enter Tryd.func60, Tryd.ntmps60
  go_wp2
  go_loopw [3, 9] (fun nv i wr => ∃ (k : Nat), k ≤ ps.length ∧ i = .int .i64 k ∧ nv = .int .i64 (szF 0 ((ps.map (·.1)).take k)) ∧ Below (w.heap.size + 1) (w.alloc (.cells #[.string name, .int .i64 valid, .int .i64 next, .slice a ps.length cap] 52)) wr) (fun _ i _ => ps.length - (intOf i).toNat)
  case atStart => exact ⟨0, Nat.zero_le _, rfl, rfl, Below.refl _ _⟩
  case round =>
    obtain ⟨k, hk, rfl, rfl, hb⟩ := hrel
    by_cases hlt : k < ps.length
    · have hp := List.getElem?_eq_getElem hlt
      generalize ps[k] = p at hp
      have hne : ps ≠ [] := fun e => by subst e; simp at hlt
      obtain ⟨rfl, hgl⟩ := HG.out hne
      obtain ⟨c0, c1, c2⟩ := HC.out k p hp
      have hz := hb.size
      have hgl' : g < w.heap.size + 1 := by simpa using hgl
      have d0 := (hb.cell (p := ⟨g, off + k * 3, none⟩) hgl').trans c0
      have d1 := (hb.cell (p := ⟨g, off + k * 3 + 1, none⟩) hgl').trans c1
      have d2 := (hb.cell (p := ⟨g, off + k * 3 + 2, none⟩) hgl').trans c2
      obtain ⟨⟨ba, bc, hbv⟩, _⟩ := HY.out p (List.mem_of_getElem? hp)
      rw [hbv] at d2
      have hsn : szF 0 ((ps.map (·.1)).take (k + 1)) = wrap64 (szF 0 ((ps.map (·.1)).take k) + (p.1.bytes.length : Int)) := by
        rw [List.take_add_one, List.getElem?_map, hp]
        exact szF_snoc _ _ _
      have HS := Lib.hid hsn
      generalize szF 0 ((ps.map (·.1)).take k) = z at *
      have hq : Below (w.heap.size + 1) (w.alloc (.cells #[.string name, .int .i64 valid, .int .i64 next, .slice (some ⟨g, off, none⟩) ps.length cap] 52)) (wr.alloc (.cells #[.int .i64 p.1.uid, .int .u8 (p.1.flags.toNat : Int), .slice ba p.1.bytes.length bc] 79)) := hb.alloc (by simpa using hz) _
      have HQ := Lib.hid hq
      have hzz : w.heap.size < wr.heap.size := by simp at hz; omega
      clear c0 c1 c2 hp hne hgl hbv hz hq hsn
      go_wp2
      go_roundw
      case rel => exact ⟨k + 1, by omega, by go_num, by rw [HS.out], HQ.out⟩
      case measure => simp [intOf]; omega
    · have hk : k = ps.length := by omega
      subst hk
      rw [List.take_of_length_le (by simp)]
      go_wp2
      go_ret
      exact ⟨rfl, below_alloc hb⟩

set_option maxHeartbeats 1000000 in
set_option maxRecDepth 100000 in
theorem refSize (name : ByteArray) (valid next : Int) (sv : Value) (ps : List LV) (w : World) (h : Lets w sv ps) (hlen : ps.length ≤ 9223372036854775807) :
    Calls Tryd.prog 62 #[boxV name valid next sv] w fun e w' => e = .returned (.int .i64 (szF 0 (ps.map (·.1)))) ∧ Below w.heap.size w w' := by
  have hb0 : Below w.heap.size w (w.alloc (.cells #[.string name, .int .i64 valid, .int .i64 next, sv] 52)) := (Below.refl _ w).alloc (Nat.le_refl _) _
  have h0 := h.below hb0
  have hB0 := BoxAt.new w name valid next sv 52
  unfold boxV
  obtain ⟨a, cap, rfl, g, off, hg, hc⟩ := h0.opened
  have HC := Lib.hid hc
  have HG := Lib.hid hg
  have HY := Lib.hid h0.bytes
  have HB := Lib.hid hB0
  clear h h0 hc hg hB0
  go_enter Tryd.func62, Tryd.ntmps62
  go_wp2
  go_loopw [3, 4] (fun nv i wr => ∃ (k : Nat), k ≤ ps.length ∧ i = .int .i64 k ∧ nv = .int .i64 (szF 0 ((ps.map (·.1)).take k)) ∧ Below (w.heap.size + 1) (w.alloc (.cells #[.string name, .int .i64 valid, .int .i64 next, .slice a ps.length cap] 52)) wr) (fun _ i _ => ps.length - (intOf i).toNat)
  case atStart => exact ⟨0, Nat.zero_le _, rfl, rfl, Below.refl _ _⟩
  case round =>
    obtain ⟨k, hk, rfl, rfl, hb⟩ := hrel
    obtain ⟨_, _, _, q3⟩ := HB.out.below hb (by omega)
    by_cases hlt : k < ps.length
    · have hp := List.getElem?_eq_getElem hlt
      generalize ps[k] = p at hp
      have hne : ps ≠ [] := fun e => by subst e; simp at hlt
      obtain ⟨rfl, hgl⟩ := HG.out hne
      obtain ⟨c0, c1, c2⟩ := HC.out k p hp
      have hgl' : g < w.heap.size + 1 := by simpa using hgl
      have d2 := (hb.cell (p := ⟨g, off + k * 3 + 2, none⟩) hgl').trans c2
      obtain ⟨⟨ba, bc, hbv⟩, _⟩ := HY.out p (List.mem_of_getElem? hp)
      rw [hbv] at d2
      have hsn : szF 0 ((ps.map (·.1)).take (k + 1)) = wrap64 (szF 0 ((ps.map (·.1)).take k) + (p.1.bytes.length : Int)) := by
        rw [List.take_add_one, List.getElem?_map, hp]
        exact szF_snoc _ _ _
      have HS := Lib.hid hsn
      generalize szF 0 ((ps.map (·.1)).take k) = z at *
      clear c0 c1 c2 hp hne hgl hbv hsn
      go_wp2
      go_roundw
      case rel => exact ⟨k + 1, by omega, by go_num, by rw [HS.out], hb⟩
      case measure => simp [intOf]; omega
    · have hk : k = ps.length := by omega
      subst hk
      rw [List.take_of_length_le (by simp)]
      go_wp2
      go_ret
      exact ⟨rfl, below_alloc hb⟩
end Go.Proofs.YtjljbnilckkjnaaDoor
