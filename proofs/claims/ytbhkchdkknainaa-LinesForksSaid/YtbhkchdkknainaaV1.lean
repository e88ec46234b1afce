import Derived.Test.YtbhkchdkknainaaRows
import Derived.Test.YtbhkchdkknainaaMem
import Derived.Test.YtbhkchdkknainaaFns
import Derived.Test.YtbhkchdkknainaaShelf
import Derived.Lib.SlBytesConst
namespace Go.Proofs.Ytbhkchdkknainaa
open Go.RowKit

theorem sz5 : ∀ w, (sizeOf 5).run Try.prog w = .ok 1 w := fun w => by kernel_rfl
theorem info5 : (Try.prog.info? 5).map (fun i => (i.zero, i.size, i.bytes)) = some (some (.int .u8 0), 1, 1) := by kernel_rfl
theorem below_draws {B : Nat} {a w : World} (h : Below B a w) (n : Nat) : Below B a (w.drewN n) := h.trans ⟨rfl, rfl, rfl, Nat.le_refl _, fun _ _ => rfl⟩

/-- The cell of the library's bound on a search. -/
def Ml (w : World) : Prop := ∃ m, w.cell? ⟨0, 0, none⟩ = some (.int .i64 m)
theorem Ml.below {w w' : World} {B : Nat} (h : Ml w) (hb : Below B w w') (hB : w.heap.size ≤ B) : Ml w' := by
  obtain ⟨m, hm⟩ := h
  exact ⟨m, (hb.cell (by have := World.block_lt_of_cell? w _ hm; omega)).trans hm⟩

theorem bytesOf_nat (l : List UInt8) : Lib.bytesOf (l.map fun b => (b.toNat : Int)) = l := by
  unfold Lib.bytesOf
  rw [List.map_map]
  conv => rhs; rw [← List.map_id l]
  apply List.map_congr_left
  intro b _
  simp

theorem nat_getD (l : List UInt8) (i : Nat) (h : i < l.length) : ((l.map fun b => (b.toNat : Int)).getD i 0) = (l[i].toNat : Int) := by
  simp [List.getD, h]

/-- bytes.Index of what reads as l, at two bytes in a new block. -/
theorem index_any (v : Value) (l : List UInt8) (w : World) (hv : Byt w v l) (hl : l.length < 4294967281) (hM : Ml w) :
    Calls Try.prog 34 #[v, .slice (some ⟨w.heap.size, 0, none⟩) 2 2] (w.alloc (.cells #[.int .u8 13, .int .u8 10] 5 (2, 3))) fun e w' => e = .returned (.int .i64 (Lib.index l [13, 10])) ∧ Below w.heap.size w w' := by
  have hb : Below w.heap.size w (w.alloc (.cells #[.int .u8 13, .int .u8 10] 5 (2, 3))) := (Below.refl _ w).alloc (Nat.le_refl _) _
  have hsep : ∀ i, i < 2 → (w.alloc (.cells #[.int .u8 13, .int .u8 10] 5 (2, 3))).cell? ((⟨w.heap.size, 0, none⟩ : Addr).add i) = some (.int .u8 (([13, 10] : List Int).getD i 0)) := by
    intro i hi
    rw [addr_plus, Nat.zero_add]
    have := World.cell?_alloc_mark w #[.int .u8 13, .int .u8 10] 5 (2, 3) i
    rw [this]
    rcases (by omega : i = 0 ∨ i = 1) with rfl | rfl <;> rfl
  have hv2 := hv.below hb
  obtain ⟨m, hm⟩ := hM.below hb (Nat.le_refl _)
  obtain ⟨a, cap, rfl, h2, h3, h4⟩ := hv2
  cases a with
  | none =>
    have h0 := h3 rfl
    have : l = [] := List.eq_nil_of_length_eq_zero (by omega)
    subst this
    subst h0
    exact (Try.bytes_Index_nil _ 2 2 _ (by omega) (fun h => by omega)).mono fun e w' ⟨he, hw⟩ => ⟨he, by rw [hw]; exact hb⟩
  | some ad =>
    obtain ⟨g, off, rfl, hg, hc⟩ := h4 _ rfl
    have h := Try.bytes_Index_at ⟨g, off, none⟩ ⟨w.heap.size, 0, none⟩ l.length cap 2 2 (l.map fun b => (b.toNat : Int)) [13, 10] m _ (by simp) rfl
      (fun x hx => by obtain ⟨b, _, rfl⟩ := List.mem_map.1 hx; have := b.toNat_lt; simp; omega) (fun y hy => by simp at hy; omega)
      (fun i hi => by rw [addr_plus, hc i hi, nat_getD l i hi]) hsep h2 hl (by omega) hm
    rw [bytesOf_nat] at h
    exact h.mono fun e w' ⟨he, q, hw⟩ => ⟨he, by rw [hw]; exact below_draws hb q⟩

theorem cutA_zero {w : World} {a : Option Addr} {n cap : Nat} {l : List UInt8} (h : Byt w (.slice a n cap) l) : cutA a 0 cap = a := by
  obtain ⟨a', cap', hv, h2, h3, h4⟩ := h
  injection hv with e1 e2 e3
  subst e1 e3
  unfold cutA
  split
  · rfl
  · cases a with
    | none => rfl
    | some ad =>
      obtain ⟨g, off, rfl, _⟩ := h4 _ rfl
      simp [addr_plus]

set_option maxHeartbeats 400000 in
theorem first_no (v : Value) (l : List UInt8) (w : World) (hv : Byt w v l) (hl : l.length < 4294967281) (hM : Ml w) (hn : lineLen l = none) :
    Calls Try.prog 25 #[v] w fun e w' => e = .returned (.tuple #[.slice none 0 0, .bool false]) ∧ Below w.heap.size w w' := by
  have hc := index_any v l w hv hl hM
  have hi := lineLen_index l
  rw [hn] at hi
  simp only at hi
  rw [hi] at hc
  obtain ⟨a, cap, rfl, _⟩ := hv.shape
  have kc := fun (w : World) (C : Array Value) (n c : Nat) => Lib.run_convert_bytes_const (P := Try.prog) w 31 5 C n c Try.underlying31 Try.underlying5
  clear hi hn hv
  go_enter Try.func25, Try.ntmps25
  go_wp2_with (go_at_call 34; refine hc.mono ?_; rintro e w' ⟨rfl, hb⟩)
  go_ret2
  exact ⟨rfl, hb⟩

set_option maxHeartbeats 400000 in
theorem first_yes (a : Option Addr) (cap : Nat) (l : List UInt8) (n : Nat) (w : World) (hv : Byt w (.slice a l.length cap) l) (hl : l.length < 4294967281) (hM : Ml w) (hn : lineLen l = some n) :
    Calls Try.prog 25 #[.slice a l.length cap] w fun e w' => e = .returned (.tuple #[.slice a n cap, .bool true]) ∧ Below w.heap.size w w' := by
  have hc := index_any _ l w hv hl hM
  have hi := lineLen_index l
  rw [hn] at hi
  simp only at hi
  rw [hi] at hc
  have hle := lineLen_le l n hn
  have hcap : l.length ≤ cap := by obtain ⟨_, _, h1, h2, _⟩ := hv; injection h1 with _ _ e3; omega
  have hz := cutA_zero hv
  have hcut := fun w => run_cut_to (P := Try.prog) w 31 5 Try.underlying31 sz5 a l.length cap n (by omega)
  rw [hz] at hcut
  have hsum : (n : Int) - 2 + 2 = (n : Int) := by omega
  have h0 : ¬ ((n : Int) - 2 < 0) := by omega
  have kc := fun (w : World) (C : Array Value) (n c : Nat) => Lib.run_convert_bytes_const (P := Try.prog) w 31 5 C n c Try.underlying31 Try.underlying5
  clear hi hn hv hz
  go_enter Try.func25, Try.ntmps25
  go_wp2_with (go_at_call 34; refine hc.mono ?_; rintro e w' ⟨rfl, hb⟩)
  go_ret2
  exact ⟨rfl, hb⟩
end Go.Proofs.Ytbhkchdkknainaa
