/- Disk: Flush in all cases; outlives. -/
import Derived.Test.YtohmofhpbmhhjaaD7
namespace Go.Proofs.Ytohmofhpbmhhjaa
open Go Go.RowKit

def St.flushed (s : St) : St × Nat := if s.down then (s, 7) else if s.go.2 then (s.go.1, 7) else ({ s.go.1 with sure := laid s.sure s.waits, waits := [] }, 0)
theorem flush_down (w : World) (D : Nat) (c3 : w.cell? ⟨D, 3, none⟩ = some (.bool true)) :
    Calls Try.prog 12 #[.pointer (some ⟨D, 0, none⟩)] w fun e w' => e = .returned (.int .i64 7) ∧ w = w' := by
  go_enter Try.func12, Try.ntmps12
  go_wp2
  go_ret
  exact ⟨rfl, rfl⟩
theorem flush_nil (w : World) :
    Calls Try.prog 12 #[.pointer none] w fun e w' => e = .returned (.int .i64 1) ∧ w = w' := by
  go_enter Try.func12, Try.ntmps12
  go_wp2
  go_ret
  exact ⟨rfl, rfl⟩
theorem flush_cut {O : Nat → Prop} {w : World} {D S c : Nat} {wv : Value} {s : St} (h : Dsk O w D S c wv s) (hd : s.down = false) (hg : s.go.2 = true) :
    Calls Try.prog 12 #[.pointer (some ⟨D, 0, none⟩)] w fun e w' => e = .returned (.int .i64 7) ∧ Now O w D S c s.go.1 w' := by
  have hgo := goes_any h hd
  rw [hg] at hgo
  have c3 := h.c3
  rw [hd] at c3
  clear h
  have HG := Lib.hid hgo
  clear hgo
  go_enter Try.func12, Try.ntmps12
  go_wp2_with fail
  refine HG.out.mono ?_
  rintro e w1 ⟨rfl, h1, f1⟩
  have N := Lib.hid (Now.own h1 f1)
  clear h1 f1
  go_wp2
  go_ret
  exact ⟨rfl, N.out⟩
theorem flush_any {O : Nat → Prop} {w : World} {D S c : Nat} {wv : Value} {s : St} (h : Dsk O w D S c wv s) :
    Calls Try.prog 12 #[.pointer (some ⟨D, 0, none⟩)] w fun e w' => e = .returned (.int .i64 (s.flushed.2 : Nat)) ∧ Now O w D S c s.flushed.1 w' := by
  unfold St.flushed
  have c3 := h.c3
  cases hd : s.down
  · rw [if_neg (by simp)]
    cases hg : s.go.2
    · rw [if_neg (by simp)]
      exact flush_loop h hd hg
    · rw [if_pos rfl]
      exact flush_cut h hd hg
  · rw [hd] at c3
    rw [if_pos rfl]
    exact (flush_down w D c3).mono fun e w' ⟨h1, h2⟩ => by subst h2; exact ⟨h1, Now.same h⟩

/-- The slice v of bools reads as l. -/
def Bools (w : World) (v : Value) (l : List Bool) : Prop :=
  ∃ a cap, v = .slice a l.length cap ∧ ∀ j (h : j < l.length), ∃ g off, a = some ⟨g, off, none⟩ ∧ g < w.heap.size ∧ w.cell? ⟨g, off + j, none⟩ = some (.bool l[j])
theorem Bools.kept {w w' : World} {v : Value} {l : List Bool} (h : Bools w v l) (hs : w.heap.size ≤ w'.heap.size) (hk : ∀ g, v.ownBlock = some g → l ≠ [] → w'.heap[g]? = w.heap[g]?) : Bools w' v l := by
  obtain ⟨a, cap, rfl, h4⟩ := h
  refine ⟨a, cap, rfl, fun j hj => ?_⟩
  obtain ⟨g, off, rfl, hg, hc⟩ := h4 j hj
  exact ⟨g, off, rfl, by omega, (World.cell?_of_block (a := ⟨g, off + j, none⟩) (hk g rfl (fun e => by subst e; simp at hj))).trans hc⟩
theorem Bools.below {w w' : World} {v : Value} {l : List Bool} (h : Bools w v l) (hb : Below w.heap.size w w') : Bools w' v l := by
  obtain ⟨a, cap, rfl, h4⟩ := h
  refine ⟨a, cap, rfl, fun j hj => ?_⟩
  obtain ⟨g, off, rfl, hg, hc⟩ := h4 j hj
  exact ⟨g, off, rfl, Nat.lt_of_lt_of_le hg hb.size, (hb.cell hg).trans hc⟩
/-- How many bytes of the write with the number k outlive. -/
def outl (keep : List Bool) (torn at' : Int) (k : Nat) : Nat := if (k : Int) = torn then (min (max at' 0) 64).toNat else if keep.getD k false then 64 else 0
theorem outl_le (keep : List Bool) (torn at' : Int) (k : Nat) : outl keep torn at' k ≤ 64 := by
  unfold outl
  split
  · omega
  · split <;> omega

set_option maxHeartbeats 1000000 in
theorem outlives_any (v : Value) (keep : List Bool) (torn at' : Int) (k : Nat) (w : World) (hk : k ≤ 1000) (hv : Bools w v keep) (hkl : keep.length ≤ 9223372036854775807) :
    Calls Try.prog 27 #[.agg #[v, .int .i64 torn, .int .i64 at'], .int .i64 (k : Int)] w fun e w' => e = .returned (.int .i64 (outl keep torn at' k : Nat)) ∧ Below w.heap.size w w' := by
  have hb : Below w.heap.size w (w.alloc (.cells #[v, .int .i64 torn, .int .i64 at'] 32)) := (Below.refl _ w).alloc (Nat.le_refl _) _
  have hv1 := hv.below hb
  obtain ⟨a, cap, rfl, hc⟩ := hv1
  have HB := Lib.hid hb
  clear hb hv
  unfold outl
  by_cases ht : (k : Int) = torn
  · have htb : ((k : Int) == torn) = true := by rw [beq_iff_eq]; exact ht
    rw [if_pos ht]
    clear hc
    by_cases h0 : at' < 0
    · have hr : (min (max at' 0) 64).toNat = 0 := by omega
      rw [hr]
      clear hr ht
      go_enter Try.func27, Try.ntmps27
      go_wp2
      go_ret
      exact ⟨by simp; try omega, HB.out⟩
    · by_cases h1 : 64 < at'
      · have hr : (min (max at' 0) 64).toNat = 64 := by omega
        rw [hr]
        clear hr ht
        go_enter Try.func27, Try.ntmps27
        go_wp2
        go_ret
        exact ⟨by simp; try omega, HB.out⟩
      · have hr : ((min (max at' 0) 64).toNat : Int) = at' := by omega
        rw [hr]
        clear hr ht
        go_enter Try.func27, Try.ntmps27
        go_wp2
        go_ret
        exact ⟨by simp; try omega, HB.out⟩
  · have htb : ((k : Int) == torn) = false := by rw [beq_eq_false_iff_ne]; exact ht
    rw [if_neg ht]
    by_cases hkl2 : k < keep.length
    · obtain ⟨g, off, rfl, hg, hcell⟩ := hc k hkl2
      have hget : keep.getD k false = keep[k] := by simp [List.getD, hkl2]
      rw [hget]
      clear hc hget ht
      cases hb : keep[k]
      · rw [hb] at hcell
        rw [if_neg (by simp)]
        clear hb
        go_enter Try.func27, Try.ntmps27
        go_wp2
        go_ret
        exact ⟨rfl, HB.out⟩
      · rw [hb] at hcell
        rw [if_pos rfl]
        clear hb
        go_enter Try.func27, Try.ntmps27
        go_wp2
        go_ret
        exact ⟨rfl, HB.out⟩
    · have hget : keep.getD k false = false := by simp [List.getD, hkl2]
      rw [hget, if_neg (by simp)]
      clear hc hget ht
      go_enter Try.func27, Try.ntmps27
      go_wp2
      go_ret
      exact ⟨rfl, HB.out⟩
end Go.Proofs.Ytohmofhpbmhhjaa
