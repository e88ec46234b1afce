/- The reference's list of seats: where a user is. -/
import Derived.Test.YtbmdhhafmieapaaH4
import Derived.Test.YtbmdhhafmieapaaH6
import Derived.Sort.Walk0
namespace Go.Proofs.Ytbmdhhafmieapaa
open Go Go.RowKit Go.Maps

theorem RefMap.lt {w : World} {q g cap : Nat} {n : Int} {a : Option Addr} {l : List Known} (h : RefMap w q n a cap g l) : q < w.heap.size := World.block_lt_of_cell? w _ h.c0
theorem RefMap.below {w w' : World} {q g cap B : Nat} {n : Int} {a : Option Addr} {l : List Known} (h : RefMap w q n a cap g l) (hb : Below B w w') (hq : q < B) (hg : l ≠ [] → g < B) : RefMap w' q n a cap g l := by
  refine ⟨(hb.cell (p := ⟨q, 0, none⟩) hq).trans h.c0, (hb.cell (p := ⟨q, 1, none⟩) hq).trans h.c1, h.at', fun i x hi => ?_⟩
  have hne : l ≠ [] := by intro e; rw [e] at hi; simp at hi
  obtain ⟨r0, r1, r2⟩ := h.rows i x hi
  exact ⟨(hb.cell (p := ⟨g, i * 3, none⟩) (hg hne)).trans r0, (hb.cell (p := ⟨g, i * 3 + 1, none⟩) (hg hne)).trans r1, (hb.cell (p := ⟨g, i * 3 + 2, none⟩) (hg hne)).trans r2⟩
theorem RefMap.glt {w : World} {q g cap : Nat} {n : Int} {a : Option Addr} {l : List Known} (h : RefMap w q n a cap g l) (hne : l ≠ []) : g < w.heap.size := by
  cases l with
  | nil => exact absurd rfl hne
  | cons x t => exact World.block_lt_of_cell? w _ (h.rows 0 x rfl).1

theorem isK_lt {l : List Known} {u : List UInt8} (h : isK l u = true) : ∃ hi : idx l u < l.length, (l[idx l u]'hi).1 = u := by
  unfold isK at h
  by_cases hi : idx l u < l.length
  · rw [List.getElem?_eq_getElem hi] at h
    exact ⟨hi, eq_of_beq h⟩
  · rw [List.getElem?_eq_none (by omega)] at h
    cases h
/-- What the reference's Seat tells. -/
def refSeatOf (l : List Known) (u : ByteArray) (n : Int) : Known := if isK l u.data.toList then (l[idx l u.data.toList]?).getD ([], 0, 0) else atHome u n

set_option maxHeartbeats 2000000 in
set_option maxRecDepth 100000 in
theorem refSeat (q g cap : Nat) (n : Int) (a : Option Addr) (l : List Known) (u : ByteArray) (w : World) (hu : u.size ≤ 140737488355000) (hn : 1 ≤ n ∧ n ≤ 4) (hm : RefMap w q n a cap g l) (hl : l.length ≤ 1000000) :
    Calls Try.prog 15 #[.pointer (some ⟨q, 0, none⟩), .string u] w fun e w' => e = .returned (.tuple #[seatV (refSeatOf l u n), .int .i64 0]) ∧ Below w.heap.size w w' := by
  have hP := fun W h => refPlace q g cap n a l u W h hl
  have hq := hm.lt
  have hg := hm.glt
  by_cases hk : isK l u.data.toList = true
  · obtain ⟨hi, hie⟩ := isK_lt hk
    have hr : refSeatOf l u n = l[idx l u.data.toList]'hi := by unfold refSeatOf; rw [if_pos hk, List.getElem?_eq_getElem hi]; rfl
    rw [hr]
    rw [hk] at hP
    have hgl := hg (by intro e; rw [e] at hi; simp at hi)
    have ha := hm.at' (by intro e; rw [e] at hi; simp at hi)
    have hrow := fun W (h : RefMap W q n a cap g l) => h.rows _ _ (List.getElem?_eq_getElem hi)
    generalize l[idx l u.data.toList]'hi = x at *
    generalize idx l u.data.toList = k at *
    obtain ⟨xu, xs, xe⟩ := x
    subst ha
    clear hr hk hie
    have t0 := Three.new w 35 (.string ⟨#[]⟩) (.int .i64 0) (.int .i64 0)
    have b0 := (Below.refl w.heap.size w).alloc (Nat.le_refl _) (.cells #[.string ⟨#[]⟩, .int .i64 0, .int .i64 0] 35)
    have hm0 := hm.below b0 hq (fun _ => hgl)
    have hz0 : w.heap.size < (w.alloc (.cells #[.string ⟨#[]⟩, .int .i64 0, .int .i64 0] 35)).heap.size := by simp
    go_enter Try.func15, Try.ntmps15
    go_wp2_with fail
    refine (hP _ hm0).mono ?_
    rintro e1 w1 ⟨rfl, b1⟩
    have t1 := t0.below b1 hz0
    have B1 := b0.trans (b1.mono (by omega))
    obtain ⟨⟨x0, x1, x2⟩, f0, f1, f2⟩ := id t1
    have hm1 := hm.below B1 hq (fun _ => hgl)
    obtain ⟨r0, r1, r2⟩ := hrow w1 hm1
    have c1 := hm1.c1
    have hz1 : w.heap.size < w1.heap.size := by have := b1.size; omega
    clear hP hrow hm0 hm1 t0 t1
    go_wp2
    exact bodyPost_ret (v := .tuple #[seatV (xu, xs, xe), .int .i64 0]) (by simp [results, Try.results15, go_sem, seatV, x0, x1, x2]) rfl ⟨rfl, ((B1.setCell (Nat.le_refl _) _).setCell (Nat.le_refl _) _).setCell (Nat.le_refl _) _⟩
  · have hr : refSeatOf l u n = atHome u n := by unfold refSeatOf; rw [if_neg hk]
    rw [hr]
    have hkf : isK l u.data.toList = false := by simpa using hk
    rw [hkf] at hP
    have hH := fun W => refHome u n W (by omega)
    have hh : homeN u n = ((homeN u n).1, 0) := by unfold homeN; rw [if_pos hn]
    rw [hh] at hH
    unfold atHome
    generalize (homeN u n).1 = hm1 at *
    generalize idx l u.data.toList = k at *
    have t0 := Three.new w 35 (.string ⟨#[]⟩) (.int .i64 0) (.int .i64 0)
    have b0 := (Below.refl w.heap.size w).alloc (Nat.le_refl _) (.cells #[.string ⟨#[]⟩, .int .i64 0, .int .i64 0] 35)
    have hm0 := hm.below b0 hq hg
    have hz0 : w.heap.size < (w.alloc (.cells #[.string ⟨#[]⟩, .int .i64 0, .int .i64 0] 35)).heap.size := by simp
    clear hr hk hkf hh
    go_enter Try.func15, Try.ntmps15
    go_wp2_with fail
    refine (hP _ hm0).mono ?_
    rintro e1 w1 ⟨rfl, b1⟩
    have t1 := t0.below b1 hz0
    have B1 := b0.trans (b1.mono (by omega))
    obtain ⟨⟨x0, x1, x2⟩, f0, f1, f2⟩ := id t1
    have hm1' := hm.below B1 hq hg
    have c0 := hm1'.c0
    have hz1 : w.heap.size < w1.heap.size := by have := b1.size; omega
    clear hP hm0 hm1' t0 t1
    go_wp2_with (go_at_call 9; refine (hH _).mono ?_; rintro e w' ⟨rfl, rfl⟩)
    exact bodyPost_ret (v := .tuple #[.agg #[.string u, .int .i64 hm1, .int .i64 1], .int .i64 0]) (by simp [results, Try.results15, go_sem, x0, x1, x2]) rfl ⟨by unfold seatV; rw [Lib.mk_data], ((B1.setCell (Nat.le_refl _) _).setCell (Nat.le_refl _) _).setCell (Nat.le_refl _) _⟩
end Go.Proofs.Ytbmdhhafmieapaa
