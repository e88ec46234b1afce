/- Deed: read, with each of what has bytes read. -/
import Derived.Test.YtjljbnilckkjnaaDoorG9
namespace Go.Proofs.YtjljbnilckkjnaaDoor
open Go Go.RowKit

/-- What has bytes read tells: a fault, or what is left. -/
def ByR (w : World) (D : Nat) (Qb : Int → World → Prop) (Qg : World → Prop) (y : World) (e : Ending) (w' : World) : Prop :=
  Fr (fun k => k = D ∨ k < w.heap.size) y w' ∧ ((∃ k, e = .panicked (faultC k) ∧ Qb k w') ∨ (∃ sv' l', e = .returned (.tuple #[]) ∧ Rdr w' D sv' l' ∧ (l' = [] → Qg w') ∧ (l' ≠ [] → Qb 4 w')))
/-- What 'read' tells. -/
def ReadR (Qb : Int → World → Prop) (Qg : World → Prop) (e : Ending) (w' : World) : Prop := ∃ err : Int, e = .returned (.int .i64 err) ∧ ((err = 0 ∧ Qg w') ∨ Qb err w')
theorem ReadR.bad {Qb : Int → World → Prop} {Qg : World → Prop} {w' : World} {k : Int} (h : Qb k w') : ReadR Qb Qg (.returned (.int .i64 k)) w' := ⟨k, rfl, Or.inr h⟩
theorem ReadR.good {Qb : Int → World → Prop} {Qg : World → Prop} {w' : World} (h : Qg w') : ReadR Qb Qg (.returned (.int .i64 0)) w' := ⟨0, rfl, Or.inl ⟨rfl, h⟩⟩
theorem fr_catch {w : World} {E : Nat} (k : Int) (h : E < w.heap.size) : Fr (· = E) w ((w.alloc (.cells #[.int .i64 k] 68)).setCell ⟨E, 0, none⟩ (.int .i64 k)) :=
  ((Fr.refl (· = E) w).alloc _).setCell ⟨E, 0, none⟩ (Or.inl rfl) _
theorem cell_of_one1 {w : World} {b : Nat} {v : Value} {t : TypeId} (h : w.heap[b]? = some (.cells #[v] t (0, 0))) : w.cell? ⟨b, 0, none⟩ = some v := cell_of_row _ _ _ _ _ _ h

set_option maxHeartbeats 4000000 in
set_option maxRecDepth 100000 in
theorem readAll (w : World) (sv : Value) (l : List UInt8) (V : Nat) (Qb : Int → World → Prop) (Qg : World → Prop) (hsv : Byz w sv l) (hl : l.length ≤ 9223372036854775807)
    (hby : ∀ y D, Below w.heap.size w y → w.heap.size < D → Rdr y D sv l → Calls Tryd.prog 46 #[.pointer (some ⟨D, 0, none⟩), .pointer (some ⟨V, 0, none⟩)] y (ByR w D Qb Qg y))
    (hQb : ∀ k w1 w2, Qb k w1 → Fr (· = w.heap.size) w1 w2 → Qb k w2) (hQg : ∀ w1 w2, Qg w1 → Fr (· = w.heap.size) w1 w2 → Qg w2) :
    Calls Tryd.prog 45 #[sv, .func (.func 46) #[] #[.pointer (some ⟨V, 0, none⟩)]] w (ReadR Qb Qg) := by
  obtain ⟨sa, sc, rfl⟩ := hsv.1
  obtain ⟨y, hy⟩ : ∃ y, y = (w.alloc (.cells #[.int .i64 0] 29)).alloc (.cells #[.slice sa l.length sc] 94) := ⟨_, rfl⟩
  have hb : Below w.heap.size w y := by rw [hy]; exact ((Below.refl _ w).alloc (Nat.le_refl _) _).alloc (by simp) _
  have hr : Rdr y (w.heap.size + 1) (.slice sa l.length sc) l := by
    refine ⟨?_, hsv.below hb, fun hn e => by have := hsv.lt _ e hn; omega⟩
    rw [hy]
    exact heap_alloc2_new w _ _
  have hE : y.heap[w.heap.size]? = some (.cells #[.int .i64 0] 29 (0, 0)) := by rw [hy]; exact heap_alloc2_old w _ _
  have HC := Lib.hid (hby y (w.heap.size + 1) hb (by omega) hr)
  have HE := Lib.hid hE
  have HY := Lib.hid hy
  have HQB := Lib.hid hQb
  have HQG := Lib.hid hQg
  have hszy : w.heap.size < y.heap.size := (Array.getElem?_eq_some_iff.1 hE).1
  clear hsv hby hb hr hE hy hQb hQg
  have hmf : ∀ (fn : Fn) (first cap : Array Value) (w : World), (Instr.makeFunc fn first cap).run Tryd.prog w = .ok (.func fn first cap) w := fun _ _ _ _ => rfl
  go_enter_defers Tryd.func45, Tryd.ntmps45
  go_wp2_with (first | rw [← HY.out])
  refine HC.out.mono ?_
  rintro e w1 ⟨hfr, ⟨k, rfl, hq⟩ | ⟨sv', l', rfl, hd, hg, hn⟩⟩
  · have hE1 := (hfr.block w.heap.size hszy (by omega)).trans HE.out
    have hz1 := (Array.getElem?_eq_some_iff.1 hE1).1
    have HQ := Lib.hid (HQB.out k w1 _ hq (fr_catch k hz1))
    have hset := heap_setCell_same (w1.alloc (.cells #[.int .i64 k] 68)) w.heap.size 0 #[.int .i64 0] 29 (.int .i64 k) ((Below.heap_alloc _ _ _ hz1).trans hE1)
    have hcf := cell_of_one1 hset
    clear hfr hq HC hset HY hszy
    go_wp2
    refine leaves_cons (f := 71) (args := #[.pointer (some ⟨w.heap.size, 0, none⟩)]) (by simp) (by simp [go_sem]) ?_
    refine (catch_pan w.heap.size 0 k [] _ (cell_of_one1 hE1) (frozen_of_row _ _ _ _ _ hE1)).mono ?_
    rintro e u' w'' ⟨rfl, rfl, rfl⟩
    have HF : Hid (ReadR Qb Qg (.returned (.int .i64 k)) _) := Lib.hid (ReadR.bad HQ.out)
    simp [Leaves, settle, results, Tryd.results45, go_sem, hcf]
    exact HF.out
  · have hE1 := (hfr.block w.heap.size hszy (by omega)).trans HE.out
    have hz1 := (Array.getElem?_eq_some_iff.1 hE1).1
    have hcd := hd.cell
    obtain ⟨ta, tc, hsl⟩ := hd.byz.1
    subst hsl
    by_cases hl' : l' = []
    · subst hl'
      have HQ := Lib.hid (HQG.out w1 (w1.setCell ⟨w.heap.size, 0, none⟩ (.int .i64 0)) (hg rfl) ((Fr.refl (· = w.heap.size) w1).setCell ⟨w.heap.size, 0, none⟩ (Or.inl rfl) _))
      have hset := heap_setCell_same w1 w.heap.size 0 #[.int .i64 0] 29 (.int .i64 0) hE1
      have hcf := cell_of_one1 hset
      have hce := cell_of_one1 hE1
      have hfe := frozen_of_row w1 w.heap.size 0 _ _ hE1
      clear hfr hd hg hn HC HY hszy hset
      go_wp2
      refine leaves_cons (f := 71) (args := #[.pointer (some ⟨w.heap.size, 0, none⟩)]) (by simp) (by simp [go_sem]) ?_
      refine (catch_idle w.heap.size _).mono ?_
      rintro e u' w'' ⟨rfl, rfl, rfl⟩
      have HF : Hid (ReadR Qb Qg (.returned (.int .i64 0)) _) := Lib.hid (ReadR.good HQ.out)
      simp [Leaves, settle, results, Tryd.results45, go_sem, hcf]
      exact HF.out
    · have hlen : 0 < (l'.length : Int) := by
        rcases l' with _ | ⟨c, t⟩
        · exact absurd rfl hl'
        · simp only [List.length_cons]; omega
      have HQ := Lib.hid (HQB.out 4 w1 _ (hn hl') (fr_catch 4 hz1))
      have hset := heap_setCell_same (w1.alloc (.cells #[.int .i64 4] 68)) w.heap.size 0 #[.int .i64 0] 29 (.int .i64 4) ((Below.heap_alloc _ _ _ hz1).trans hE1)
      have hcf := cell_of_one1 hset
      clear hfr hd hg hn HC HY hszy hset hl'
      go_wp2
      refine leaves_cons (f := 71) (args := #[.pointer (some ⟨w.heap.size, 0, none⟩)]) (by simp) (by simp [go_sem]) ?_
      refine (catch_pan w.heap.size 0 4 [] _ (cell_of_one1 hE1) (frozen_of_row _ _ _ _ _ hE1)).mono ?_
      rintro e u' w'' ⟨rfl, rfl, rfl⟩
      have HF : Hid (ReadR Qb Qg (.returned (.int .i64 4)) _) := Lib.hid (ReadR.bad HQ.out)
      simp [Leaves, settle, results, Tryd.results45, go_sem, hcf]
      exact HF.out
set_option maxHeartbeats 4000000 in
set_option maxRecDepth 100000 in
theorem readUser (w : World) (sv : Value) (l : List UInt8) (V : Nat) (Qb : Int → World → Prop) (Qg : World → Prop) (hsv : Byz w sv l) (hl : l.length ≤ 9223372036854775807)
    (hby : ∀ y D, Below w.heap.size w y → w.heap.size < D → Rdr y D sv l → Calls Tryd.prog 56 #[.pointer (some ⟨D, 0, none⟩), .pointer (some ⟨V, 0, none⟩)] y (ByR w D Qb Qg y))
    (hQb : ∀ k w1 w2, Qb k w1 → Fr (· = w.heap.size) w1 w2 → Qb k w2) (hQg : ∀ w1 w2, Qg w1 → Fr (· = w.heap.size) w1 w2 → Qg w2) :
    Calls Tryd.prog 45 #[sv, .func (.func 56) #[] #[.pointer (some ⟨V, 0, none⟩)]] w (ReadR Qb Qg) := by
  obtain ⟨sa, sc, rfl⟩ := hsv.1
  obtain ⟨y, hy⟩ : ∃ y, y = (w.alloc (.cells #[.int .i64 0] 29)).alloc (.cells #[.slice sa l.length sc] 94) := ⟨_, rfl⟩
  have hb : Below w.heap.size w y := by rw [hy]; exact ((Below.refl _ w).alloc (Nat.le_refl _) _).alloc (by simp) _
  have hr : Rdr y (w.heap.size + 1) (.slice sa l.length sc) l := by
    refine ⟨?_, hsv.below hb, fun hn e => by have := hsv.lt _ e hn; omega⟩
    rw [hy]
    exact heap_alloc2_new w _ _
  have hE : y.heap[w.heap.size]? = some (.cells #[.int .i64 0] 29 (0, 0)) := by rw [hy]; exact heap_alloc2_old w _ _
  have HC := Lib.hid (hby y (w.heap.size + 1) hb (by omega) hr)
  have HE := Lib.hid hE
  have HY := Lib.hid hy
  have HQB := Lib.hid hQb
  have HQG := Lib.hid hQg
  have hszy : w.heap.size < y.heap.size := (Array.getElem?_eq_some_iff.1 hE).1
  clear hsv hby hb hr hE hy hQb hQg
  have hmf : ∀ (fn : Fn) (first cap : Array Value) (w : World), (Instr.makeFunc fn first cap).run Tryd.prog w = .ok (.func fn first cap) w := fun _ _ _ _ => rfl
  go_enter_defers Tryd.func45, Tryd.ntmps45
  go_wp2_with (first | rw [← HY.out])
  refine HC.out.mono ?_
  rintro e w1 ⟨hfr, ⟨k, rfl, hq⟩ | ⟨sv', l', rfl, hd, hg, hn⟩⟩
  · have hE1 := (hfr.block w.heap.size hszy (by omega)).trans HE.out
    have hz1 := (Array.getElem?_eq_some_iff.1 hE1).1
    have HQ := Lib.hid (HQB.out k w1 _ hq (fr_catch k hz1))
    have hset := heap_setCell_same (w1.alloc (.cells #[.int .i64 k] 68)) w.heap.size 0 #[.int .i64 0] 29 (.int .i64 k) ((Below.heap_alloc _ _ _ hz1).trans hE1)
    have hcf := cell_of_one1 hset
    clear hfr hq HC hset HY hszy
    go_wp2
    refine leaves_cons (f := 71) (args := #[.pointer (some ⟨w.heap.size, 0, none⟩)]) (by simp) (by simp [go_sem]) ?_
    refine (catch_pan w.heap.size 0 k [] _ (cell_of_one1 hE1) (frozen_of_row _ _ _ _ _ hE1)).mono ?_
    rintro e u' w'' ⟨rfl, rfl, rfl⟩
    have HF : Hid (ReadR Qb Qg (.returned (.int .i64 k)) _) := Lib.hid (ReadR.bad HQ.out)
    simp [Leaves, settle, results, Tryd.results45, go_sem, hcf]
    exact HF.out
  · have hE1 := (hfr.block w.heap.size hszy (by omega)).trans HE.out
    have hz1 := (Array.getElem?_eq_some_iff.1 hE1).1
    have hcd := hd.cell
    obtain ⟨ta, tc, hsl⟩ := hd.byz.1
    subst hsl
    by_cases hl' : l' = []
    · subst hl'
      have HQ := Lib.hid (HQG.out w1 (w1.setCell ⟨w.heap.size, 0, none⟩ (.int .i64 0)) (hg rfl) ((Fr.refl (· = w.heap.size) w1).setCell ⟨w.heap.size, 0, none⟩ (Or.inl rfl) _))
      have hset := heap_setCell_same w1 w.heap.size 0 #[.int .i64 0] 29 (.int .i64 0) hE1
      have hcf := cell_of_one1 hset
      have hce := cell_of_one1 hE1
      have hfe := frozen_of_row w1 w.heap.size 0 _ _ hE1
      clear hfr hd hg hn HC HY hszy hset
      go_wp2
      refine leaves_cons (f := 71) (args := #[.pointer (some ⟨w.heap.size, 0, none⟩)]) (by simp) (by simp [go_sem]) ?_
      refine (catch_idle w.heap.size _).mono ?_
      rintro e u' w'' ⟨rfl, rfl, rfl⟩
      have HF : Hid (ReadR Qb Qg (.returned (.int .i64 0)) _) := Lib.hid (ReadR.good HQ.out)
      simp [Leaves, settle, results, Tryd.results45, go_sem, hcf]
      exact HF.out
    · have hlen : 0 < (l'.length : Int) := by
        rcases l' with _ | ⟨c, t⟩
        · exact absurd rfl hl'
        · simp only [List.length_cons]; omega
      have HQ := Lib.hid (HQB.out 4 w1 _ (hn hl') (fr_catch 4 hz1))
      have hset := heap_setCell_same (w1.alloc (.cells #[.int .i64 4] 68)) w.heap.size 0 #[.int .i64 0] 29 (.int .i64 4) ((Below.heap_alloc _ _ _ hz1).trans hE1)
      have hcf := cell_of_one1 hset
      clear hfr hd hg hn HC HY hszy hset hl'
      go_wp2
      refine leaves_cons (f := 71) (args := #[.pointer (some ⟨w.heap.size, 0, none⟩)]) (by simp) (by simp [go_sem]) ?_
      refine (catch_pan w.heap.size 0 4 [] _ (cell_of_one1 hE1) (frozen_of_row _ _ _ _ _ hE1)).mono ?_
      rintro e u' w'' ⟨rfl, rfl, rfl⟩
      have HF : Hid (ReadR Qb Qg (.returned (.int .i64 4)) _) := Lib.hid (ReadR.bad HQ.out)
      simp [Leaves, settle, results, Tryd.results45, go_sem, hcf]
      exact HF.out
end Go.Proofs.YtjljbnilckkjnaaDoor
