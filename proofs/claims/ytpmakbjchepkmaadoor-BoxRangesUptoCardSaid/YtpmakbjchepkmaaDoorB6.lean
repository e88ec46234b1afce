/- Box: clone. -/
import Derived.Test.YtpmakbjchepkmaaDoorB5
import Derived.Deep.RegionLaw
namespace Go.Proofs.YtpmakbjchepkmaaDoor
open Go Go.RowKit

/-- What slices.Clone of letters tells: new memory with these letters, the same bytes. -/
def LettersR (W : World) (ps : List LV) (e : Ending) (w' : World) : Prop := ∃ a c, e = .returned (.slice a ps.length c) ∧ Owns W.heap.size w' (.slice a ps.length c) ps ∧ Below W.heap.size W w'
set_option maxRecDepth 100000 in
set_option maxHeartbeats 1000000 in
theorem lclone_any (v : Value) (ps : List LV) (w : World) (h : Lets w v ps) (hl : ps.length ≤ 1000) :
    Calls Tryd.prog 40 #[v] w (LettersR w ps) := by
  obtain ⟨a, cap, rfl, hcap⟩ := h.shape
  cases a with
  | none =>
    have h0 : ps = [] := by
      rcases ps with _ | ⟨x, t⟩
      · rfl
      · obtain ⟨g, off, c, e, _⟩ := h.cells (by simp)
        cases e
    subst h0
    have he := fun w => Lib.run_eql_slice_nil (P := Tryd.prog) w 38 68 none 0 cap 0 0 Tryd.underlying38
    clear h
    go_enter Tryd.func40, Tryd.ntmps40
    go_wp2
    go_ret
    exact ⟨none, 0, rfl, World.ownsRow_nil .., Below.refl _ _⟩
  | some ad =>
    have he := fun w => Lib.run_eql_slice_nil (P := Tryd.prog) w 38 68 (some ad) ps.length cap 0 0 Tryd.underlying38
    have hbl : Below w.heap.size w (w.alloc (.cells #[] 68)) := (Below.refl _ w).alloc (Nat.le_refl _) _
    have hrow : Owns w.heap.size (w.alloc (.cells #[] 68)) (.slice (some ⟨w.heap.size, 0, none⟩) 0 0) [] := World.ownsRow_lit (base := w.heap.size) w #[] 0 (Nat.le_refl _) (by simp) rfl
    obtain ⟨a', c', w', hr, hrow', hg⟩ := appL _ hrow (h.below hbl) hbl.size (by simp; omega)
    rw [List.nil_append] at hr hrow'
    have hB : Below w.heap.size w w' := hbl.grown hg hbl.size (fun k hk => by cases hk; exact Nat.le_refl _)
    have HR := Lib.hid hr
    have HRow := Lib.hid hrow'
    have HB := Lib.hid hB
    clear hbl hrow hr hrow' hg hB h
    go_enter Tryd.func40, Tryd.ntmps40
    go_wp2_with (at_builtin; refine wpList_append_run _ rfl _ _ 38 38 rfl _ _ rfl rfl _ w' HR.out ?_)
    go_ret
    exact ⟨_, _, rfl, HRow.out, HB.out⟩

/-- A box of the call's own in block b. -/
structure BoxW (w : World) (b : Nat) (name : ByteArray) (valid next : Int) (sv : Value) : Prop where
  c0 : w.cell? ⟨b, 0, none⟩ = some (.string name)
  c1 : w.cell? ⟨b, 1, none⟩ = some (.int .i64 valid)
  c2 : w.cell? ⟨b, 2, none⟩ = some (.int .i64 next)
  c3 : w.cell? ⟨b, 3, none⟩ = some sv
  f0 : w.frozen? ⟨b, 0, none⟩ = false
  f1 : w.frozen? ⟨b, 1, none⟩ = false
  f2 : w.frozen? ⟨b, 2, none⟩ = false
  f3 : w.frozen? ⟨b, 3, none⟩ = false
section
variable {w w' : World} {b B : Nat} {name : ByteArray} {valid next : Int} {sv : Value}
theorem BoxW.new (w : World) (name : ByteArray) (valid next : Int) (sv : Value) (t : TypeId) : BoxW (w.alloc (.cells #[.string name, .int .i64 valid, .int .i64 next, sv] t)) w.heap.size name valid next sv :=
  ⟨World.cell?_alloc_new _ _ _ _, World.cell?_alloc_new _ _ _ _, World.cell?_alloc_new _ _ _ _, World.cell?_alloc_new _ _ _ _, World.frozen?_alloc_new _ _ _ _, World.frozen?_alloc_new _ _ _ _, World.frozen?_alloc_new _ _ _ _, World.frozen?_alloc_new _ _ _ _⟩
theorem BoxW.kept (h : BoxW w b name valid next sv) (hb : w'.heap[b]? = w.heap[b]?) : BoxW w' b name valid next sv :=
  have c := fun j => World.cell?_of_block (a := ⟨b, j, none⟩) hb
  have f := fun j => World.frozen?_of_block (a := ⟨b, j, none⟩) hb
  ⟨(c 0).trans h.c0, (c 1).trans h.c1, (c 2).trans h.c2, (c 3).trans h.c3, (f 0).trans h.f0, (f 1).trans h.f1, (f 2).trans h.f2, (f 3).trans h.f3⟩
theorem BoxW.below (h : BoxW w b name valid next sv) (hb : Below B w w') (hg : b < B) : BoxW w' b name valid next sv := h.kept (hb.block b hg)
theorem BoxW.lt (h : BoxW w b name valid next sv) : b < w.heap.size := World.block_lt_of_cell? w _ h.c0
theorem BoxW.set3 (h : BoxW w b name valid next sv) (v : Value) : BoxW (w.setCell ⟨b, 3, none⟩ v) b name valid next v := by
  have o : ∀ j, j ≠ 3 → (w.setCell ⟨b, 3, none⟩ v).cell? ⟨b, j, none⟩ = w.cell? ⟨b, j, none⟩ := fun j hj => World.cell?_setCell_other _ _ _ _ (by intro e; injection e with _ e; omega)
  exact ⟨(o 0 (by omega)).trans h.c0, (o 1 (by omega)).trans h.c1, (o 2 (by omega)).trans h.c2, World.cell?_setCell_same _ _ _ h.c3, by rw [World.frozen?_setCell]; exact h.f0, by rw [World.frozen?_setCell]; exact h.f1, by rw [World.frozen?_setCell]; exact h.f2, by rw [World.frozen?_setCell]; exact h.f3⟩
/-- A whole box is laid there. -/
theorem BoxW.put4 (h : BoxW w b name valid next sv) (name' : ByteArray) (valid' next' : Int) (sv' : Value) :
    ∃ W, W = (((w.setCell ⟨b, 0, none⟩ (.string name')).setCell ⟨b, 1, none⟩ (.int .i64 valid')).setCell ⟨b, 2, none⟩ (.int .i64 next')).setCell ⟨b, 3, none⟩ sv' ∧ BoxW W b name' valid' next' sv' ∧ Fr (· = b) w W := by
  refine ⟨_, rfl, ?_, ((((Fr.refl (· = b) w).setCell ⟨b, 0, none⟩ (Or.inl rfl) _).setCell ⟨b, 1, none⟩ (Or.inl rfl) _).setCell ⟨b, 2, none⟩ (Or.inl rfl) _).setCell ⟨b, 3, none⟩ (Or.inl rfl) _⟩
  have o : ∀ (W : World) (i j : Nat) (v : Value), i ≠ j → (W.setCell ⟨b, j, none⟩ v).cell? ⟨b, i, none⟩ = W.cell? ⟨b, i, none⟩ := fun W i j v hj => World.cell?_setCell_other _ _ _ _ (by intro e; injection e with _ e; omega)
  refine ⟨?_, ?_, ?_, ?_, by simp only [World.frozen?_setCell]; exact h.f0, by simp only [World.frozen?_setCell]; exact h.f1, by simp only [World.frozen?_setCell]; exact h.f2, by simp only [World.frozen?_setCell]; exact h.f3⟩
  · rw [o _ _ _ _ (by omega), o _ _ _ _ (by omega), o _ _ _ _ (by omega)]; exact World.cell?_setCell_same _ _ _ h.c0
  · rw [o _ _ _ _ (by omega), o _ _ _ _ (by omega)]; exact World.cell?_setCell_same _ _ _ ((o _ _ _ _ (by omega)).trans h.c1)
  · rw [o _ _ _ _ (by omega)]; exact World.cell?_setCell_same _ _ _ ((o _ _ _ _ (by omega)).trans ((o _ _ _ _ (by omega)).trans h.c2))
  · exact World.cell?_setCell_same _ _ _ ((o _ _ _ _ (by omega)).trans ((o _ _ _ _ (by omega)).trans ((o _ _ _ _ (by omega)).trans h.c3)))
end
theorem setCell_kept (w : World) (p : Addr) (v : Value) (k : Nat) (h : k ≠ p.block) : (w.setCell p v).heap[k]? = w.heap[k]? := heap_setCell_other w p k v h

/-- The letters so far cloned. -/
structure Half (W wr : World) (g : Nat) (cap : Nat) (ps qs : List LV) (k : Nat) : Prop where
  own : Owns W.heap.size wr (.slice (some ⟨g, 0, none⟩) ps.length cap) qs
  same : qs.map (·.1) = ps.map (·.1)
  done : ∀ i q, i < k → qs[i]? = some q → Row (W.heap.size + 2) wr q.2 q.1.bytes ∧ q.2.ownBlock ≠ some g
  size : W.heap.size + 2 ≤ wr.heap.size
  rest : ∀ i, k ≤ i → qs[i]? = ps[i]?
  below : Below W.heap.size W wr
theorem Half.step {W wr wn : World} {g cap : Nat} {ps qs : List LV} {k : Nat} (h : Half W wr g cap ps qs k) (p : LV) (hp : ps[k]? = some p) (a : Option Addr) (c : Nat)
    (hrow : Row wr.heap.size wn (.slice a p.1.bytes.length c) p.1.bytes) (hb : Below wr.heap.size wr wn) :
    Half W (wn.setCell ⟨g, k * 3 + 2, none⟩ (.slice a p.1.bytes.length c)) g cap ps (qs.set k (p.1, .slice a p.1.bytes.length c)) (k + 1) := by
  have hlen : qs.length = ps.length := by have := congrArg List.length h.same; simpa using this
  have hkp : k < ps.length := (List.getElem?_eq_some_iff.1 hp).1
  have hWr := h.below.size
  have hsz := h.size
  have hown : wr.ownsRow W.heap.size 68 3 (.slice (some ⟨g, 0, none⟩) ps.length cap) ps.length (cellsP qs) := by have := h.own; unfold Owns at this; rwa [hlen] at this
  have hg := World.ownsRow.lt hown g rfl
  have hgn : g < wn.heap.size := Nat.lt_of_lt_of_le hg.2 hb.size
  have hq : qs[k]? = some p := (h.rest k (Nat.le_refl _)).trans hp
  have hown1 := owns_frame hown (fun k' hk' => by cases hk'; exact hb.block g hg.2)
  have hrg : ∀ x, (Value.slice a p.1.bytes.length c).ownBlock = some x → x ≠ g ∧ wr.heap.size ≤ x := fun x hx => by
    cases a with
    | none => simp [Value.ownBlock] at hx
    | some ad =>
      simp [Value.ownBlock] at hx
      have := (hrow.2 ad _ _ rfl).1
      omega
  have hnew : Row (W.heap.size + 2) (wn.setCell ⟨g, k * 3 + 2, none⟩ (.slice a p.1.bytes.length c)) (.slice a p.1.bytes.length c) p.1.bytes := by
    have h1 : Row wr.heap.size (wn.setCell ⟨g, k * 3 + 2, none⟩ (.slice a p.1.bytes.length c)) (.slice a p.1.bytes.length c) p.1.bytes := hrow.kept (by simp [World.setCell]) (fun x hx => setCell_kept _ _ _ _ (hrg x hx).1)
    exact ⟨h1.1, fun ad n' c' e => by obtain ⟨q1, q2⟩ := h1.2 ad n' c' e; exact ⟨by omega, q2⟩⟩
  refine ⟨?_, ?_, ?_, by have := hb.size; simp [World.setCell]; omega, ?_, ?_⟩
  · have h2 := owns_set hown1 (k * 3 + 2) [.slice a p.1.bytes.length c] (by simp; omega)
    have hov : over (cellsP qs) (k * 3 + 2) [.slice a p.1.bytes.length c] = cellsP (qs.set k (p.1, .slice a p.1.bytes.length c)) := by
      rw [show cellsP (qs.set k (p.1, .slice a p.1.bytes.length c)) = over (cellsP qs) (k * 3) (cellsLV (p.1, .slice a p.1.bytes.length c)) from (flat_set cellsLV 3 qs k (fun _ _ => rfl) _ rfl (by omega)).symm]
      obtain ⟨a0, a1, a2⟩ := cellsP_at qs k p hq
      apply List.ext_getElem?
      intro j
      have hl := cellsP_len qs
      unfold over
      simp only [cellsLV, List.getElem?_append, List.length_append, List.length_take, List.getElem?_take, List.getElem?_drop, List.length_cons, List.length_nil]
      by_cases h1 : j < k * 3
      · simp [show j < k * 3 + 2 by omega, h1, show j < min (k * 3 + 2) (cellsP qs).length by omega, show j < min (k * 3 + 2) (cellsP qs).length + 1 by omega, show j < min (k * 3) (cellsP qs).length by omega, show j < min (k * 3) (cellsP qs).length + 3 by omega]
      · by_cases h3 : j < k * 3 + 3
        · rcases (show j = k * 3 ∨ j = k * 3 + 1 ∨ j = k * 3 + 2 by omega) with rfl | rfl | rfl
          · simp [show k * 3 < min (k * 3 + 2) (cellsP qs).length by omega, show k * 3 < min (k * 3 + 2) (cellsP qs).length + 1 by omega, show ¬ k * 3 < min (k * 3) (cellsP qs).length by omega, show k * 3 < min (k * 3) (cellsP qs).length + 3 by omega, show k * 3 - min (k * 3) (cellsP qs).length = 0 by omega, a0]
          · simp [show k * 3 + 1 < min (k * 3 + 2) (cellsP qs).length by omega, show k * 3 + 1 < min (k * 3 + 2) (cellsP qs).length + 1 by omega, show ¬ k * 3 + 1 < min (k * 3) (cellsP qs).length by omega, show k * 3 + 1 < min (k * 3) (cellsP qs).length + 3 by omega, show k * 3 + 1 - min (k * 3) (cellsP qs).length = 1 by omega, a1]
          · simp [show ¬ k * 3 + 2 < min (k * 3 + 2) (cellsP qs).length by omega, show k * 3 + 2 < min (k * 3 + 2) (cellsP qs).length + 1 by omega, show ¬ k * 3 + 2 < min (k * 3) (cellsP qs).length by omega, show k * 3 + 2 < min (k * 3) (cellsP qs).length + 3 by omega, show k * 3 + 2 - min (k * 3) (cellsP qs).length = 2 by omega, show k * 3 + 2 - min (k * 3 + 2) (cellsP qs).length = 0 by omega]
        · simp [show ¬ j < min (k * 3 + 2) (cellsP qs).length + 1 by omega, show ¬ j < min (k * 3) (cellsP qs).length + 3 by omega, show k * 3 + 2 + 1 + (j - (min (k * 3 + 2) (cellsP qs).length + 1)) = j by omega, show k * 3 + 3 + (j - (min (k * 3) (cellsP qs).length + 3)) = j by omega]
    rw [hov] at h2
    unfold Owns
    rw [List.length_set, hlen]
    exact h2
  · apply List.ext_getElem?
    intro j
    have := congrArg (fun l => l[j]?) h.same
    simp only [List.getElem?_map] at this ⊢
    rw [List.getElem?_set]
    split
    · rename_i e; subst e
      rw [if_pos (by omega), hp]; rfl
    · exact this
  · intro i q hi hqi
    rw [List.getElem?_set] at hqi
    split at hqi
    · rename_i e; subst e
      rw [if_pos (by omega)] at hqi
      injection hqi with hqi
      subst hqi
      exact ⟨hnew, fun e => (hrg g e).1 rfl⟩
    · obtain ⟨r1, r2⟩ := h.done i q (by omega) hqi
      refine ⟨r1.kept (by have := hb.size; simp [World.setCell]; omega) (fun x hx => (setCell_kept _ _ _ _ (by intro e; simp only at e; subst e; exact r2 hx)).trans (hb.block x (r1.1.lt x hx))), r2⟩
  · intro i hi
    rw [List.getElem?_set, if_neg (by omega)]
    exact h.rest i (by omega)
  · exact (h.below.trans (hb.mono hWr)).setCell hg.1 _
end Go.Proofs.YtpmakbjchepkmaaDoor
