/- Coord: what an operation does; remove, Drop, end. -/
import Derived.Test.YtleghofpabdkhaaY7
namespace Go.Proofs.Ytleghofpabdkhaa
open Go Go.RowKit

/-- What an operation on the node does: it is c' behind it; it writes to its own blocks alone. -/
def OpC (B : Nat) (w : World) (p : Nat) (sv : Value) (c' : Cd) (w' : World) : Prop :=
  ∃ sv', CdAt B w' p c' sv' ∧ Fr (fun k => k = p ∨ sv.ownBlock = some k) w w' ∧ ∀ g, sv'.ownBlock = some g → sv.ownBlock = some g ∨ w.heap.size ≤ g
theorem OpC.same {B p : Nat} {w w' : World} {c : Cd} {sv : Value} (h : CdAt B w p c sv) (hb : Below w.heap.size w w') : OpC B w p sv c w' :=
  ⟨sv, h.below hb, Fr.of_below _ hb, fun g hg => Or.inl hg⟩
/-- Other blocks are made ahead of it. -/
theorem OpC.lift {B p : Nat} {w wx w' : World} {c' : Cd} {sv : Value} (hb : Below w.heap.size w wx) (h : OpC B wx p sv c' w') : OpC B w p sv c' w' := by
  obtain ⟨sv', h1, h2, h3⟩ := h
  exact ⟨sv', h1, (Fr.of_below (fun k => k = p ∨ sv.ownBlock = some k) hb).trans h2 (fun _ _ h => h) (fun _ _ h => h), fun g hg => (h3 g hg).imp id (fun h => by have := hb.size; omega)⟩
theorem OpC.trans {B p : Nat} {w w1 w2 : World} {c1 c2 : Cd} {sv sv1 : Value} (hf : Fr (fun k => k = p ∨ sv.ownBlock = some k) w w1) (hn : ∀ g, sv1.ownBlock = some g → sv.ownBlock = some g ∨ w.heap.size ≤ g) (h : OpC B w1 p sv1 c2 w2) : OpC B w p sv c2 w2 := by
  obtain ⟨sv', h1, h2, h3⟩ := h
  refine ⟨sv', h1, hf.trans h2 (fun _ _ h => h) (fun k hk e => ?_), fun g hg => ?_⟩
  · rcases e with e | e
    · exact Or.inl e
    · rcases hn k e with e | e
      · exact Or.inr e
      · omega
  · rcases h3 g hg with h | h
    · exact hn g h
    · exact Or.inr (by have := hf.size; omega)
theorem OpC.below {B p : Nat} {w w' : World} {c c' : Cd} {sv : Value} (h0 : CdAt B w p c sv) (h : OpC B w p sv c' w') (hB : B ≤ w.heap.size) : Below B w w' := by
  obtain ⟨_, _, hf, _⟩ := h
  exact hf.below hB (fun k e => by rcases e with rfl | e; exact h0.base; exact (World.ownsRow.lt h0.us k e).1)
def Cd.cut (c : Cd) (k : Nat) : Cd := { c with under := c.under.eraseIdx k }
theorem idx_spec {α : Type} (f : α → Bool) : ∀ (l : List α) (k : Nat), (idxF f k l = -1 ∧ ∀ t ∈ l, f t = false) ∨ ∃ (j : Nat) (t : α), idxF f k l = ((k + j : Nat) : Int) ∧ l[j]? = some t ∧ f t = true ∧ j < l.length
  | [], k => Or.inl ⟨rfl, fun t h => by cases h⟩
  | x :: t, k => by
    rw [idxF]
    by_cases h : f x = true
    · rw [if_pos h]
      exact Or.inr ⟨0, x, rfl, rfl, h, by simp⟩
    · rw [if_neg h]
      rcases idx_spec f t (k + 1) with ⟨h1, h2⟩ | ⟨j, y, h1, h2, h3, h4⟩
      · refine Or.inl ⟨h1, fun y hy => ?_⟩
        rcases List.mem_cons.1 hy with rfl | hy
        · simpa using h
        · exact h2 y hy
      · exact Or.inr ⟨j + 1, y, by rw [h1]; congr 1; omega, by simpa using h2, h3, by simp; omega⟩
set_option maxHeartbeats 4000000 in
set_option maxRecDepth 100000 in
theorem remove_any (B p : Nat) (w : World) (c : Cd) (sv : Value) (i : Nat) (h : CdAt B w p c sv) (hi : i < c.under.length) (hn : c.under.length ≤ 1000) :
    Calls Try.prog 35 #[.pointer (some ⟨p, 0, none⟩), .int .i64 (i : Int)] w fun e w' => e = .returned (.tuple #[]) ∧ OpC B w p sv (c.cut i) w' := by
  obtain ⟨c0, c1, c2, c3, f1, f2, f3⟩ := h.cells
  obtain ⟨m, hm⟩ : ∃ m, c.under.length = m + 1 := ⟨c.under.length - 1, by omega⟩
  obtain ⟨a, k, e, _⟩ := h.lens
  have ho := h.us
  rcases ho.2 with ⟨_, h0⟩ | ⟨g, cap, cur, e2, hbg, hg, _⟩
  · omega
  rw [e] at e2
  injection e2 with ea _ ec
  subst ea ec
  subst e
  rw [hm] at c3
  have hus := h.us
  rw [show TsAt B w (.slice (some ⟨g, 0, none⟩) c.under.length k) c.under = TsAt B w (.slice (some ⟨g, 0, none⟩) (m + 1) k) c.under by rw [hm]] at hus
  have HC := Lib.hid (delete_any B g k m c.under i w hus hm (by omega) (by omega))
  have hgp : g ≠ p := h.ne g rfl
  have hplt := h.lt
  have hel : (c.under.eraseIdx i).length = m := by rw [List.length_eraseIdx, if_pos (by omega)]; omega
  have HFIN : Hid (∀ w1, DelR B w g m k c.under i (.returned (.slice (some ⟨g, 0, none⟩) m k)) w1 → w1.cell? ⟨p, 3, none⟩ = some (.slice (some ⟨g, 0, none⟩) (m + 1) k) ∧ w1.frozen? ⟨p, 3, none⟩ = false ∧ OpC B w p (.slice (some ⟨g, 0, none⟩) c.under.length k) (c.cut i) (w1.setCell ⟨p, 3, none⟩ (.slice (some ⟨g, 0, none⟩) m k))) := Lib.hid (fun w1 hd => by
    obtain ⟨_, hus1, hf⟩ := hd
    have hrow := (hf.block p hplt (fun e => hgp e.symm)).trans h.row
    rw [hm] at hrow
    have hfp : Fr (· = p) w1 (w1.setCell ⟨p, 3, none⟩ (.slice (some ⟨g, 0, none⟩) m k)) := (Fr.refl (· = p) w1).setCell ⟨p, 3, none⟩ (Or.inl rfl) _
    refine ⟨cell_of_row _ _ _ _ _ _ hrow, frozen_of_row _ _ _ _ _ hrow, .slice (some ⟨g, 0, none⟩) m k, ⟨?_, ?_, ?_, h.base⟩, ?_, fun gg hgg => Or.inl hgg⟩
    · exact heap_setCell_same w1 p 3 _ _ _ hrow
    · have := owns_frame hus1 (w' := w1.setCell ⟨p, 3, none⟩ (.slice (some ⟨g, 0, none⟩) m k)) (fun gg hgg => hfp.block gg (World.ownsRow.lt hus1 gg hgg).2 (by simp [Value.ownBlock] at hgg; omega))
      exact this
    · intro gg hgg
      simp [Value.ownBlock] at hgg
      omega
    · exact (hf.mono (o' := fun k' => k' = p ∨ (Value.slice (some ⟨g, 0, none⟩) c.under.length k).ownBlock = some k') (fun k' _ e => Or.inr (by rw [e]; rfl))).setCell ⟨p, 3, none⟩ (Or.inl (Or.inl rfl)) _)
  have hin : i < 1000 := by omega
  clear h hus ho hbg hg hgp hplt c0 c1 c2 f1 f2 f3 hel
  go_enter Try.func35, Try.ntmps35
  go_wp2_with fail
  refine HC.out.mono ?_
  rintro e w1 hd
  have he := hd.1
  subst he
  obtain ⟨k2, k3, hop⟩ := HFIN.out w1 hd
  have HOP := Lib.hid hop
  clear hop hd HFIN HC c3
  go_wp2
  exact bodyPost_end (results_none rfl _ _ _) rfl ⟨rfl, HOP.out⟩
theorem CdAt.rng {B p : Nat} {w : World} {c : Cd} {sv : Value} (h : CdAt B w p c sv) (k : Nat) (t : Trn) (hk : c.under[k]? = some t) : ∃ g cc, sv = .slice (some ⟨g, 0, none⟩) c.under.length cc ∧ g < w.heap.size ∧ g ≠ p ∧ w.rangeAt g (k * 12) (cellsT t) := by
  obtain ⟨g, cc, e, h1, h2, h3⟩ := TsAt.at h.us k t hk
  exact ⟨g, cc, e, h1, h.ne g (by rw [e]; rfl), h3⟩
/-- Drop, in plain words. -/
def Cd.drop (c : Cd) (x : Txn) : Int × Cd := match c.under.find? (askedB x) with
  | none => (9, c)
  | some t => if t.all = true then (13, c) else (0, c.cut (idxF (askedB x) 0 c.under).toNat)
/-- end, in plain words. -/
def Cd.over (c : Cd) (x : Txn) : Int × Cd := match c.under.find? (doneB x) with
  | none => (13, c)
  | some _ => (0, c.cut (idxF (doneB x) 0 c.under).toNat)
theorem find_none {α : Type} (f : α → Bool) (l : List α) (h : ∀ t ∈ l, f t = false) : l.find? f = none := List.find?_eq_none.2 (fun t ht => by rw [h t ht]; simp)
theorem find_idx {α : Type} (f : α → Bool) : ∀ (l : List α) (k j : Nat) (t : α), idxF f k l = ((k + j : Nat) : Int) → l[j]? = some t → l.find? f = some t
  | [], _, _, _, _, h => by simp at h
  | x :: l, k, j, t, hi, ht => by
    rw [idxF] at hi
    by_cases h : f x = true
    · rw [if_pos h] at hi
      obtain rfl : j = 0 := by omega
      simp at ht
      rw [List.find?_cons_of_pos h, ht]
    · rw [if_neg h] at hi
      cases j with
      | zero =>
        rcases idx_spec f l (k + 1) with ⟨h1, _⟩ | ⟨j, y, h1, _⟩
        · omega
        · omega
      | succ j =>
        rw [List.find?_cons_of_neg h]
        exact find_idx f l (k + 1) j t (by rw [hi]; congr 1; omega) (by simpa using ht)
theorem ret_int2 {a b : Int} (h : a = b) : Ending.returned (.int .i64 a) = .returned (.int .i64 b) := by rw [h]
set_option maxHeartbeats 4000000 in
set_option maxRecDepth 100000 in
theorem drop_any (B p : Nat) (w : World) (c : Cd) (sv : Value) (x : Txn) (h : CdAt B w p c sv) (hn : c.under.length ≤ 1000) :
    Calls Try.prog 11 #[.pointer (some ⟨p, 0, none⟩), txV x] w fun e w' => e = .returned (.int .i64 (c.drop x).1) ∧ OpC B w p sv (c.drop x).2 w' := by
  obtain ⟨wb, hwb⟩ : ∃ wb, w.alloc (.cells #[.int .i64 x.node, .int .i64 x.boot, .int .i64 x.n] 33) = wb := ⟨_, rfl⟩
  have hb : Below w.heap.size w wb := by rw [← hwb]; exact (Below.refl _ w).alloc (Nat.le_refl _) _
  have hx : TxAt wb w.heap.size x := by rw [← hwb]; exact txAt_new w x
  obtain ⟨x0, x1, x2, _⟩ := id hx
  have ha := asked_any x wb
  unfold txV at ha ⊢
  have HA := Lib.hid ha
  have HB := Lib.hid hb
  have HWB := Lib.hid hwb
  have HH := Lib.hid h
  clear hb hx hwb h ha
  go_enter Try.func11, Try.ntmps11
  go_wp2_with (first | rw [HWB.out])
  refine HA.out.mono ?_
  rintro e w1 ⟨b, rfl, hbx, hb1⟩
  have hbw1 := HB.out.trans (hb1.mono HB.out.size)
  have hc1 := HH.out.below hbw1
  have HF := Lib.hid (find_asked B p w1 c sv x b hc1 hbx hn)
  have HW1 := Lib.hid hbw1
  clear HA x0 x1 x2 HWB hbx hb1 hbw1 hc1
  go_wp2_with fail
  refine HF.out.mono ?_
  rintro e w2 ⟨rfl, hb2⟩
  have hbw2 := HW1.out.trans (hb2.mono HW1.out.size)
  have hc2 := HH.out.below hbw2
  have HW2 := Lib.hid hbw2
  have HC2 := Lib.hid hc2
  clear HF HW1 hb2
  rcases idx_spec (askedB x) c.under 0 with ⟨e1, e2⟩ | ⟨j, t, e1, e2, e3, e4⟩
  · have HD : Hid (c.drop x = (9, c)) := Lib.hid (by unfold Cd.drop; rw [find_none _ _ e2])
    have HE := Lib.hid (OpC.same HH.out hbw2)
    rw [e1]
    clear hbw2 hc2 e1 e2 HH HC2
    go_wp2
    go_ret
    rw [HD.out]
    exact ⟨rfl, HE.out⟩
  · rw [Nat.zero_add] at e1
    have hfd := find_idx _ _ 0 j t (by rw [e1, Nat.zero_add]) e2
    rw [e1]
    obtain ⟨g, cc, rfl, hg, _, hr⟩ := hc2.rng j t e2
    have c3 := hc2.cells.2.2.2.1
    have HR := Lib.hid hr
    have HI := Lib.hid (infoT12 (cellsT t) rfl)
    have HAL := Lib.hid (all_any t w2)
    unfold trnV at HAL
    have hj0 : ¬ (j : Int) < 0 := by omega
    have hj1 : (j : Int) < (c.under.length : Int) := by omega
    have HJ := Lib.hid e1
    have HFD := Lib.hid hfd
    clear hbw2 hc2 e1 e2 e3 hr hg hfd
    go_wp2_with (first
      | (refine wpList_load_mid rfl 78 _ rfl g (j * 12) rfl _ _ HR.out Try.underlying78 rfl HI.out ?_))
    refine HAL.out.mono ?_
    rintro e w3 ⟨rfl, hb3⟩
    have hbw3 := HW2.out.trans (hb3.mono HW2.out.size)
    clear HAL HR HI c3
    cases hal : t.all with
    | true =>
      have HD : Hid (c.drop x = (13, c)) := Lib.hid (by unfold Cd.drop; rw [HFD.out]; simp [hal])
      have HE := Lib.hid (OpC.same HH.out hbw3)
      clear hal hb3 hbw3 HH HC2 HFD
      go_wp2
      go_ret
      rw [HD.out]
      exact ⟨rfl, HE.out⟩
    | false =>
      have HD : Hid (c.drop x = (0, c.cut j)) := Lib.hid (by unfold Cd.drop; rw [HFD.out, HJ.out]; simp [hal])
      have hc3 := HH.out.below hbw3
      have HRM := Lib.hid (remove_any B p w3 c _ j hc3 e4 hn)
      have HW3 := Lib.hid hbw3
      clear hal hb3 hbw3 hc3 HC2 HFD
      go_wp2_with fail
      refine HRM.out.mono ?_
      rintro e w4 ⟨rfl, hop⟩
      have HE := Lib.hid (OpC.lift HW3.out hop)
      clear hop HRM HH
      go_wp2
      go_ret
      rw [HD.out]
      exact ⟨rfl, HE.out⟩
set_option maxHeartbeats 4000000 in
set_option maxRecDepth 100000 in
theorem end_any (B p : Nat) (w : World) (c : Cd) (sv : Value) (x : Txn) (h : CdAt B w p c sv) (hn : c.under.length ≤ 1000) :
    Calls Try.prog 44 #[.pointer (some ⟨p, 0, none⟩), txV x] w fun e w' => e = .returned (.int .i64 (c.over x).1) ∧ OpC B w p sv (c.over x).2 w' := by
  obtain ⟨wb, hwb⟩ : ∃ wb, w.alloc (.cells #[.int .i64 x.node, .int .i64 x.boot, .int .i64 x.n] 33) = wb := ⟨_, rfl⟩
  have hb : Below w.heap.size w wb := by rw [← hwb]; exact (Below.refl _ w).alloc (Nat.le_refl _) _
  have hx : TxAt wb w.heap.size x := by rw [← hwb]; exact txAt_new w x
  obtain ⟨x0, x1, x2, _⟩ := id hx
  have ha := done_any x wb
  unfold txV at ha ⊢
  have HA := Lib.hid ha
  have HB := Lib.hid hb
  have HWB := Lib.hid hwb
  have HH := Lib.hid h
  clear hb hx hwb h ha
  go_enter Try.func44, Try.ntmps44
  go_wp2_with (first | rw [HWB.out])
  refine HA.out.mono ?_
  rintro e w1 ⟨b, rfl, hbx, hb1⟩
  have hbw1 := HB.out.trans (hb1.mono HB.out.size)
  have hc1 := HH.out.below hbw1
  have HF := Lib.hid (find_done B p w1 c sv x b hc1 hbx hn)
  have HW1 := Lib.hid hbw1
  clear HA x0 x1 x2 HWB hbx hb1 hbw1 hc1
  go_wp2_with fail
  refine HF.out.mono ?_
  rintro e w2 ⟨rfl, hb2⟩
  have hbw2 := HW1.out.trans (hb2.mono HW1.out.size)
  have hc2 := HH.out.below hbw2
  have HW2 := Lib.hid hbw2
  clear HF HW1 hb2
  rcases idx_spec (doneB x) c.under 0 with ⟨e1, e2⟩ | ⟨j, t, e1, e2, e3, e4⟩
  · have HD : Hid (c.over x = (13, c)) := Lib.hid (by unfold Cd.over; rw [find_none _ _ e2])
    have HE := Lib.hid (OpC.same HH.out hbw2)
    rw [e1]
    clear hbw2 hc2 e1 e2 HH
    go_wp2
    go_ret
    rw [HD.out]
    exact ⟨rfl, HE.out⟩
  · rw [Nat.zero_add] at e1
    have hfd := find_idx _ _ 0 j t (by rw [e1, Nat.zero_add]) e2
    rw [e1]
    have HD : Hid (c.over x = (0, c.cut j)) := Lib.hid (by unfold Cd.over; rw [hfd, e1]; rfl)
    have HRM := Lib.hid (remove_any B p w2 c _ j hc2 e4 hn)
    have hj0 : ¬ (j : Int) < 0 := by omega
    clear hbw2 hc2 e1 e2 e3 hfd
    go_wp2_with fail
    refine HRM.out.mono ?_
    rintro e w4 ⟨rfl, hop⟩
    have HE := Lib.hid (OpC.lift HW2.out hop)
    clear hop HRM HH
    go_wp2
    go_ret
    rw [HD.out]
    exact ⟨rfl, HE.out⟩
end Go.Proofs.Ytleghofpabdkhaa
