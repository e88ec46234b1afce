/- Coord: a record's name. -/
import Derived.Test.YtleghofpabdkhaaY5
import Derived.Test.YtleghofpabdkhaaY11
namespace Go.Proofs.Ytleghofpabdkhaa
open Go Go.RowKit

theorem any_skipH {P : Program} {ops : Array Oper} {Q : Exit → Act → World → Prop} {md : Region.Mode} {S : World → Prop} (i : Nat) (d : Option Tmp) {oi : Oper} {fuel : Nat} {listed : Array Bool} {a : Act} {w : World} (hi : ops[i]? = some oi) (hd : oi.dst = d)
    (hs : Region.noSelect ops = true) (hf : Region.free md ops listed i = true) (hr : (Region.ready md ops listed).contains i = true)
    (hQ : ∀ c a w, Q (.panic c) (a.put d undef) w → Q (.panic c) a w) (hg : Region.wanted oi (yielded ops a.tmps) = false) (hS : S w)
    (h : wpAnyH P md ops Q S fuel (listed.setIfInBounds i true) (a.put d undef) w) : wpAnyH P md ops Q S (fuel + 1) listed a w := by
  subst hd
  exact wpAnyH_take hi hs hf hr hQ (Or.inr ⟨hg, rfl⟩) hS h

theorem store_tx (W : World) (b : Nat) (X Z : Txn) (h : W.heap[b]? = some (.cells (txA Z) 33 (0, 0))) : (Instr.storeAt 33 (.pointer (some ⟨b, 0, none⟩)) (.agg (txA X))).run Try.prog W = .ok () (W.setCells b 0 (txA X).toList) ∧ (W.setCells b 0 (txA X).toList).heap[b]? = some (.cells (txA X) 33 (0, 0)) ∧ Fr (· = b) W (W.setCells b 0 (txA X).toList) := by
  have hst := run_storeAt_mid (P := Try.prog) W b 0 33 (txA X) (fun j hj => ⟨by rw [Nat.zero_add]; have hj3 : j < 3 := hj; rw [cell_of_row _ _ _ _ _ _ h]; match j, hj3 with
      | 0, _ => rfl
      | 1, _ => rfl
      | 2, _ => rfl, by rw [Nat.zero_add]; exact frozen_of_row _ _ _ _ _ h⟩) (infoTx X) (txA_cells X)
  refine ⟨hst, ?_, (Fr.refl (· = b) W).setCells b 0 (Or.inl rfl) _⟩
  exact setCells_row b 33 (txA X).toList 0 (txA Z).toList W h (by show 0 + 3 ≤ 3; decide)
/-- Where name stands. -/
structure NmS (w : World) (p D : Nat) (c : Cd) (sp sv : Value) (l0 : List UInt8) (W : World) (s : Value) (l : List UInt8) : Prop where
  rdr : Rdr W D s l
  own : s.ownBlock = sv.ownBlock
  fr : Fr (· = D) w W
  res : W.heap[w.heap.size]? = some (.cells (txA ⟨0, 0, 0⟩) 33 (0, 0))
  row : W.heap[p]? = some (.cells #[.int .i64 c.node, .int .i64 c.life, .int .i64 c.next, sp] 72 (0, 0))
  hp : p < w.heap.size ∧ D < w.heap.size ∧ p ≠ D
  ob : ∀ k, sv.ownBlock = some k → l0 ≠ [] → k < w.heap.size
  ln : l ≠ [] → l0 ≠ []
  sz : w.heap.size < W.heap.size
section
variable {w W W' : World} {p D : Nat} {c : Cd} {sp sv s : Value} {l0 l : List UInt8}
theorem NmS.below (h : NmS w p D c sp sv l0 W s l) (hb : Below W.heap.size W W') : NmS w p D c sp sv l0 W' s l :=
  ⟨h.rdr.below hb, h.own, h.fr.trans (Fr.of_below (fun _ => False) hb) (fun _ _ h => h) (fun _ _ h => h.elim), (hb.block _ (lt_of_row' h.res)).trans h.res, (hb.block _ (lt_of_row' h.row)).trans h.row, h.hp, h.ob, h.ln, Nat.lt_of_lt_of_le h.sz hb.size⟩
theorem restV_ne {n : Nat} {l : List UInt8} (h : restV n l ≠ []) : l ≠ [] := fun e => h (by rw [e]; unfold restV; split <;> simp)
theorem NmS.num {e : Ending} (h : NmS w p D c sp sv l0 W s l) (hr : NumR W D 4 s l e W') : ∃ s', e = .returned (.int .i64 (numV 4 l : Int)) ∧ NmS w p D c sp sv l0 W' s' (restV 4 l) := by
  obtain ⟨s', he, h1, h2, h3⟩ := hr
  exact ⟨s', he, h1, h2.trans h.own, h.fr.trans h3 (fun _ _ h => h) (fun _ _ h => h), (h3.block _ (lt_of_row' h.res) (by have := h.hp; omega)).trans h.res, (h3.block _ (lt_of_row' h.row) (by have := h.hp; omega)).trans h.row, h.hp, h.ob, fun hn => h.ln (restV_ne hn), Nat.lt_of_lt_of_le h.sz h3.size⟩
theorem NmS.store {b : Nat} (h : NmS w p D c sp sv l0 W s l) (hf : Fr (· = b) W W') (hb : w.heap.size < b) : NmS w p D c sp sv l0 W' s l := by
  have hpp := h.hp
  refine ⟨⟨(hf.block D h.rdr.lt (by omega)).trans h.rdr.blk, h.rdr.byz.kept hf.size (fun g hg hn => hf.block g (h.rdr.byz.lt g hg hn) (by have := h.ob g (by rw [← h.own]; exact hg) (h.ln hn); omega)), h.rdr.ne⟩, h.own, h.fr.trans hf (fun _ _ h => h) (fun k hk e => by omega), (hf.block _ (lt_of_row' h.res) (by omega)).trans h.res, (hf.block _ (lt_of_row' h.row) (by omega)).trans h.row, h.hp, h.ob, h.ln, Nat.lt_of_lt_of_le h.sz hf.size⟩
/-- What name tells. -/
def NameR (w : World) (D : Nat) (sv : Value) (X : Txn) (l2 : List UInt8) (e : Ending) (w' : World) : Prop :=
  ∃ s, e = .returned (.tuple #[txV X, .bool (countsB X.boot && countsB X.n)]) ∧ Rdr w' D s l2 ∧ s.ownBlock = sv.ownBlock ∧ Fr (· = D) w w'
/-- Its result is laid down. -/
theorem NmS.ret (X : Txn) (h : NmS w p D c sp sv l0 W s l) : ∃ W', W.setCells w.heap.size 0 (txA X).toList = W' ∧ (Instr.storeAt 33 (.pointer (some ⟨w.heap.size, 0, none⟩)) (.agg (txA X))).run Try.prog W = .ok () W' ∧ W'.heap[w.heap.size]? = some (.cells (txA X) 33 (0, 0)) ∧ Rdr W' D s l ∧ Fr (· = D) w W' ∧ Fr (· = w.heap.size) W W' := by
  obtain ⟨h1, h2, hf⟩ := store_tx W w.heap.size X ⟨0, 0, 0⟩ h.res
  have hpp := h.hp
  refine ⟨_, rfl, h1, h2, ⟨(hf.block D h.rdr.lt (by omega)).trans h.rdr.blk, h.rdr.byz.kept hf.size (fun g hg hn => hf.block g (h.rdr.byz.lt g hg hn) (by have := h.ob g (by rw [← h.own]; exact hg) (h.ln hn); omega)), h.rdr.ne⟩, h.fr.trans hf (fun _ _ h => h) (fun k hk e => by omega), hf⟩
end
set_option maxHeartbeats 32000000 in
set_option maxRecDepth 100000 in
theorem name_any (B p D : Nat) (w : World) (c : Cd) (sp sv : Value) (l : List UInt8) (h : CdAt B w p c sp) (hr : Rdr w D sv l) (hpD : p ≠ D) (hl : l.length ≤ 9223372036854775807) :
    Calls Try.prog 41 #[.pointer (some ⟨p, 0, none⟩), .pointer (some ⟨D, 0, none⟩)] w (NameR w D sv ⟨c.node, (numV 4 l : Int), (numV 4 (restV 4 l) : Int)⟩ (restV 4 (restV 4 l))) := by
  obtain ⟨X, hX⟩ : ∃ X : Txn, X = ⟨c.node, (numV 4 l : Int), (numV 4 (restV 4 l) : Int)⟩ := ⟨_, rfl⟩
  rw [← hX]
  obtain ⟨W0, hW0⟩ : ∃ W0, w.alloc (.cells (txA ⟨0, 0, 0⟩) 33) = W0 := ⟨_, rfl⟩
  have hb0 : Below w.heap.size w W0 := by rw [← hW0]; exact (Below.refl _ w).alloc (Nat.le_refl _) _
  have hs0 : W0.heap.size = w.heap.size + 1 := by rw [← hW0]; simp
  have hbd : Below W0.heap.size W0 W0.drew := (Below.refl _ W0).drew
  have H0 : Hid (NmS w p D c sp sv l W0.drew sv l) := Lib.hid ⟨(hr.below hb0).below hbd, rfl, (Fr.of_below _ hb0).trans (Fr.of_below (fun _ => False) hbd) (fun _ _ h => h) (fun _ _ h => h.elim), by rw [← hW0]; exact heap_alloc_new w _, (hb0.block p h.lt).trans h.row, ⟨h.lt, hr.lt, hpD⟩, fun k hk hn => hr.byz.lt k hk hn, fun h => h, by show w.heap.size < W0.heap.size; omega⟩
  have hlr : (restV 4 l).length ≤ 9223372036854775807 := by unfold restV; split <;> (try rw [List.length_drop]) <;> omega
  have HN : Hid (∀ W s, NmS w p D c sp sv l W s l → Calls Try.prog 38 #[.pointer (some ⟨D, 0, none⟩), .int .i64 4] W (NumR W D 4 s l)) := Lib.hid (fun W s h => number_any W D s l 4 h.rdr (by decide) (by decide) hl)
  have HN2 : Hid (∀ W s, NmS w p D c sp sv l W s (restV 4 l) → Calls Try.prog 38 #[.pointer (some ⟨D, 0, none⟩), .int .i64 4] W (NumR W D 4 s (restV 4 l))) := Lib.hid (fun W s h => number_any W D s (restV 4 l) 4 h.rdr (by decide) (by decide) hlr)
  have HW0 := Lib.hid hW0
  have HXE := Lib.hid hX
  clear h hr hl hlr hb0 hs0 hbd hW0 hX
  unfold txA at HW0
  obtain ⟨b1, hb1⟩ : ∃ b, countsB X.boot = b := ⟨_, rfl⟩
  obtain ⟨b2, hb2⟩ : ∃ b, countsB X.n = b := ⟨_, rfl⟩
  have HC1 : Hid (∀ W, Calls Try.prog 39 #[.int .i64 X.boot] W fun e w' => e = .returned (.bool b1) ∧ W = w') := Lib.hid (fun W => by rw [← hb1]; exact counts_any _ W)
  have HC2 : Hid (∀ W, Calls Try.prog 39 #[.int .i64 X.n] W fun e w' => e = .returned (.bool b2) ∧ W = w') := Lib.hid (fun W => by rw [← hb2]; exact counts_any _ W)
  have HBB : Hid ((countsB X.boot && countsB X.n) = (b1 && b2)) := Lib.hid (by rw [hb1, hb2])
  clear hb1 hb2
  go_enter Try.func41, Try.ntmps41
  go_wp2_with (first | rw [HW0.out])
  clear HW0
  refine wp_region_held_drew (S := fun W : World => W.heap[p]? = some (.cells #[.int .i64 c.node, .int .i64 c.life, .int .i64 c.next, sp] 72 (0, 0))) (by kernel_rfl) H0.out.row (fun _ => ?_)
  refine hh_take 0 (some 7) (.pointer (some ⟨p, 0, none⟩)) rfl rfl (by kernel_rfl) (by kernel_rfl) (by kernel_rfl) (fun _ _ _ h => h) rfl (fun _ _ => rfl) H0.out.row ?_
  simp only [Act.put, List.setIfInBounds_toArray, List.set_cons_zero, List.set_cons_succ]
  refine hh_take 1 (some 8) (.pointer (some ⟨p, 0, none⟩)) rfl rfl (by kernel_rfl) (by kernel_rfl) (by kernel_rfl) (fun _ _ _ h => h) rfl (fun _ _ => by first | rfl | kernel_rfl | go_simp) H0.out.row ?_
  simp only [Act.put, List.setIfInBounds_toArray, List.set_cons_zero, List.set_cons_succ]
  refine hh_take 2 (some 9) (.pointer (some ⟨p, 0, none⟩)) rfl rfl (by kernel_rfl) (by kernel_rfl) (by kernel_rfl) (fun _ _ _ h => h) rfl (fun _ _ => by kernel_rfl) H0.out.row ?_
  simp only [Act.put, List.setIfInBounds_toArray, List.set_cons_zero, List.set_cons_succ]
  refine hh_take 3 (some 10) (.int .i64 c.node) rfl rfl (by kernel_rfl) (by kernel_rfl) (by kernel_rfl) (fun _ _ _ h => h) rfl (fun W hW => ex_load 3 (.tmp 9) rfl _ _ rfl (run_load_int W _ _ _ (cell_of_row _ _ _ _ _ _ hW))) H0.out.row ?_
  simp only [Act.put, List.setIfInBounds_toArray, List.set_cons_zero, List.set_cons_succ]
  refine hh_take 4 (some 11) (.pointer (some ⟨D, 0, none⟩)) rfl rfl (by kernel_rfl) (by kernel_rfl) (by kernel_rfl) (fun _ _ _ h => h) rfl (fun _ _ => rfl) H0.out.row ?_
  simp only [Act.put, List.setIfInBounds_toArray, List.set_cons_zero, List.set_cons_succ]
  refine hh_take 6 (some 13) (.pointer (some ⟨D, 0, none⟩)) rfl rfl (by kernel_rfl) (by kernel_rfl) (by kernel_rfl) (fun _ _ _ h => h) rfl (fun _ _ => rfl) H0.out.row ?_
  simp only [Act.put, List.setIfInBounds_toArray, List.set_cons_zero, List.set_cons_succ]
  refine hh_two 5 9 (by kernel_rfl) rfl rfl rfl rfl (fun K hK => wp_callsE (some 12) rfl 38 _ (ex_call2 38 (.tmp 11) (.const (.int .i64 4)) _ rfl _ _ rfl rfl (fun _ _ => rfl)) (fun v w1 => NumR _ D 4 _ _ (.returned v) w1) ((HN.out _ _ H0.out).mono fun e w1 h => by obtain ⟨s, rfl, h2⟩ := h; exact ⟨_, rfl, s, rfl, h2⟩) (fun v1 w1 hR => hK _ _ (by obtain ⟨_, _, h⟩ := H0.out.num hR; exact h.row) ?_)) (fun K hK => wp_runsh (some 6) rfl (ex_alloc 33 rfl _ (zero_tx _)) (hK _ _ (H0.out.below ((Below.refl _ _).alloc (Nat.le_refl _) _)).row ?_))
  · skip
    clear hK K
    simp only [Act.put, List.setIfInBounds_toArray, List.set_cons_zero, List.set_cons_succ]
    obtain ⟨s_H1, he, hn_H1⟩ := H0.out.num hR
    injection he with he
    subst he
    have H1 := Lib.hid hn_H1
    clear hn_H1 hR
    refine hh_two 7 9 (by kernel_rfl) rfl rfl rfl rfl (fun K hK => wp_callsE (some 14) rfl 38 _ (ex_call2 38 (.tmp 13) (.const (.int .i64 4)) _ rfl _ _ rfl rfl (fun _ _ => rfl)) (fun v w1 => NumR _ D 4 _ _ (.returned v) w1) ((HN2.out _ _ H1.out).mono fun e w1 h => by obtain ⟨s, rfl, h2⟩ := h; exact ⟨_, rfl, s, rfl, h2⟩) (fun v2 w2 hR => hK _ _ (by obtain ⟨_, _, h⟩ := H1.out.num hR; exact h.row) ?_)) (fun K hK => wp_runsh (some 6) rfl (ex_alloc 33 rfl _ (zero_tx _)) (hK _ _ (H1.out.below ((Below.refl _ _).alloc (Nat.le_refl _) _)).row ?_))
    · skip
      clear hK K
      simp only [Act.put, List.setIfInBounds_toArray, List.set_cons_zero, List.set_cons_succ]
      obtain ⟨s_H2, he, hn_H2⟩ := H1.out.num hR
      injection he with he
      subst he
      have H2 := Lib.hid hn_H2
      clear hn_H2 hR
      refine hh_take 8 (some 15) (.agg (txA X)) rfl rfl (by kernel_rfl) (by kernel_rfl) (by kernel_rfl) (fun _ _ _ h => h) rfl (fun _ _ => by rw [HXE.out]; unfold txA; first | rfl | kernel_rfl | go_simp) H2.out.row ?_
      simp only [Act.put, List.setIfInBounds_toArray, List.set_cons_zero, List.set_cons_succ]
      refine hh_one 9 (by kernel_rfl) rfl rfl (fun K hK => wp_runsh (some 6) rfl (ex_alloc 33 rfl _ (zero_tx _)) (hK _ _ (H2.out.below ((Below.refl _ _).alloc (Nat.le_refl _) _)).row ?_))
      clear hK K
      simp only [Act.put, List.setIfInBounds_toArray, List.set_cons_zero, List.set_cons_succ]
      have hal := heap_alloc_new w2 (.cells (txA ⟨0, 0, 0⟩) 33)
      have hsa := H2.out.sz
      have hnn := H2.out.below ((Below.refl _ w2).alloc (Nat.le_refl _) (.cells (txA ⟨0, 0, 0⟩) 33))
      obtain ⟨b6, hb6⟩ : ∃ b, w2.heap.size = b := ⟨_, rfl⟩
      obtain ⟨w3, hwn⟩ : ∃ z, w2.alloc (.cells (txA ⟨0, 0, 0⟩) 33) = z := ⟨_, rfl⟩
      rw [hwn] at hal hnn ⊢
      rw [hb6] at hal hsa ⊢
      have HAL := Lib.hid hal
      have H3 := Lib.hid hnn
      clear hal hnn hwn hb6
      obtain ⟨hst, hrx, hfx⟩ := store_tx w3 b6 X ⟨0, 0, 0⟩ HAL.out
      have hns := H3.out.store hfx hsa
      obtain ⟨wt, hwt⟩ : ∃ z, w3.setCells b6 0 (txA X).toList = z := ⟨_, rfl⟩
      rw [hwt] at hst hrx hns
      have HST := Lib.hid hst
      have HRX := Lib.hid hrx
      have HNS := Lib.hid hns
      clear hst hrx hns hfx hwt
      refine hh_one 10 (by kernel_rfl) rfl rfl (fun K hK => wp_skipsh none rfl (ex_store 33 (.tmp 6) (.tmp 15) rfl (.pointer (some ⟨b6, 0, none⟩)) (.agg (txA X)) rfl rfl HST.out) (hK _ _ HNS.out.row ?_))
      clear hK K
      simp only [Act.put]
      refine wpAnyH_done (by kernel_rfl) ?_ _
      have HRD : Hid (wt.drew.heap[b6]? = some (.cells (txA X) 33 (0, 0))) := Lib.hid HRX.out
      obtain ⟨wz, -, hst, hz0, hz1, hz2, hz3⟩ := NmS.ret X (HNS.out.below (Below.refl _ wt).drew)
      have HST2 := Lib.hid hst
      have HZ := Lib.hid hz0
      have HBX := Lib.hid (hz3.block b6 (lt_of_row' HRD.out) (by omega) |>.trans HRD.out)
      have HE : Hid (NameR w D sv X (restV 4 (restV 4 l)) (.returned (.tuple #[txV X, .bool (b1 && b2)])) wz) := Lib.hid ⟨_, by rw [HBB.out], hz1, HNS.out.own, hz2⟩
      clear hst hz0 hz1 hz2 hz3 HST HRX H0 HN HN2 HNS
      go_wp2_with fail
      refine wp_region_held_drew (S := fun W : World => W.heap[b6]? = some (.cells (txA X) 33 (0, 0))) (by kernel_rfl) HRD.out (fun _ => ?_)
      refine hh_take 0 (some 16) (.agg (txA X)) rfl rfl (by kernel_rfl) (by kernel_rfl) (by kernel_rfl) (fun _ _ _ h => h) rfl (fun W hW => ex_load 33 (.tmp 6) rfl _ _ rfl (run_loadAt_mid W b6 0 33 [.int .i64 X.node, .int .i64 X.boot, .int .i64 X.n] _ (fun j v hj => by
            match j, hj with
            | 0, hj => cases hj; exact cell_of_row _ _ _ _ _ _ hW
            | 1, hj => cases hj; exact cell_of_row _ _ _ _ _ _ hW
            | 2, hj => cases hj; exact cell_of_row _ _ _ _ _ _ hW) Try.underlying33 rfl (infoTx X))) HRD.out ?_
      simp only [Act.put, List.setIfInBounds_toArray, List.set_cons_zero, List.set_cons_succ]
      refine hh_take 1 (some 17) (.pointer (some ⟨b6, 1, none⟩)) rfl rfl (by kernel_rfl) (by kernel_rfl) (by kernel_rfl) (fun _ _ _ h => h) rfl (fun _ _ => by kernel_rfl) HRD.out ?_
      simp only [Act.put, List.setIfInBounds_toArray, List.set_cons_zero, List.set_cons_succ]
      refine hh_take 2 (some 18) (.int .i64 X.boot) rfl rfl (by kernel_rfl) (by kernel_rfl) (by kernel_rfl) (fun _ _ _ h => h) rfl (fun W hW => ex_load 3 (.tmp 17) rfl _ _ rfl (run_load_int W _ _ _ (cell_of_row _ _ _ _ _ _ hW))) HRD.out ?_
      simp only [Act.put, List.setIfInBounds_toArray, List.set_cons_zero, List.set_cons_succ]
      refine hh_one 3 (by kernel_rfl) rfl rfl (fun K hK => wp_callsh (some 19) rfl 39 _ (ex_call1 39 (.tmp 18) _ rfl _ rfl (fun _ _ => rfl)) (.bool b1) (fun w' => wt.drew = w') (HC1.out _) (fun w' hR => hK _ _ (by rw [← hR]; exact HRD.out) ?_))
      clear hK K
      simp only [Act.put, List.setIfInBounds_toArray, List.set_cons_zero, List.set_cons_succ]
      subst hR
      cases b1 with
      | false =>
        refine hh_take 4 (some 20) (.bool false) rfl rfl (by kernel_rfl) (by kernel_rfl) (by kernel_rfl) (fun _ _ _ h => h) rfl (fun _ _ => rfl) HRD.out ?_
        simp only [Act.put, List.setIfInBounds_toArray, List.set_cons_zero, List.set_cons_succ]
        refine any_skipH 5 (some 21) rfl rfl (by kernel_rfl) (by kernel_rfl) (by kernel_rfl) (fun _ _ _ h => h) rfl HRD.out ?_
        simp only [Act.put, List.setIfInBounds_toArray, List.set_cons_zero, List.set_cons_succ]
        refine any_skipH 6 (some 22) rfl rfl (by kernel_rfl) (by kernel_rfl) (by kernel_rfl) (fun _ _ _ h => h) rfl HRD.out ?_
        simp only [Act.put, List.setIfInBounds_toArray, List.set_cons_zero, List.set_cons_succ]
        refine any_skipH 7 (some 23) rfl rfl (by kernel_rfl) (by kernel_rfl) (by kernel_rfl) (fun _ _ _ h => h) rfl HRD.out ?_
        simp only [Act.put, List.setIfInBounds_toArray, List.set_cons_zero, List.set_cons_succ]
        refine hh_take 8 (some 24) (.bool false) rfl rfl (by kernel_rfl) (by kernel_rfl) (by kernel_rfl) (fun _ _ _ h => h) rfl (fun _ _ => rfl) HRD.out ?_
        simp only [Act.put, List.setIfInBounds_toArray, List.set_cons_zero, List.set_cons_succ]
        refine hh_one 9 (by kernel_rfl) rfl rfl (fun K hK => wp_skipsh none rfl (ex_store 33 (.tmp 4) (.tmp 16) rfl (.pointer (some ⟨w.heap.size, 0, none⟩)) (.agg (txA X)) rfl rfl HST2.out) (hK _ _ HBX.out ?_))
        clear hK K
        simp only [Act.put]
        refine hh_take 10 (some 5) (.bool false) rfl rfl (by kernel_rfl) (by kernel_rfl) (by kernel_rfl) (fun _ _ _ h => h) rfl (fun _ _ => rfl) HBX.out ?_
        simp only [Act.put, List.setIfInBounds_toArray, List.set_cons_zero, List.set_cons_succ]
        refine wpAnyH_done (by kernel_rfl) ?_ _
        clear HST2 HBX HRD HC1 HC2 HBB
        go_wp2
        exact bodyPost_ret (v := .tuple #[txV X, .bool false]) (by have c0 : wz.cell? ⟨w.heap.size, 0, none⟩ = some (.int .i64 X.node) := cell_of_row _ _ _ _ _ _ HZ.out; have c1 : wz.cell? ⟨w.heap.size, 1, none⟩ = some (.int .i64 X.boot) := cell_of_row _ _ _ _ _ _ HZ.out; have c2 : wz.cell? ⟨w.heap.size, 2, none⟩ = some (.int .i64 X.n) := cell_of_row _ _ _ _ _ _ HZ.out; simp [results, Try.results41, go_sem, c0, c1, c2, txV]) rfl HE.out
      | true =>
        refine hh_take 4 (some 20) (.bool true) rfl rfl (by kernel_rfl) (by kernel_rfl) (by kernel_rfl) (fun _ _ _ h => h) rfl (fun _ _ => rfl) HRD.out ?_
        simp only [Act.put, List.setIfInBounds_toArray, List.set_cons_zero, List.set_cons_succ]
        refine hh_take 5 (some 21) (.pointer (some ⟨b6, 2, none⟩)) rfl rfl (by kernel_rfl) (by kernel_rfl) (by kernel_rfl) (fun _ _ _ h => h) rfl (fun _ _ => by kernel_rfl) HRD.out ?_
        simp only [Act.put, List.setIfInBounds_toArray, List.set_cons_zero, List.set_cons_succ]
        refine hh_take 6 (some 22) (.int .i64 X.n) rfl rfl (by kernel_rfl) (by kernel_rfl) (by kernel_rfl) (fun _ _ _ h => h) rfl (fun W hW => ex_load 3 (.tmp 21) rfl _ _ rfl (run_load_int W _ _ _ (cell_of_row _ _ _ _ _ _ hW))) HRD.out ?_
        simp only [Act.put, List.setIfInBounds_toArray, List.set_cons_zero, List.set_cons_succ]
        refine hh_oneG 7 (by kernel_rfl) rfl rfl (fun K hK => wp_callsh (some 23) rfl 39 _ (ex_call1 39 (.tmp 22) _ rfl _ rfl (fun _ _ => rfl)) (.bool b2) (fun w' => wt.drew = w') (HC2.out _) (fun w' hR => hK _ _ (by rw [← hR]; exact HRD.out) ?_))
        clear hK K
        simp only [Act.put, List.setIfInBounds_toArray, List.set_cons_zero, List.set_cons_succ]
        subst hR
        refine hh_take 8 (some 24) (.bool b2) rfl rfl (by kernel_rfl) (by kernel_rfl) (by kernel_rfl) (fun _ _ _ h => h) rfl (fun _ _ => rfl) HRD.out ?_
        simp only [Act.put, List.setIfInBounds_toArray, List.set_cons_zero, List.set_cons_succ]
        refine hh_one 9 (by kernel_rfl) rfl rfl (fun K hK => wp_skipsh none rfl (ex_store 33 (.tmp 4) (.tmp 16) rfl (.pointer (some ⟨w.heap.size, 0, none⟩)) (.agg (txA X)) rfl rfl HST2.out) (hK _ _ HBX.out ?_))
        clear hK K
        simp only [Act.put]
        refine hh_take 10 (some 5) (.bool b2) rfl rfl (by kernel_rfl) (by kernel_rfl) (by kernel_rfl) (fun _ _ _ h => h) rfl (fun _ _ => rfl) HBX.out ?_
        simp only [Act.put, List.setIfInBounds_toArray, List.set_cons_zero, List.set_cons_succ]
        refine wpAnyH_done (by kernel_rfl) ?_ _
        clear HST2 HBX HRD HC1 HC2 HBB
        go_wp2
        exact bodyPost_ret (v := .tuple #[txV X, .bool b2]) (by have c0 : wz.cell? ⟨w.heap.size, 0, none⟩ = some (.int .i64 X.node) := cell_of_row _ _ _ _ _ _ HZ.out; have c1 : wz.cell? ⟨w.heap.size, 1, none⟩ = some (.int .i64 X.boot) := cell_of_row _ _ _ _ _ _ HZ.out; have c2 : wz.cell? ⟨w.heap.size, 2, none⟩ = some (.int .i64 X.n) := cell_of_row _ _ _ _ _ _ HZ.out; simp [results, Try.results41, go_sem, c0, c1, c2, txV]) rfl HE.out
    · skip
      clear hK K
      simp only [Act.put, List.setIfInBounds_toArray, List.set_cons_zero, List.set_cons_succ]
      have hal := heap_alloc_new w1 (.cells (txA ⟨0, 0, 0⟩) 33)
      have hsa := H1.out.sz
      have hnn := H1.out.below ((Below.refl _ w1).alloc (Nat.le_refl _) (.cells (txA ⟨0, 0, 0⟩) 33))
      obtain ⟨b6, hb6⟩ : ∃ b, w1.heap.size = b := ⟨_, rfl⟩
      obtain ⟨w2, hwn⟩ : ∃ z, w1.alloc (.cells (txA ⟨0, 0, 0⟩) 33) = z := ⟨_, rfl⟩
      rw [hwn] at hal hnn ⊢
      rw [hb6] at hal hsa ⊢
      have HAL := Lib.hid hal
      have H2 := Lib.hid hnn
      clear hal hnn hwn hb6
      refine hh_one 7 (by kernel_rfl) rfl rfl (fun K hK => wp_callsE (some 14) rfl 38 _ (ex_call2 38 (.tmp 13) (.const (.int .i64 4)) _ rfl _ _ rfl rfl (fun _ _ => rfl)) (fun v w1 => NumR _ D 4 _ _ (.returned v) w1) ((HN2.out _ _ H2.out).mono fun e w1 h => by obtain ⟨s, rfl, h2⟩ := h; exact ⟨_, rfl, s, rfl, h2⟩) (fun v3 w3 hR => hK _ _ (by obtain ⟨_, _, h⟩ := H2.out.num hR; exact h.row) ?_))
      have hal3 : w3.heap[b6]? = _ := (by obtain ⟨_, _, _, _, hf⟩ := hR; exact (hf.block b6 (lt_of_row' HAL.out) (by have := H2.out.hp; omega)).trans HAL.out)
      clear hK K
      simp only [Act.put, List.setIfInBounds_toArray, List.set_cons_zero, List.set_cons_succ]
      obtain ⟨s_H3, he, hn_H3⟩ := H2.out.num hR
      injection he with he
      subst he
      have H3 := Lib.hid hn_H3
      clear hn_H3 hR
      clear HAL
      have HAL := Lib.hid hal3
      refine hh_take 8 (some 15) (.agg (txA X)) rfl rfl (by kernel_rfl) (by kernel_rfl) (by kernel_rfl) (fun _ _ _ h => h) rfl (fun _ _ => by rw [HXE.out]; unfold txA; first | rfl | kernel_rfl | go_simp) H3.out.row ?_
      simp only [Act.put, List.setIfInBounds_toArray, List.set_cons_zero, List.set_cons_succ]
      obtain ⟨hst, hrx, hfx⟩ := store_tx w3 b6 X ⟨0, 0, 0⟩ HAL.out
      have hns := H3.out.store hfx hsa
      obtain ⟨wt, hwt⟩ : ∃ z, w3.setCells b6 0 (txA X).toList = z := ⟨_, rfl⟩
      rw [hwt] at hst hrx hns
      have HST := Lib.hid hst
      have HRX := Lib.hid hrx
      have HNS := Lib.hid hns
      clear hst hrx hns hfx hwt
      refine hh_one 10 (by kernel_rfl) rfl rfl (fun K hK => wp_skipsh none rfl (ex_store 33 (.tmp 6) (.tmp 15) rfl (.pointer (some ⟨b6, 0, none⟩)) (.agg (txA X)) rfl rfl HST.out) (hK _ _ HNS.out.row ?_))
      clear hK K
      simp only [Act.put]
      refine wpAnyH_done (by kernel_rfl) ?_ _
      have HRD : Hid (wt.drew.heap[b6]? = some (.cells (txA X) 33 (0, 0))) := Lib.hid HRX.out
      obtain ⟨wz, -, hst, hz0, hz1, hz2, hz3⟩ := NmS.ret X (HNS.out.below (Below.refl _ wt).drew)
      have HST2 := Lib.hid hst
      have HZ := Lib.hid hz0
      have HBX := Lib.hid (hz3.block b6 (lt_of_row' HRD.out) (by omega) |>.trans HRD.out)
      have HE : Hid (NameR w D sv X (restV 4 (restV 4 l)) (.returned (.tuple #[txV X, .bool (b1 && b2)])) wz) := Lib.hid ⟨_, by rw [HBB.out], hz1, HNS.out.own, hz2⟩
      clear hst hz0 hz1 hz2 hz3 HST HRX H0 HN HN2 HNS
      go_wp2_with fail
      refine wp_region_held_drew (S := fun W : World => W.heap[b6]? = some (.cells (txA X) 33 (0, 0))) (by kernel_rfl) HRD.out (fun _ => ?_)
      refine hh_take 0 (some 16) (.agg (txA X)) rfl rfl (by kernel_rfl) (by kernel_rfl) (by kernel_rfl) (fun _ _ _ h => h) rfl (fun W hW => ex_load 33 (.tmp 6) rfl _ _ rfl (run_loadAt_mid W b6 0 33 [.int .i64 X.node, .int .i64 X.boot, .int .i64 X.n] _ (fun j v hj => by
            match j, hj with
            | 0, hj => cases hj; exact cell_of_row _ _ _ _ _ _ hW
            | 1, hj => cases hj; exact cell_of_row _ _ _ _ _ _ hW
            | 2, hj => cases hj; exact cell_of_row _ _ _ _ _ _ hW) Try.underlying33 rfl (infoTx X))) HRD.out ?_
      simp only [Act.put, List.setIfInBounds_toArray, List.set_cons_zero, List.set_cons_succ]
      refine hh_take 1 (some 17) (.pointer (some ⟨b6, 1, none⟩)) rfl rfl (by kernel_rfl) (by kernel_rfl) (by kernel_rfl) (fun _ _ _ h => h) rfl (fun _ _ => by kernel_rfl) HRD.out ?_
      simp only [Act.put, List.setIfInBounds_toArray, List.set_cons_zero, List.set_cons_succ]
      refine hh_take 2 (some 18) (.int .i64 X.boot) rfl rfl (by kernel_rfl) (by kernel_rfl) (by kernel_rfl) (fun _ _ _ h => h) rfl (fun W hW => ex_load 3 (.tmp 17) rfl _ _ rfl (run_load_int W _ _ _ (cell_of_row _ _ _ _ _ _ hW))) HRD.out ?_
      simp only [Act.put, List.setIfInBounds_toArray, List.set_cons_zero, List.set_cons_succ]
      refine hh_one 3 (by kernel_rfl) rfl rfl (fun K hK => wp_callsh (some 19) rfl 39 _ (ex_call1 39 (.tmp 18) _ rfl _ rfl (fun _ _ => rfl)) (.bool b1) (fun w' => wt.drew = w') (HC1.out _) (fun w' hR => hK _ _ (by rw [← hR]; exact HRD.out) ?_))
      clear hK K
      simp only [Act.put, List.setIfInBounds_toArray, List.set_cons_zero, List.set_cons_succ]
      subst hR
      cases b1 with
      | false =>
        refine hh_take 4 (some 20) (.bool false) rfl rfl (by kernel_rfl) (by kernel_rfl) (by kernel_rfl) (fun _ _ _ h => h) rfl (fun _ _ => rfl) HRD.out ?_
        simp only [Act.put, List.setIfInBounds_toArray, List.set_cons_zero, List.set_cons_succ]
        refine any_skipH 5 (some 21) rfl rfl (by kernel_rfl) (by kernel_rfl) (by kernel_rfl) (fun _ _ _ h => h) rfl HRD.out ?_
        simp only [Act.put, List.setIfInBounds_toArray, List.set_cons_zero, List.set_cons_succ]
        refine any_skipH 6 (some 22) rfl rfl (by kernel_rfl) (by kernel_rfl) (by kernel_rfl) (fun _ _ _ h => h) rfl HRD.out ?_
        simp only [Act.put, List.setIfInBounds_toArray, List.set_cons_zero, List.set_cons_succ]
        refine any_skipH 7 (some 23) rfl rfl (by kernel_rfl) (by kernel_rfl) (by kernel_rfl) (fun _ _ _ h => h) rfl HRD.out ?_
        simp only [Act.put, List.setIfInBounds_toArray, List.set_cons_zero, List.set_cons_succ]
        refine hh_take 8 (some 24) (.bool false) rfl rfl (by kernel_rfl) (by kernel_rfl) (by kernel_rfl) (fun _ _ _ h => h) rfl (fun _ _ => rfl) HRD.out ?_
        simp only [Act.put, List.setIfInBounds_toArray, List.set_cons_zero, List.set_cons_succ]
        refine hh_one 9 (by kernel_rfl) rfl rfl (fun K hK => wp_skipsh none rfl (ex_store 33 (.tmp 4) (.tmp 16) rfl (.pointer (some ⟨w.heap.size, 0, none⟩)) (.agg (txA X)) rfl rfl HST2.out) (hK _ _ HBX.out ?_))
        clear hK K
        simp only [Act.put]
        refine hh_take 10 (some 5) (.bool false) rfl rfl (by kernel_rfl) (by kernel_rfl) (by kernel_rfl) (fun _ _ _ h => h) rfl (fun _ _ => rfl) HBX.out ?_
        simp only [Act.put, List.setIfInBounds_toArray, List.set_cons_zero, List.set_cons_succ]
        refine wpAnyH_done (by kernel_rfl) ?_ _
        clear HST2 HBX HRD HC1 HC2 HBB
        go_wp2
        exact bodyPost_ret (v := .tuple #[txV X, .bool false]) (by have c0 : wz.cell? ⟨w.heap.size, 0, none⟩ = some (.int .i64 X.node) := cell_of_row _ _ _ _ _ _ HZ.out; have c1 : wz.cell? ⟨w.heap.size, 1, none⟩ = some (.int .i64 X.boot) := cell_of_row _ _ _ _ _ _ HZ.out; have c2 : wz.cell? ⟨w.heap.size, 2, none⟩ = some (.int .i64 X.n) := cell_of_row _ _ _ _ _ _ HZ.out; simp [results, Try.results41, go_sem, c0, c1, c2, txV]) rfl HE.out
      | true =>
        refine hh_take 4 (some 20) (.bool true) rfl rfl (by kernel_rfl) (by kernel_rfl) (by kernel_rfl) (fun _ _ _ h => h) rfl (fun _ _ => rfl) HRD.out ?_
        simp only [Act.put, List.setIfInBounds_toArray, List.set_cons_zero, List.set_cons_succ]
        refine hh_take 5 (some 21) (.pointer (some ⟨b6, 2, none⟩)) rfl rfl (by kernel_rfl) (by kernel_rfl) (by kernel_rfl) (fun _ _ _ h => h) rfl (fun _ _ => by kernel_rfl) HRD.out ?_
        simp only [Act.put, List.setIfInBounds_toArray, List.set_cons_zero, List.set_cons_succ]
        refine hh_take 6 (some 22) (.int .i64 X.n) rfl rfl (by kernel_rfl) (by kernel_rfl) (by kernel_rfl) (fun _ _ _ h => h) rfl (fun W hW => ex_load 3 (.tmp 21) rfl _ _ rfl (run_load_int W _ _ _ (cell_of_row _ _ _ _ _ _ hW))) HRD.out ?_
        simp only [Act.put, List.setIfInBounds_toArray, List.set_cons_zero, List.set_cons_succ]
        refine hh_oneG 7 (by kernel_rfl) rfl rfl (fun K hK => wp_callsh (some 23) rfl 39 _ (ex_call1 39 (.tmp 22) _ rfl _ rfl (fun _ _ => rfl)) (.bool b2) (fun w' => wt.drew = w') (HC2.out _) (fun w' hR => hK _ _ (by rw [← hR]; exact HRD.out) ?_))
        clear hK K
        simp only [Act.put, List.setIfInBounds_toArray, List.set_cons_zero, List.set_cons_succ]
        subst hR
        refine hh_take 8 (some 24) (.bool b2) rfl rfl (by kernel_rfl) (by kernel_rfl) (by kernel_rfl) (fun _ _ _ h => h) rfl (fun _ _ => rfl) HRD.out ?_
        simp only [Act.put, List.setIfInBounds_toArray, List.set_cons_zero, List.set_cons_succ]
        refine hh_one 9 (by kernel_rfl) rfl rfl (fun K hK => wp_skipsh none rfl (ex_store 33 (.tmp 4) (.tmp 16) rfl (.pointer (some ⟨w.heap.size, 0, none⟩)) (.agg (txA X)) rfl rfl HST2.out) (hK _ _ HBX.out ?_))
        clear hK K
        simp only [Act.put]
        refine hh_take 10 (some 5) (.bool b2) rfl rfl (by kernel_rfl) (by kernel_rfl) (by kernel_rfl) (fun _ _ _ h => h) rfl (fun _ _ => rfl) HBX.out ?_
        simp only [Act.put, List.setIfInBounds_toArray, List.set_cons_zero, List.set_cons_succ]
        refine wpAnyH_done (by kernel_rfl) ?_ _
        clear HST2 HBX HRD HC1 HC2 HBB
        go_wp2
        exact bodyPost_ret (v := .tuple #[txV X, .bool b2]) (by have c0 : wz.cell? ⟨w.heap.size, 0, none⟩ = some (.int .i64 X.node) := cell_of_row _ _ _ _ _ _ HZ.out; have c1 : wz.cell? ⟨w.heap.size, 1, none⟩ = some (.int .i64 X.boot) := cell_of_row _ _ _ _ _ _ HZ.out; have c2 : wz.cell? ⟨w.heap.size, 2, none⟩ = some (.int .i64 X.n) := cell_of_row _ _ _ _ _ _ HZ.out; simp [results, Try.results41, go_sem, c0, c1, c2, txV]) rfl HE.out
  · skip
    clear hK K
    simp only [Act.put, List.setIfInBounds_toArray, List.set_cons_zero, List.set_cons_succ]
    have hal := heap_alloc_new W0.drew (.cells (txA ⟨0, 0, 0⟩) 33)
    have hsa := H0.out.sz
    have hnn := H0.out.below ((Below.refl _ W0.drew).alloc (Nat.le_refl _) (.cells (txA ⟨0, 0, 0⟩) 33))
    obtain ⟨b6, hb6⟩ : ∃ b, W0.drew.heap.size = b := ⟨_, rfl⟩
    obtain ⟨w1, hwn⟩ : ∃ z, W0.drew.alloc (.cells (txA ⟨0, 0, 0⟩) 33) = z := ⟨_, rfl⟩
    rw [hwn] at hal hnn ⊢
    rw [hb6] at hal hsa ⊢
    have HAL := Lib.hid hal
    have H1 := Lib.hid hnn
    clear hal hnn hwn hb6
    refine hh_one 5 (by kernel_rfl) rfl rfl (fun K hK => wp_callsE (some 12) rfl 38 _ (ex_call2 38 (.tmp 11) (.const (.int .i64 4)) _ rfl _ _ rfl rfl (fun _ _ => rfl)) (fun v w1 => NumR _ D 4 _ _ (.returned v) w1) ((HN.out _ _ H1.out).mono fun e w1 h => by obtain ⟨s, rfl, h2⟩ := h; exact ⟨_, rfl, s, rfl, h2⟩) (fun v2 w2 hR => hK _ _ (by obtain ⟨_, _, h⟩ := H1.out.num hR; exact h.row) ?_))
    have hal2 : w2.heap[b6]? = _ := (by obtain ⟨_, _, _, _, hf⟩ := hR; exact (hf.block b6 (lt_of_row' HAL.out) (by have := H1.out.hp; omega)).trans HAL.out)
    clear hK K
    simp only [Act.put, List.setIfInBounds_toArray, List.set_cons_zero, List.set_cons_succ]
    obtain ⟨s_H2, he, hn_H2⟩ := H1.out.num hR
    injection he with he
    subst he
    have H2 := Lib.hid hn_H2
    clear hn_H2 hR
    clear HAL
    have HAL := Lib.hid hal2
    refine hh_one 7 (by kernel_rfl) rfl rfl (fun K hK => wp_callsE (some 14) rfl 38 _ (ex_call2 38 (.tmp 13) (.const (.int .i64 4)) _ rfl _ _ rfl rfl (fun _ _ => rfl)) (fun v w1 => NumR _ D 4 _ _ (.returned v) w1) ((HN2.out _ _ H2.out).mono fun e w1 h => by obtain ⟨s, rfl, h2⟩ := h; exact ⟨_, rfl, s, rfl, h2⟩) (fun v3 w3 hR => hK _ _ (by obtain ⟨_, _, h⟩ := H2.out.num hR; exact h.row) ?_))
    have hal3 : w3.heap[b6]? = _ := (by obtain ⟨_, _, _, _, hf⟩ := hR; exact (hf.block b6 (lt_of_row' HAL.out) (by have := H2.out.hp; omega)).trans HAL.out)
    clear hK K
    simp only [Act.put, List.setIfInBounds_toArray, List.set_cons_zero, List.set_cons_succ]
    obtain ⟨s_H3, he, hn_H3⟩ := H2.out.num hR
    injection he with he
    subst he
    have H3 := Lib.hid hn_H3
    clear hn_H3 hR
    clear HAL
    have HAL := Lib.hid hal3
    refine hh_take 8 (some 15) (.agg (txA X)) rfl rfl (by kernel_rfl) (by kernel_rfl) (by kernel_rfl) (fun _ _ _ h => h) rfl (fun _ _ => by rw [HXE.out]; unfold txA; first | rfl | kernel_rfl | go_simp) H3.out.row ?_
    simp only [Act.put, List.setIfInBounds_toArray, List.set_cons_zero, List.set_cons_succ]
    obtain ⟨hst, hrx, hfx⟩ := store_tx w3 b6 X ⟨0, 0, 0⟩ HAL.out
    have hns := H3.out.store hfx hsa
    obtain ⟨wt, hwt⟩ : ∃ z, w3.setCells b6 0 (txA X).toList = z := ⟨_, rfl⟩
    rw [hwt] at hst hrx hns
    have HST := Lib.hid hst
    have HRX := Lib.hid hrx
    have HNS := Lib.hid hns
    clear hst hrx hns hfx hwt
    refine hh_one 10 (by kernel_rfl) rfl rfl (fun K hK => wp_skipsh none rfl (ex_store 33 (.tmp 6) (.tmp 15) rfl (.pointer (some ⟨b6, 0, none⟩)) (.agg (txA X)) rfl rfl HST.out) (hK _ _ HNS.out.row ?_))
    clear hK K
    simp only [Act.put]
    refine wpAnyH_done (by kernel_rfl) ?_ _
    have HRD : Hid (wt.drew.heap[b6]? = some (.cells (txA X) 33 (0, 0))) := Lib.hid HRX.out
    obtain ⟨wz, -, hst, hz0, hz1, hz2, hz3⟩ := NmS.ret X (HNS.out.below (Below.refl _ wt).drew)
    have HST2 := Lib.hid hst
    have HZ := Lib.hid hz0
    have HBX := Lib.hid (hz3.block b6 (lt_of_row' HRD.out) (by omega) |>.trans HRD.out)
    have HE : Hid (NameR w D sv X (restV 4 (restV 4 l)) (.returned (.tuple #[txV X, .bool (b1 && b2)])) wz) := Lib.hid ⟨_, by rw [HBB.out], hz1, HNS.out.own, hz2⟩
    clear hst hz0 hz1 hz2 hz3 HST HRX H0 HN HN2 HNS
    go_wp2_with fail
    refine wp_region_held_drew (S := fun W : World => W.heap[b6]? = some (.cells (txA X) 33 (0, 0))) (by kernel_rfl) HRD.out (fun _ => ?_)
    refine hh_take 0 (some 16) (.agg (txA X)) rfl rfl (by kernel_rfl) (by kernel_rfl) (by kernel_rfl) (fun _ _ _ h => h) rfl (fun W hW => ex_load 33 (.tmp 6) rfl _ _ rfl (run_loadAt_mid W b6 0 33 [.int .i64 X.node, .int .i64 X.boot, .int .i64 X.n] _ (fun j v hj => by
          match j, hj with
          | 0, hj => cases hj; exact cell_of_row _ _ _ _ _ _ hW
          | 1, hj => cases hj; exact cell_of_row _ _ _ _ _ _ hW
          | 2, hj => cases hj; exact cell_of_row _ _ _ _ _ _ hW) Try.underlying33 rfl (infoTx X))) HRD.out ?_
    simp only [Act.put, List.setIfInBounds_toArray, List.set_cons_zero, List.set_cons_succ]
    refine hh_take 1 (some 17) (.pointer (some ⟨b6, 1, none⟩)) rfl rfl (by kernel_rfl) (by kernel_rfl) (by kernel_rfl) (fun _ _ _ h => h) rfl (fun _ _ => by kernel_rfl) HRD.out ?_
    simp only [Act.put, List.setIfInBounds_toArray, List.set_cons_zero, List.set_cons_succ]
    refine hh_take 2 (some 18) (.int .i64 X.boot) rfl rfl (by kernel_rfl) (by kernel_rfl) (by kernel_rfl) (fun _ _ _ h => h) rfl (fun W hW => ex_load 3 (.tmp 17) rfl _ _ rfl (run_load_int W _ _ _ (cell_of_row _ _ _ _ _ _ hW))) HRD.out ?_
    simp only [Act.put, List.setIfInBounds_toArray, List.set_cons_zero, List.set_cons_succ]
    refine hh_one 3 (by kernel_rfl) rfl rfl (fun K hK => wp_callsh (some 19) rfl 39 _ (ex_call1 39 (.tmp 18) _ rfl _ rfl (fun _ _ => rfl)) (.bool b1) (fun w' => wt.drew = w') (HC1.out _) (fun w' hR => hK _ _ (by rw [← hR]; exact HRD.out) ?_))
    clear hK K
    simp only [Act.put, List.setIfInBounds_toArray, List.set_cons_zero, List.set_cons_succ]
    subst hR
    cases b1 with
    | false =>
      refine hh_take 4 (some 20) (.bool false) rfl rfl (by kernel_rfl) (by kernel_rfl) (by kernel_rfl) (fun _ _ _ h => h) rfl (fun _ _ => rfl) HRD.out ?_
      simp only [Act.put, List.setIfInBounds_toArray, List.set_cons_zero, List.set_cons_succ]
      refine any_skipH 5 (some 21) rfl rfl (by kernel_rfl) (by kernel_rfl) (by kernel_rfl) (fun _ _ _ h => h) rfl HRD.out ?_
      simp only [Act.put, List.setIfInBounds_toArray, List.set_cons_zero, List.set_cons_succ]
      refine any_skipH 6 (some 22) rfl rfl (by kernel_rfl) (by kernel_rfl) (by kernel_rfl) (fun _ _ _ h => h) rfl HRD.out ?_
      simp only [Act.put, List.setIfInBounds_toArray, List.set_cons_zero, List.set_cons_succ]
      refine any_skipH 7 (some 23) rfl rfl (by kernel_rfl) (by kernel_rfl) (by kernel_rfl) (fun _ _ _ h => h) rfl HRD.out ?_
      simp only [Act.put, List.setIfInBounds_toArray, List.set_cons_zero, List.set_cons_succ]
      refine hh_take 8 (some 24) (.bool false) rfl rfl (by kernel_rfl) (by kernel_rfl) (by kernel_rfl) (fun _ _ _ h => h) rfl (fun _ _ => rfl) HRD.out ?_
      simp only [Act.put, List.setIfInBounds_toArray, List.set_cons_zero, List.set_cons_succ]
      refine hh_one 9 (by kernel_rfl) rfl rfl (fun K hK => wp_skipsh none rfl (ex_store 33 (.tmp 4) (.tmp 16) rfl (.pointer (some ⟨w.heap.size, 0, none⟩)) (.agg (txA X)) rfl rfl HST2.out) (hK _ _ HBX.out ?_))
      clear hK K
      simp only [Act.put]
      refine hh_take 10 (some 5) (.bool false) rfl rfl (by kernel_rfl) (by kernel_rfl) (by kernel_rfl) (fun _ _ _ h => h) rfl (fun _ _ => rfl) HBX.out ?_
      simp only [Act.put, List.setIfInBounds_toArray, List.set_cons_zero, List.set_cons_succ]
      refine wpAnyH_done (by kernel_rfl) ?_ _
      clear HST2 HBX HRD HC1 HC2 HBB
      go_wp2
      exact bodyPost_ret (v := .tuple #[txV X, .bool false]) (by have c0 : wz.cell? ⟨w.heap.size, 0, none⟩ = some (.int .i64 X.node) := cell_of_row _ _ _ _ _ _ HZ.out; have c1 : wz.cell? ⟨w.heap.size, 1, none⟩ = some (.int .i64 X.boot) := cell_of_row _ _ _ _ _ _ HZ.out; have c2 : wz.cell? ⟨w.heap.size, 2, none⟩ = some (.int .i64 X.n) := cell_of_row _ _ _ _ _ _ HZ.out; simp [results, Try.results41, go_sem, c0, c1, c2, txV]) rfl HE.out
    | true =>
      refine hh_take 4 (some 20) (.bool true) rfl rfl (by kernel_rfl) (by kernel_rfl) (by kernel_rfl) (fun _ _ _ h => h) rfl (fun _ _ => rfl) HRD.out ?_
      simp only [Act.put, List.setIfInBounds_toArray, List.set_cons_zero, List.set_cons_succ]
      refine hh_take 5 (some 21) (.pointer (some ⟨b6, 2, none⟩)) rfl rfl (by kernel_rfl) (by kernel_rfl) (by kernel_rfl) (fun _ _ _ h => h) rfl (fun _ _ => by kernel_rfl) HRD.out ?_
      simp only [Act.put, List.setIfInBounds_toArray, List.set_cons_zero, List.set_cons_succ]
      refine hh_take 6 (some 22) (.int .i64 X.n) rfl rfl (by kernel_rfl) (by kernel_rfl) (by kernel_rfl) (fun _ _ _ h => h) rfl (fun W hW => ex_load 3 (.tmp 21) rfl _ _ rfl (run_load_int W _ _ _ (cell_of_row _ _ _ _ _ _ hW))) HRD.out ?_
      simp only [Act.put, List.setIfInBounds_toArray, List.set_cons_zero, List.set_cons_succ]
      refine hh_oneG 7 (by kernel_rfl) rfl rfl (fun K hK => wp_callsh (some 23) rfl 39 _ (ex_call1 39 (.tmp 22) _ rfl _ rfl (fun _ _ => rfl)) (.bool b2) (fun w' => wt.drew = w') (HC2.out _) (fun w' hR => hK _ _ (by rw [← hR]; exact HRD.out) ?_))
      clear hK K
      simp only [Act.put, List.setIfInBounds_toArray, List.set_cons_zero, List.set_cons_succ]
      subst hR
      refine hh_take 8 (some 24) (.bool b2) rfl rfl (by kernel_rfl) (by kernel_rfl) (by kernel_rfl) (fun _ _ _ h => h) rfl (fun _ _ => rfl) HRD.out ?_
      simp only [Act.put, List.setIfInBounds_toArray, List.set_cons_zero, List.set_cons_succ]
      refine hh_one 9 (by kernel_rfl) rfl rfl (fun K hK => wp_skipsh none rfl (ex_store 33 (.tmp 4) (.tmp 16) rfl (.pointer (some ⟨w.heap.size, 0, none⟩)) (.agg (txA X)) rfl rfl HST2.out) (hK _ _ HBX.out ?_))
      clear hK K
      simp only [Act.put]
      refine hh_take 10 (some 5) (.bool b2) rfl rfl (by kernel_rfl) (by kernel_rfl) (by kernel_rfl) (fun _ _ _ h => h) rfl (fun _ _ => rfl) HBX.out ?_
      simp only [Act.put, List.setIfInBounds_toArray, List.set_cons_zero, List.set_cons_succ]
      refine wpAnyH_done (by kernel_rfl) ?_ _
      clear HST2 HBX HRD HC1 HC2 HBB
      go_wp2
      exact bodyPost_ret (v := .tuple #[txV X, .bool b2]) (by have c0 : wz.cell? ⟨w.heap.size, 0, none⟩ = some (.int .i64 X.node) := cell_of_row _ _ _ _ _ _ HZ.out; have c1 : wz.cell? ⟨w.heap.size, 1, none⟩ = some (.int .i64 X.boot) := cell_of_row _ _ _ _ _ _ HZ.out; have c2 : wz.cell? ⟨w.heap.size, 2, none⟩ = some (.int .i64 X.n) := cell_of_row _ _ _ _ _ _ HZ.out; simp [results, Try.results41, go_sem, c0, c1, c2, txV]) rfl HE.out
end Go.Proofs.Ytleghofpabdkhaa
