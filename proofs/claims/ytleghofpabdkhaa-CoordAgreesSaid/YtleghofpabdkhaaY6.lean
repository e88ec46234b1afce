/- Coord: the set of shards that rise. -/
import Derived.Test.YtleghofpabdkhaaY4
import Derived.Deep.WholeRow
namespace Go.Proofs.Ytleghofpabdkhaa
open Go Go.RowKit

/-- Integers that are read. -/
def Ints (w : World) (v : Value) (l : List Int) : Prop := ∃ a cap, v = .slice a l.length cap ∧ ∀ j x, l[j]? = some x → ∃ g off, a = some ⟨g, off, none⟩ ∧ g < w.heap.size ∧ w.cell? ⟨g, off + j, none⟩ = some (.int .i64 x)
theorem Ints.below {w w' : World} {v : Value} {l : List Int} (h : Ints w v l) (hb : Below w.heap.size w w') : Ints w' v l := by
  obtain ⟨a, cap, e, hp⟩ := h
  refine ⟨a, cap, e, fun j x hx => ?_⟩
  obtain ⟨g, off, e1, hg, hc⟩ := hp j x hx
  exact ⟨g, off, e1, Nat.lt_of_lt_of_le hg hb.size, (hb.cell (p := ⟨g, off + j, none⟩) hg).trans hc⟩
def setGo : St4 → Int → List Int → Option St4
  | s, _, [] => some s
  | s, last, x :: t => if x ≤ last then none else if 4 ≤ x then none else setGo (s.put x) x t
def setE (l : List Int) : St4 × Bool := match setGo St4.none (-1) l with
  | some s => (s, decide (0 < l.length))
  | none => (St4.none, false)
def setA (s : St4) : Array Value := #[.bool s.a, .bool s.b, .bool s.c, .bool s.d]
theorem infoS4 (s : St4) : (Try.prog.info? 74).map (·.size) = some (setA s).size := by show _ = some 4; kernel_rfl
theorem setA_cells (s : St4) : (setA s).all (·.oneCell') = true := by
  rw [Array.all_eq_true_iff_forall_mem]
  intro u hu
  simp only [setA, List.mem_toArray, List.mem_cons, List.not_mem_nil, or_false] at hu
  rcases hu with rfl | rfl | rfl | rfl <;> rfl
def SetR (w : World) (l : List Int) (e : Ending) (w' : World) : Prop := e = .returned (.tuple #[setV (setE l).1, .bool (setE l).2]) ∧ Below w.heap.size w w'
set_option maxHeartbeats 8000000 in
set_option maxRecDepth 100000 in
theorem setOf_any (v : Value) (l : List Int) (w : World) (h : Ints w v l) (hl : l.length ≤ 9223372036854775807) : Calls Try.prog 29 #[v] w (SetR w l) := by
  obtain ⟨a, cap, rfl, hp⟩ := h
  obtain ⟨wa, hwa⟩ : ∃ wa, (w.alloc (.cells (setA St4.none) 74)).alloc (.cells (setA St4.none) 74) = wa := ⟨_, rfl⟩
  have hba : Below w.heap.size w wa := by rw [← hwa]; exact ((Below.refl _ w).alloc (Nat.le_refl _) _).alloc (by simp) _
  have r0 : wa.heap[w.heap.size]? = some (.cells (setA St4.none) 74 (0, 0)) := by rw [← hwa]; exact heap_alloc2_old w _ _
  have r1 : wa.heap[w.heap.size + 1]? = some (.cells (setA St4.none) 74 (0, 0)) := by rw [← hwa]; exact heap_alloc2_new w _ _
  obtain ⟨R, hR⟩ : ∃ R, setGo St4.none (-1) l = R := ⟨_, rfl⟩
  have H0 : Hid (wa.heap[w.heap.size]? = some (.cells (setA St4.none) 74 (0, 0)) ∧ wa.heap[w.heap.size + 1]? = some (.cells (setA St4.none) 74 (0, 0)) ∧ Below w.heap.size w wa ∧ setGo St4.none (-1) (l.drop 0) = R) := Lib.hid ⟨r0, r1, hba, hR⟩
  have HP := Lib.hid hp
  have HWA := Lib.hid hwa
  have HRE : Hid (∀ s b w', (setE l).1 = s → (setE l).2 = b → Below w.heap.size w w' → SetR w l (.returned (.tuple #[setV s, .bool b])) w') := Lib.hid (fun s b w' h1 h2 h3 => ⟨by rw [h1, h2], h3⟩)
  have HNO : Hid (R = none → (setE l).1 = St4.none ∧ (setE l).2 = false) := Lib.hid (fun e => by unfold setE; rw [hR, e]; exact ⟨rfl, rfl⟩)
  have HYE : Hid (∀ s, R = some s → (setE l).1 = s ∧ (setE l).2 = decide (0 < l.length)) := Lib.hid (fun s e => by unfold setE; rw [hR, e]; exact ⟨rfl, rfl⟩)
  have HI := Lib.hid infoS4
  have HZ := Lib.hid setA_cells
  have HW2 : Hid (∀ (wr : World) (t : St4), wr.heap[w.heap.size]? = some (.cells (setA St4.none) 74 (0, 0)) → Below w.heap.size w wr → ∀ wz, wr.setRow w.heap.size (setA t) = wz → wz.heap[w.heap.size]? = some (.cells (setA t) 74 (0, 0)) ∧ Below w.heap.size w wz) := Lib.hid (fun wr t h1 h2 wz e => by
    rw [← e]
    exact ⟨setRow_heap _ _ _ _ _ _ h1, h2.os, h2.tape, h2.output, by rw [setRow_size]; exact h2.size, fun k hk => (setRow_other _ _ _ _ (by omega)).trans (h2.block k hk)⟩)
  clear hp hwa hba r0 r1 hR
  unfold setA St4.none at HWA
  go_enter Try.func29, Try.ntmps29
  go_wp2_with (first | rw [HWA.out])
  go_loopw [5, 7, 10] (fun lv _ iv wr => ∃ (k : Nat) (last : Int) (s : St4), k ≤ l.length ∧ -1 ≤ last ∧ last ≤ 3 ∧ lv = .int .i64 last ∧ iv = .int .i64 (k : Int) ∧ Hid (wr.heap[w.heap.size]? = some (.cells (setA St4.none) 74 (0, 0)) ∧ wr.heap[w.heap.size + 1]? = some (.cells (setA s) 74 (0, 0)) ∧ Below w.heap.size w wr ∧ setGo s last (l.drop k) = R)) (fun _ _ iv _ => l.length - (intOf iv).toNat)
  case atStart => exact ⟨0, -1, St4.none, Nat.zero_le _, by omega, by omega, rfl, rfl, H0⟩
  case round =>
    clear H0
    obtain ⟨k, last, s, hk, hl1, hl2, rfl, rfl, hH⟩ := hrel
    obtain ⟨h0, h1, hbl, hgo⟩ := hH.out
    by_cases hlt : k < l.length
    · have hlt' : (k : Int) < (l.length : Int) := by omega
      obtain ⟨x, hx⟩ : ∃ x, l[k]? = some x := ⟨_, List.getElem?_eq_getElem hlt⟩
      obtain ⟨g, off, rfl, hg, hc⟩ := HP.out k x hx
      have hcx : wr.cell? ⟨g, off + k, none⟩ = some (.int .i64 x) := (hbl.cell (p := ⟨g, off + k, none⟩) hg).trans hc
      rw [idx_drop hx, setGo] at hgo
      have hbad : (x ≤ last ∨ (¬ x ≤ last ∧ 4 ≤ x)) ∨ (¬ x ≤ last ∧ ¬ 4 ≤ x) := by omega
      rcases hbad with hbad | ⟨hx1, hx2⟩
      · have hR : R = none := by
          rcases hbad with hb | ⟨hb, hb2⟩
          · rw [if_pos hb] at hgo; exact hgo.symm
          · rw [if_neg hb, if_pos hb2] at hgo; exact hgo.symm
        obtain ⟨e1, e2⟩ := HNO.out hR
        obtain ⟨wz, hwz⟩ : ∃ wz, wr.setRow w.heap.size (setA St4.none) = wz := ⟨_, rfl⟩
        obtain ⟨hz1, hz2⟩ := HW2.out wr St4.none h0 hbl wz hwz
        have HE := Lib.hid (HRE.out _ _ wz e1 e2 hz2)
        have HZ1 := Lib.hid hz1
        have HWZ := Lib.hid hwz
        have HH0 := Lib.hid h0
        have HI1 := Lib.hid (HI.out St4.none)
        have HZ2 := Lib.hid (HZ.out St4.none)
        unfold setA St4.none at HWZ HI1 HZ2
        clear hgo hx hg hc hz1 hz2 hwz h0 h1 hbl hH e1 e2 hR HI HZ HW2 HRE HNO HYE HP
        rcases hbad with hb | ⟨hb, hb2⟩
        all_goals
          go_wp2_with (first
            | (refine wpList_store_row rfl 74 _ _ rfl w.heap.size _ rfl rfl 74 _ HH0.out HI1.out rfl HZ2.out ?_; rw [HWZ.out]))
          exact bodyPost_ret (v := .tuple #[setV St4.none, .bool false]) (by have c0 : wz.cell? ⟨w.heap.size, 0, none⟩ = some (.bool false) := cell_of_row _ _ _ _ _ _ HZ1.out; have c1 : wz.cell? ⟨w.heap.size, 1, none⟩ = some (.bool false) := cell_of_row _ _ _ _ _ _ HZ1.out; have c2 : wz.cell? ⟨w.heap.size, 2, none⟩ = some (.bool false) := cell_of_row _ _ _ _ _ _ HZ1.out; have c3 : wz.cell? ⟨w.heap.size, 3, none⟩ = some (.bool false) := cell_of_row _ _ _ _ _ _ HZ1.out; simp [results, Try.results29, go_sem, c0, c1, c2, c3, setV, St4.none]) rfl HE.out
      · rw [if_neg hx1, if_neg hx2] at hgo
        have HGO := Lib.hid hgo
        have HH := Lib.hid (And.intro h0 (And.intro h1 hbl))
        have hxc : x = 0 ∨ x = 1 ∨ x = 2 ∨ x = 3 := by omega
        clear hgo hx hg hc hH HI HZ HW2 HRE HNO HYE
        rcases hxc with rfl | rfl | rfl | rfl
        · have c0 : wr.cell? ⟨w.heap.size + 1, 0, none⟩ = some (.bool s.a) := cell_of_row _ _ _ _ _ _ h1
          have f0 : wr.frozen? ⟨w.heap.size + 1, 0, none⟩ = false := frozen_of_row _ _ _ _ _ h1
          obtain ⟨wz, hwz⟩ : ∃ wz, wr.setCell ⟨w.heap.size + 1, 0, none⟩ (.bool true) = wz := ⟨_, rfl⟩
          have HN : Hid (wz.heap[w.heap.size]? = some (.cells (setA St4.none) 74 (0, 0)) ∧ wz.heap[w.heap.size + 1]? = some (.cells (setA (s.put 0)) 74 (0, 0)) ∧ Below w.heap.size w wz ∧ setGo (s.put 0) 0 (l.drop (k + 1)) = R) := Lib.hid ⟨by rw [← hwz]; exact (heap_setCell_other wr ⟨w.heap.size + 1, 0, none⟩ w.heap.size _ (by simp)).trans h0, by rw [← hwz]; exact heap_setCell_same wr (w.heap.size + 1) 0 _ _ _ h1, by rw [← hwz]; exact hbl.setCell (by show w.heap.size ≤ w.heap.size + 1; omega) _, HGO.out⟩
          have HWZ := Lib.hid hwz
          clear HGO HH hwz h0 h1 hbl
          go_wp2_with (first | rw [HWZ.out])
          go_roundw
          case rel => exact ⟨k + 1, 0, s.put 0, by omega, by omega, by omega, rfl, by go_num, HN⟩
          case measure => simp [intOf]; omega
        · have c0 : wr.cell? ⟨w.heap.size + 1, 1, none⟩ = some (.bool s.b) := cell_of_row _ _ _ _ _ _ h1
          have f0 : wr.frozen? ⟨w.heap.size + 1, 1, none⟩ = false := frozen_of_row _ _ _ _ _ h1
          obtain ⟨wz, hwz⟩ : ∃ wz, wr.setCell ⟨w.heap.size + 1, 1, none⟩ (.bool true) = wz := ⟨_, rfl⟩
          have HN : Hid (wz.heap[w.heap.size]? = some (.cells (setA St4.none) 74 (0, 0)) ∧ wz.heap[w.heap.size + 1]? = some (.cells (setA (s.put 1)) 74 (0, 0)) ∧ Below w.heap.size w wz ∧ setGo (s.put 1) 1 (l.drop (k + 1)) = R) := Lib.hid ⟨by rw [← hwz]; exact (heap_setCell_other wr ⟨w.heap.size + 1, 1, none⟩ w.heap.size _ (by simp)).trans h0, by rw [← hwz]; exact heap_setCell_same wr (w.heap.size + 1) 1 _ _ _ h1, by rw [← hwz]; exact hbl.setCell (by show w.heap.size ≤ w.heap.size + 1; omega) _, HGO.out⟩
          have HWZ := Lib.hid hwz
          clear HGO HH hwz h0 h1 hbl
          go_wp2_with (first | rw [HWZ.out])
          go_roundw
          case rel => exact ⟨k + 1, 1, s.put 1, by omega, by omega, by omega, rfl, by go_num, HN⟩
          case measure => simp [intOf]; omega
        · have c0 : wr.cell? ⟨w.heap.size + 1, 2, none⟩ = some (.bool s.c) := cell_of_row _ _ _ _ _ _ h1
          have f0 : wr.frozen? ⟨w.heap.size + 1, 2, none⟩ = false := frozen_of_row _ _ _ _ _ h1
          obtain ⟨wz, hwz⟩ : ∃ wz, wr.setCell ⟨w.heap.size + 1, 2, none⟩ (.bool true) = wz := ⟨_, rfl⟩
          have HN : Hid (wz.heap[w.heap.size]? = some (.cells (setA St4.none) 74 (0, 0)) ∧ wz.heap[w.heap.size + 1]? = some (.cells (setA (s.put 2)) 74 (0, 0)) ∧ Below w.heap.size w wz ∧ setGo (s.put 2) 2 (l.drop (k + 1)) = R) := Lib.hid ⟨by rw [← hwz]; exact (heap_setCell_other wr ⟨w.heap.size + 1, 2, none⟩ w.heap.size _ (by simp)).trans h0, by rw [← hwz]; exact heap_setCell_same wr (w.heap.size + 1) 2 _ _ _ h1, by rw [← hwz]; exact hbl.setCell (by show w.heap.size ≤ w.heap.size + 1; omega) _, HGO.out⟩
          have HWZ := Lib.hid hwz
          clear HGO HH hwz h0 h1 hbl
          go_wp2_with (first | rw [HWZ.out])
          go_roundw
          case rel => exact ⟨k + 1, 2, s.put 2, by omega, by omega, by omega, rfl, by go_num, HN⟩
          case measure => simp [intOf]; omega
        · have c0 : wr.cell? ⟨w.heap.size + 1, 3, none⟩ = some (.bool s.d) := cell_of_row _ _ _ _ _ _ h1
          have f0 : wr.frozen? ⟨w.heap.size + 1, 3, none⟩ = false := frozen_of_row _ _ _ _ _ h1
          obtain ⟨wz, hwz⟩ : ∃ wz, wr.setCell ⟨w.heap.size + 1, 3, none⟩ (.bool true) = wz := ⟨_, rfl⟩
          have HN : Hid (wz.heap[w.heap.size]? = some (.cells (setA St4.none) 74 (0, 0)) ∧ wz.heap[w.heap.size + 1]? = some (.cells (setA (s.put 3)) 74 (0, 0)) ∧ Below w.heap.size w wz ∧ setGo (s.put 3) 3 (l.drop (k + 1)) = R) := Lib.hid ⟨by rw [← hwz]; exact (heap_setCell_other wr ⟨w.heap.size + 1, 3, none⟩ w.heap.size _ (by simp)).trans h0, by rw [← hwz]; exact heap_setCell_same wr (w.heap.size + 1) 3 _ _ _ h1, by rw [← hwz]; exact hbl.setCell (by show w.heap.size ≤ w.heap.size + 1; omega) _, HGO.out⟩
          have HWZ := Lib.hid hwz
          clear HGO HH hwz h0 h1 hbl
          go_wp2_with (first | rw [HWZ.out])
          go_roundw
          case rel => exact ⟨k + 1, 3, s.put 3, by omega, by omega, by omega, rfl, by go_num, HN⟩
          case measure => simp [intOf]; omega
    · have hkl : k = l.length := by omega
      have hlt' : ¬ (k : Int) < (l.length : Int) := by omega
      rw [hkl, List.drop_length, setGo] at hgo
      obtain ⟨e1, e2⟩ := HYE.out s hgo.symm
      obtain ⟨wz, hwz⟩ : ∃ wz, wr.setRow w.heap.size (setA s) = wz := ⟨_, rfl⟩
      obtain ⟨hz1, hz2⟩ := HW2.out wr s h0 hbl wz hwz
      have HE := Lib.hid (HRE.out _ _ wz e1 e2 hz2)
      have HZ1 := Lib.hid hz1
      have HWZ := Lib.hid hwz
      have HH0 := Lib.hid h0
      have HH1 := Lib.hid h1
      have HI1 := Lib.hid (HI.out s)
      have HZ2 := Lib.hid (HZ.out s)
      unfold setA at HWZ HI1 HZ2 HH1
      clear hgo hz1 hz2 hwz h0 h1 hbl hH e1 e2 HI HZ HW2 HRE HNO HYE HP
      go_wp2_with (first
        | (refine wpList_load_row rfl 74 _ rfl (w.heap.size + 1) rfl 74 _ (0, 0) _ HH1.out Try.underlying74 rfl HI1.out ?_)
        | (refine wpList_store_row rfl 74 _ _ rfl w.heap.size _ rfl rfl 74 _ HH0.out HI1.out rfl HZ2.out ?_; rw [HWZ.out]))
      exact bodyPost_ret (v := .tuple #[setV s, .bool (decide (0 < l.length))]) (by have c0 : wz.cell? ⟨w.heap.size, 0, none⟩ = some (.bool s.a) := cell_of_row _ _ _ _ _ _ HZ1.out; have c1 : wz.cell? ⟨w.heap.size, 1, none⟩ = some (.bool s.b) := cell_of_row _ _ _ _ _ _ HZ1.out; have c2 : wz.cell? ⟨w.heap.size, 2, none⟩ = some (.bool s.c) := cell_of_row _ _ _ _ _ _ HZ1.out; have c3 : wz.cell? ⟨w.heap.size, 3, none⟩ = some (.bool s.d) := cell_of_row _ _ _ _ _ _ HZ1.out; simp [results, Try.results29, go_sem, c0, c1, c2, c3, setV]) rfl HE.out
end Go.Proofs.Ytleghofpabdkhaa
