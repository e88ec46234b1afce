/- Disk, the document's own: what its memory is; empty, New at a bad number, done, Cut, Sure. -/
import Derived.Test.YtohmofhpbmhhjaaD17
import Derived.Lib.ConvBytes
namespace Go.Proofs.Ytohmofhpbmhhjaa
open Go Go.RowKit

def strC (l : List UInt8) : List Value := [.string ⟨l.toArray⟩]
def rwC (x : Nat × List UInt8) : List Value := [.int .i64 (x.1 : Int), .string ⟨x.2.toArray⟩]
theorem strC_cell {l : List (List UInt8)} : ∀ u ∈ l.flatMap strC, u.oneCell' = true := by
  intro u hu
  obtain ⟨x, _, hx⟩ := List.mem_flatMap.mp hu
  simp only [strC, List.mem_cons, List.not_mem_nil, or_false] at hx
  rw [hx]; rfl
theorem rwC_cell {l : List (Nat × List UInt8)} : ∀ u ∈ l.flatMap rwC, u.oneCell' = true := by
  intro u hu
  obtain ⟨x, _, hx⟩ := List.mem_flatMap.mp hu
  simp only [rwC, List.mem_cons, List.not_mem_nil, or_false] at hx
  rcases hx with rfl | rfl <;> rfl
theorem strC_len (l : List (List UInt8)) : (l.flatMap strC).length = l.length := by rw [flat_len strC 1 l (fun _ _ => rfl)]; omega
theorem rwC_len (l : List (Nat × List UInt8)) : (l.flatMap rwC).length = l.length * 2 := flat_len rwC 2 l (fun _ _ => rfl)

/-- The document's disk in block D is s; its blocks are O's; its lists are never written again. -/
structure RDsk (O : Nat → Prop) (w : World) (D : Nat) (pv lv : Value) (s : St) : Prop where
  ok : s.Ok
  blk : w.heap[D]? = some (.cells #[pv, lv, .bool s.down, .int .i64 (s.cut : Int), .int .i64 (s.age : Int)] 73 (0, 0))
  pages : w.ownsRow 0 9 1 pv s.sure.length (s.sure.flatMap strC)
  waits : w.ownsRow 0 77 2 lv s.waits.length (s.waits.flatMap rwC)
  nil : s.waits = [] → lv = .slice none 0 0
  memD : O D
  memP : ∀ g, pv.ownBlock = some g → O g ∧ g ≠ D
  memL : ∀ g, lv.ownBlock = some g → O g ∧ g ≠ D
  lt : ∀ k, O k → k < w.heap.size

section
variable {O : Nat → Prop} {w : World} {D : Nat} {pv lv : Value} {s : St}
theorem RDsk.c0 (h : RDsk O w D pv lv s) : w.cell? ⟨D, 0, none⟩ = some pv := by rw [cell_of_row _ _ _ _ _ _ h.blk]; rfl
theorem RDsk.c1 (h : RDsk O w D pv lv s) : w.cell? ⟨D, 1, none⟩ = some lv := by rw [cell_of_row _ _ _ _ _ _ h.blk]; rfl
theorem RDsk.c2 (h : RDsk O w D pv lv s) : w.cell? ⟨D, 2, none⟩ = some (.bool s.down) := by rw [cell_of_row _ _ _ _ _ _ h.blk]; rfl
theorem RDsk.c3 (h : RDsk O w D pv lv s) : w.cell? ⟨D, 3, none⟩ = some (.int .i64 (s.cut : Int)) := by rw [cell_of_row _ _ _ _ _ _ h.blk]; rfl
theorem RDsk.c4 (h : RDsk O w D pv lv s) : w.cell? ⟨D, 4, none⟩ = some (.int .i64 (s.age : Int)) := by rw [cell_of_row _ _ _ _ _ _ h.blk]; rfl
theorem RDsk.free (h : RDsk O w D pv lv s) (j : Nat) : w.frozen? ⟨D, j, none⟩ = false := frozen_of_row _ _ _ _ _ h.blk
theorem RDsk.fr {w' : World} {o : Nat → Prop} (h : RDsk O w D pv lv s) (hf : Fr o w w') (hd : ∀ k, O k → ¬ o k) : RDsk O w' D pv lv s := by
  have hb : ∀ k, O k → w'.heap[k]? = w.heap[k]? := fun k hk => hf.block k (h.lt k hk) (hd k hk)
  exact ⟨h.ok, (hb D h.memD).trans h.blk, owns_frame h.pages (fun k hk => hb k (h.memP k hk).1), owns_frame h.waits (fun k hk => hb k (h.memL k hk).1), h.nil, h.memD, h.memP, h.memL, fun k hk => Nat.lt_of_lt_of_le (h.lt k hk) hf.size⟩
theorem RDsk.below {w' : World} (h : RDsk O w D pv lv s) (hb : Below w.heap.size w w') : RDsk O w' D pv lv s := h.fr (Fr.of_below (fun _ => False) hb) (fun _ _ => id)
/-- The struct's own cells turn. -/
theorem RDsk.put {w' : World} {s' : St} (h : RDsk O w D pv lv s) (hs : s'.sure = s.sure) (hw : s'.waits = s.waits) (hok : s'.Ok)
    (hD : w'.heap[D]? = some (.cells #[pv, lv, .bool s'.down, .int .i64 (s'.cut : Int), .int .i64 (s'.age : Int)] 73 (0, 0)))
    (hf : Fr (· = D) w w') : RDsk O w' D pv lv s' := by
  have hb : ∀ k, O k → k ≠ D → w'.heap[k]? = w.heap[k]? := fun k hk hn => hf.block k (h.lt k hk) hn
  refine ⟨hok, hD, ?_, ?_, fun e => h.nil (hw ▸ e), h.memD, h.memP, h.memL, fun k hk => Nat.lt_of_lt_of_le (h.lt k hk) hf.size⟩
  · rw [hs]; exact owns_frame h.pages (fun k hk => hb k (h.memP k hk).1 (h.memP k hk).2)
  · rw [hw]; exact owns_frame h.waits (fun k hk => hb k (h.memL k hk).1 (h.memL k hk).2)
theorem RDsk.pshape (h : RDsk O w D pv lv s) : ∃ g c, pv = .slice (some ⟨g, 0, none⟩) s.sure.length c ∧ s.sure.length ≤ c ∧ O g ∧ g ≠ D := by
  have hs := h.ok.some
  rcases h.pages.2 with ⟨_, h0⟩ | ⟨g, cap, cur, rfl, _, _, hc, _⟩
  · omega
  · exact ⟨g, cap, rfl, hc, h.memP g rfl⟩
theorem RDsk.lshape (h : RDsk O w D pv lv s) : ∃ a c, lv = .slice a s.waits.length c ∧ s.waits.length ≤ c := owns_shape h.waits
theorem RDsk.pageAt (h : RDsk O w D pv lv s) (i : Nat) (p : List UInt8) (hi : s.sure[i]? = some p) : ∃ g c, pv = .slice (some ⟨g, 0, none⟩) s.sure.length c ∧ w.cell? ⟨g, i, none⟩ = some (.string ⟨p.toArray⟩) := by
  obtain ⟨g, c, rfl, _⟩ := h.pshape
  refine ⟨g, c, rfl, ?_⟩
  have := World.ownsRow.cells h.pages (g := g) rfl (i * 1 + 0) _ (flat_at strC 1 s.sure i (fun _ _ => rfl) p hi 0 _ rfl)
  rwa [Addr.add_mid, Nat.zero_add, Nat.mul_one] at this
theorem RDsk.waitAt (h : RDsk O w D pv lv s) (i : Nat) (x : Nat × List UInt8) (hi : s.waits[i]? = some x) : ∃ g c, lv = .slice (some ⟨g, 0, none⟩) s.waits.length c ∧ w.cell? ⟨g, i * 2, none⟩ = some (.int .i64 (x.1 : Int)) ∧ w.cell? ⟨g, i * 2 + 1, none⟩ = some (.string ⟨x.2.toArray⟩) := by
  have hlt := (List.getElem?_eq_some_iff.1 hi).1
  have hown := h.waits
  rcases hown.2 with ⟨_, h0⟩ | ⟨g, cap, cur, rfl, _⟩
  · omega
  · refine ⟨g, cap, rfl, ?_, ?_⟩
    · have := World.ownsRow.cells hown (g := g) rfl (i * 2 + 0) _ (flat_at rwC 2 s.waits i (fun _ _ => rfl) x hi 0 _ rfl)
      rwa [Addr.add_mid, Nat.zero_add] at this
    · have := World.ownsRow.cells hown (g := g) rfl (i * 2 + 1) _ (flat_at rwC 2 s.waits i (fun _ _ => rfl) x hi 1 _ rfl)
      rwa [Addr.add_mid, Nat.zero_add] at this
end
/-- What became of the document's disk. -/
def RNow (O : Nat → Prop) (w : World) (D : Nat) (s' : St) (w' : World) : Prop := ∃ O' pv' lv', RDsk O' w' D pv' lv' s' ∧ Fr (· = D) w w' ∧ ∀ k, O' k → O k ∨ w.heap.size ≤ k
theorem RNow.same {O : Nat → Prop} {w : World} {D : Nat} {pv lv : Value} {s : St} (h : RDsk O w D pv lv s) : RNow O w D s w := ⟨O, pv, lv, h, Fr.refl _ _, fun _ h => Or.inl h⟩
theorem RNow.own {O : Nat → Prop} {w w' : World} {D : Nat} {pv lv : Value} {s : St} (h : RDsk O w' D pv lv s) (hf : Fr (· = D) w w') : RNow O w D s w' := ⟨O, pv, lv, h, hf, fun _ h => Or.inl h⟩

theorem rempty_any (w : World) :
    Calls Try.prog 37 #[] w fun e w' => e = .returned (.string ⟨zeroP.toArray⟩) ∧ Below w.heap.size w w' := by
  obtain ⟨i0, hi, hz0, hz1, hz2⟩ := info_parts (show (Try.prog.info? 5).map (fun i => (i.zero, i.size, i.bytes)) = some (some (.int .u8 0), 1, 1) by kernel_rfl)
  have hmk := run_make (P := Try.prog) w 29 5 i0 _ Try.underlying29 hi hz0 .i64 .i64 64 64 (by omega) (Int.le_refl _) (by rw [hz2]; decide) (by omega)
  rw [hz1, show Int.toNat 64 * 1 = 64 from rfl, show Int.toNat 64 = 64 from rfl] at hmk
  have hml : (madeCells (Value.int .u8 0).cells 64).toList = zeroP.map fun b => Value.int .u8 (b.toNat : Int) := made_list 64
  have hr0 := Row.made w 5 zeroP (madeCells (Value.int .u8 0).cells 64) hml (Nat.le_refl _) (by decide)
  have hcv := run_byt_string (P := Try.prog) (w.alloc (.cells (madeCells (Value.int .u8 0).cells 64) 5)) 29 9 5 Try.underlying29 Try.underlying5 Try.underlying9 hr0.1
  have hb : Below w.heap.size w (w.alloc (.cells (madeCells (Value.int .u8 0).cells 64) 5)) := (Below.refl _ w).alloc (Nat.le_refl _) _
  generalize madeCells (Value.int .u8 0).cells 64 = MC at *
  rw [show (zeroP.length) = 64 from rfl] at hcv
  generalize zeroP = Z at *
  have HCV := Lib.hid hcv
  have HB := Lib.hid hb
  clear hcv hb hr0 hml hi hz0 hz1 hz2
  go_enter Try.func37, Try.ntmps37
  go_wp2_with (refine wpList_runs (some 2) rfl rfl (ex_convert 29 9 (.tmp 1) rfl _ _ rfl HCV.out) ?_)
  go_ret
  exact ⟨rfl, HB.out⟩
set_option maxHeartbeats 800000 in
theorem rdone_any {O : Nat → Prop} {w : World} {D : Nat} {pv lv : Value} {s : St} (h : RDsk O w D pv lv s) (hd : s.down = false) :
    Calls Try.prog 39 #[.pointer (some ⟨D, 0, none⟩)] w fun e w' => e = .returned (.bool (!s.go.2)) ∧ RDsk O w' D pv lv s.go.1 ∧ Fr (· = D) w w' := by
  have hok := St.go_ok h.ok
  have c2 := h.c2
  have c3 := h.c3
  have f2 := h.free 2
  have f3 := h.free 3
  have hm := h.ok.cut
  rw [hd] at c2
  have HH := Lib.hid h
  have HOK := Lib.hid hok
  have HD := Lib.hid hd
  clear h hok hd
  by_cases hc : s.cut = 0
  · rw [hc] at c3
    have HC := Lib.hid hc
    clear hc
    go_enter Try.func39, Try.ntmps39
    go_wp2
    go_ret
    have e : s.go = (s, false) := if_pos HC.out
    rw [e]
    exact ⟨rfl, HH.out, Fr.refl _ _⟩
  · have e : s.go = ({ s with cut := s.cut - 1, down := decide (s.cut = 1) }, decide (s.cut = 1)) := if_neg hc
    rw [e] at HOK ⊢
    by_cases h1 : s.cut = 1
    · rw [h1] at c3
      have H1 := Lib.hid h1
      clear hc h1 e
      go_enter Try.func39, Try.ntmps39
      go_wp2
      go_ret
      have hf : Fr (· = D) w ((w.setCell ⟨D, 2, none⟩ (.bool true)).setCell ⟨D, 3, none⟩ (.int .i64 0)) := ((Fr.refl (· = D) w).setCell ⟨D, 2, none⟩ (Or.inl rfl) _).setCell ⟨D, 3, none⟩ (Or.inl rfl) _
      refine ⟨by rw [H1.out]; rfl, HH.out.put rfl rfl HOK.out ?_ hf, hf⟩
      rw [heap_setCell_same _ D 3 _ _ _ (heap_setCell_same _ D 2 _ _ _ HH.out.blk), H1.out]
      rfl
    · obtain ⟨m, hm2⟩ : ∃ m, s.cut = m + 2 := ⟨s.cut - 2, by omega⟩
      rw [hm2] at c3
      have e1 : (((m + 2 : Nat) : Int) == 1) = false := by rw [beq_eq_false_iff_ne]; omega
      have H2 := Lib.hid hm2
      clear hc h1 e
      go_enter Try.func39, Try.ntmps39
      go_wp2
      go_ret
      have hf : Fr (· = D) w (w.setCell ⟨D, 3, none⟩ (.int .i64 ((m : Int) + 2 - 1))) := (Fr.refl (· = D) w).setCell ⟨D, 3, none⟩ (Or.inl rfl) _
      have hok' : ({ s with cut := m + 1, down := false } : St).Ok := by
        have := HOK.out
        rw [H2.out] at this
        simpa using this
      have hD : (w.setCell ⟨D, 3, none⟩ (.int .i64 ((m : Int) + 2 - 1))).heap[D]? = some (.cells #[pv, lv, .bool false, .int .i64 ((m + 1 : Nat) : Int), .int .i64 (s.age : Int)] 73 (0, 0)) := by
        rw [heap_setCell_same _ D 3 _ _ _ HH.out.blk, HD.out, show (m : Int) + 2 - 1 = ((m + 1 : Nat) : Int) by omega]
        rfl
      exact ⟨rfl, HH.out.put rfl rfl hok' hD hf, hf⟩
theorem rcut_any {O : Nat → Prop} {w : World} {D : Nat} {pv lv : Value} {s : St} (h : RDsk O w D pv lv s) (n : Int) (hn : n ≤ 9223372036854775807) :
    Calls Try.prog 34 #[.pointer (some ⟨D, 0, none⟩), .int .i64 n] w fun e w' => e = .returned (.int .i64 (s.cutE n : Nat)) ∧ RDsk O w' D pv lv (s.cutS n) ∧ Fr (· = D) w w' := by
  unfold St.cutE St.cutS
  have c2 := h.c2
  have c3 := h.c3
  have f3 := h.free 3
  have HH := Lib.hid h
  clear h
  cases hd : s.down
  · rw [hd] at c2
    have HD := Lib.hid hd
    clear hd
    by_cases h0 : n < 0
    · simp only [h0, if_true, Bool.false_eq_true, if_false]
      go_enter Try.func34, Try.ntmps34
      go_wp2
      go_ret
      exact ⟨rfl, HH.out, Fr.refl _ _⟩
    · simp only [h0, Bool.false_eq_true, if_false]
      go_enter Try.func34, Try.ntmps34
      go_wp2
      go_ret
      have hf : Fr (· = D) w (w.setCell ⟨D, 3, none⟩ (.int .i64 n)) := (Fr.refl (· = D) w).setCell ⟨D, 3, none⟩ (Or.inl rfl) _
      have hok := HH.out.ok
      refine ⟨rfl, HH.out.put rfl rfl ⟨hok.pages, hok.writes, hok.some, hok.few, by simp only; omega, hok.wn, hok.an⟩ ?_ hf, hf⟩
      rw [heap_setCell_same _ D 3 _ _ _ HH.out.blk]
      simp only [Int.toNat_of_nonneg (show 0 ≤ n by omega), HD.out]
      rfl
  · rw [hd] at c2
    simp only [if_true]
    have HD := Lib.hid hd
    clear hd
    go_enter Try.func34, Try.ntmps34
    go_wp2
    go_ret
    exact ⟨rfl, HH.out, Fr.refl _ _⟩
theorem conv_str (w : World) (l : List UInt8) : ∃ c w', (convert 9 29 (.string ⟨l.toArray⟩)).run Try.prog w = .ok (.slice (some ⟨w.heap.size, 0, none⟩) l.length c) w' ∧ Byt w' (.slice (some ⟨w.heap.size, 0, none⟩) l.length c) l ∧ Below w.heap.size w w' := by
  have hr := Lib.run_convert_string_bytes (P := Try.prog) w 9 29 5 ⟨l.toArray⟩ Try.underlying9 Try.underlying29 Try.underlying5
  have hsz : (⟨l.toArray⟩ : ByteArray).size = l.length := by simp [ByteArray.size]
  rw [hsz] at hr
  have hsize := Lib.bytesWorld_size w 5 ⟨l.toArray⟩
  refine ⟨_, _, hr, ⟨_, _, rfl, grownCap_ge .., (fun h => by cases h), fun ad had => ?_⟩, ⟨rfl, rfl, rfl, by omega, fun k hk => Lib.bytesWorld_at_old w _ _ k hk⟩⟩
  injection had with had
  subst had
  refine ⟨w.heap.size, 0, rfl, by omega, fun j hj => ?_⟩
  rw [Nat.zero_add, Lib.bytesWorld_cell w _ _ j (by rw [hsz]; exact hj)]
  simp [List.getD, hj]
/-- What the document's Sure and Read tell: new memory that reads so, or an error. -/
def RTold (p : List UInt8) (w : World) (e : Ending) (w' : World) : Prop := ∃ v, e = .returned (.tuple #[v, .int .i64 0]) ∧ Byt w' v p ∧ (∀ g, v.ownBlock = some g → w.heap.size ≤ g) ∧ Below w.heap.size w w'
def RSureR (s : St) (i : Int) (w : World) (e : Ending) (w' : World) : Prop :=
  if 0 ≤ i ∧ i < (s.sure.length : Int) then RTold (s.sure.getD i.toNat []) w e w' else e = .returned (.tuple #[.slice none 0 0, .int .i64 2]) ∧ Below w.heap.size w w'
def RReadR (s : St) (i : Int) (w : World) (e : Ending) (w' : World) : Prop :=
  if s.down then e = .returned (.tuple #[.slice none 0 0, .int .i64 7]) ∧ Below w.heap.size w w'
  else if 0 ≤ i ∧ i < (s.sure.length : Int) then RTold (s.reads i.toNat) w e w' else e = .returned (.tuple #[.slice none 0 0, .int .i64 2]) ∧ Below w.heap.size w w'
end Go.Proofs.Ytohmofhpbmhhjaa
