/- Bag, the document's own: Take, Lose. -/
import Derived.Test.YtdcpdeiljabkaaaN12
namespace Go.Proofs.Ytdcpdeiljabkaaa
open Go Go.RowKit

def RTakR (N : Nat) (w : World) (q : Nat) (r : Bg) (c : Nat) (av tv : Value) (i : Int) (keep : Bool) (e : Ending) (w' : World) : Prop :=
  (r.has i = false ∧ e = .returned (.tuple #[.agg #[.int .i64 0, .int .i64 0, .slice none 0 0], .int .i64 2]) ∧ RefR N w q c av tv r w') ∨
  (∃ (x : Und) (a : Option Addr) (k : Nat), r.has i = true ∧ r.us[i.toNat]? = some x ∧ e = .returned (.tuple #[.agg #[.int .i64 x.src, .int .i64 x.dst, .slice a x.bytes.length k], .int .i64 0]) ∧ Byz w' (.slice a x.bytes.length k) x.bytes ∧ RefR N w q c av tv (if keep = true then r else r.cut i.toNat) w')
set_option maxHeartbeats 8000000 in
set_option maxRecDepth 100000 in
theorem rtake_any (N q c : Nat) (w : World) (r : Bg) (av tv : Value) (us : List UV) (ts : List Bool) (i : Int) (keep : Bool) (h : RK N w q r c av us tv ts) (hc : c ≤ 1000) (hib : i ≤ 9223372036854775807) :
    Calls Try.prog 28 #[.pointer (some ⟨q, 0, none⟩), .int .i64 i, .bool keep] w (RTakR N w q r c av tv i keep) := by
  have hn : ts.length ≤ 1000 := by have := h.cnt; have := h.rb.len; omega
  obtain ⟨W0, hW0⟩ : ∃ W0, w.alloc (.cells #[.int .i64 0, .int .i64 0, .slice none 0 0] 34) = W0 := ⟨_, rfl⟩
  have hb0 : Below w.heap.size w W0 := by rw [← hW0]; exact (Below.refl _ w).alloc (Nat.le_refl _) _
  have hrow : W0.heap[w.heap.size]? = some (.cells #[.int .i64 0, .int .i64 0, .slice none 0 0] 34 (0, 0)) := by rw [← hW0]; exact heap_alloc_new w _
  have hs0 : W0.heap.size = w.heap.size + 1 := by rw [← hW0]; simp
  have hK0 := h.below hb0
  have HH := Lib.hid (rat_any N q r.most r.lost W0 av tv us ts i hK0.rb hn hib)
  have HW0 := Lib.hid hW0
  have HI : ∀ cs : Array Value, cs.size = 3 → Hid ((Try.prog.info? 34).map (·.size) = some cs.size) := fun cs h => Lib.hid (infoU3 cs h)
  obtain ⟨hat1, hat2⟩ := at_has h i
  by_cases hh : r.has i = true
  case neg =>
    rw [Bool.not_eq_true] at hh
    rw [hat2 hh] at HH
    obtain ⟨W1, hW1⟩ : ∃ W1, W0.setRow w.heap.size #[.int .i64 0, .int .i64 0, .slice none 0 0] = W1 := ⟨_, rfl⟩
    have hrow1 : W1.heap[w.heap.size]? = some (.cells #[.int .i64 0, .int .i64 0, .slice none 0 0] 34 (0, 0)) := by rw [← hW1]; exact setRow_heap _ _ _ _ _ _ hrow
    have hf1 : Fr (fun k => k = w.heap.size) W0 W1 := by
      rw [← hW1]
      exact ⟨rfl, rfl, rfl, by rw [setRow_size]; exact Nat.le_refl _, fun k hk hn => setRow_other _ _ _ _ hn⟩
    have HE : Hid (RTakR N w q r c av tv i keep (.returned (.tuple #[.agg #[.int .i64 0, .int .i64 0, .slice none 0 0], .int .i64 2])) W1) := Lib.hid (Or.inl ⟨hh, rfl, RefR.lift h hb0 (RefR.same hK0 (Below.refl _ _)) hf1 ⟨Nat.le_refl _, by omega⟩⟩)
    have HR0 := Lib.hid hrow
    have HR1 := Lib.hid hrow1
    have HW1 := Lib.hid hW1
    have HZ := HI #[.int .i64 0, .int .i64 0, .slice none 0 0] rfl
    have HZ2 := Lib.hid (cellsU3 0 0 (.slice none 0 0) ⟨_, _, _, rfl⟩)
    clear h hK0 hb0 hrow hs0 hW0 hW1 hrow1 hf1 hat1 hat2
    go_enter Try.func28, Try.ntmps28
    go_wp2_with (first | rw [HW0.out])
    refine HH.out.mono ?_
    rintro e w1 ⟨rfl, rfl⟩
    clear HH
    go_wp2_with (first
      | (refine wpList_store_row rfl 34 _ _ rfl w.heap.size _ rfl rfl 34 _ HR0.out HZ.out rfl HZ2.out ?_; rw [HW1.out]))
    exact bodyPost_ret (v := .tuple #[.agg #[.int .i64 0, .int .i64 0, .slice none 0 0], .int .i64 2]) (by have c0 : W1.cell? ⟨w.heap.size, 0, none⟩ = some (.int .i64 0) := cell_of_row _ _ _ _ _ _ HR1.out; have c1 : W1.cell? ⟨w.heap.size, 1, none⟩ = some (.int .i64 0) := cell_of_row _ _ _ _ _ _ HR1.out; have c2 : W1.cell? ⟨w.heap.size, 2, none⟩ = some (.slice none 0 0) := cell_of_row _ _ _ _ _ _ HR1.out; simp [results, Try.results28, go_sem, c0, c1, c2]) rfl HE.out
  obtain ⟨k, y, hat, hkt, hku, hxk, hcur⟩ := hat1 hh
  rw [hat] at HH
  have hy := List.mem_of_getElem? hku
  obtain ⟨x, pv⟩ := y
  have hz := h.rb.all.bytes _ hy
  obtain ⟨pa, pc, hpv⟩ := hz.1
  dsimp only at hxk hz hpv
  subst hpv
  have hlow := fun hne g hg => Nat.lt_of_lt_of_le (h.low _ hy hne g hg) h.rb.base
  dsimp only at hlow
  have hqlt := h.rb.lt
  have hlen := h.rb.len
  -- the end, wherever the messages are read
  have HFIN : Hid (∀ wy, RefR N W0 q c av tv (if keep = true then r else r.cut i.toNat) wy → wy.heap[w.heap.size]? = some (.cells #[.int .i64 0, .int .i64 0, .slice none 0 0] 34 (0, 0)) ∧
      ∀ wz, wy.setRow w.heap.size #[.int .i64 x.src, .int .i64 x.dst, .slice pa x.bytes.length pc] = wz → wz.heap[w.heap.size]? = some (.cells #[.int .i64 x.src, .int .i64 x.dst, .slice pa x.bytes.length pc] 34 (0, 0)) ∧ RTakR N w q r c av tv i keep (.returned (.tuple #[.agg #[.int .i64 x.src, .int .i64 x.dst, .slice pa x.bytes.length pc], .int .i64 0])) wz) := Lib.hid (fun wy hop => by
    have hfr := hop
    obtain ⟨_, _, _, _, _, hf, _, _⟩ := hfr
    have hrowy := (hf.block w.heap.size (by omega) (by omega)).trans hrow
    refine ⟨hrowy, fun wz hwz => ?_⟩
    have hf1 : Fr (fun k => k = w.heap.size) wy wz := by
      rw [← hwz]
      exact ⟨rfl, rfl, rfl, by rw [setRow_size]; exact Nat.le_refl _, fun k hk hn => setRow_other _ _ _ _ hn⟩
    refine ⟨by rw [← hwz]; exact setRow_heap _ _ _ _ _ _ hrowy, Or.inr ⟨x, pa, pc, hh, hxk, rfl, ?_, RefR.lift h hb0 hop hf1 ⟨Nat.le_refl _, by omega⟩⟩⟩
    refine hz.kept (by have := hb0.size; have := hf.size; have := hf1.size; omega) (fun g hg hne => ?_)
    have hgl := hlow hne g hg
    exact ((hf1.block g (by have := hf.size; omega) (by omega)).trans (hf.block g (by omega) (by omega))).trans (hb0.block g (by omega)))
  have HAT : Hid (∀ wy, UvAt N wy av us → ∃ g cu, av = .slice (some ⟨g, 0, none⟩) us.length cu ∧ wy.rangeAt g (k * 3) [.int .i64 x.src, .int .i64 x.dst, .slice pa x.bytes.length pc]) := Lib.hid (fun wy hu => by
    obtain ⟨g, cu, e, hr⟩ := hu.at k _ hku
    exact ⟨g, cu, e, hr⟩)
  have HL3 : Hid ((Try.prog.info? 34).map (·.size) = some ([.int .i64 x.src, .int .i64 x.dst, .slice pa x.bytes.length pc] : List Value).length) := Lib.hid (by show _ = some 3; kernel_rfl)
  have HZ := HI #[.int .i64 x.src, .int .i64 x.dst, .slice pa x.bytes.length pc] rfl
  have HZ2 := Lib.hid (cellsU3 x.src x.dst (.slice pa x.bytes.length pc) ⟨_, _, _, rfl⟩)
  have hkL : (k : Int) < (us.length : Int) := by omega
  have hk0 : ¬ (k : Int) < 0 := by omega
  have hus : us.length ≤ 1000 := by omega
  have HOUT := Lib.hid (rout_any N q c W0 r (r.cut i.toNat) av tv us ts k hK0 hkt hc ⟨rfl, rfl, hcur⟩)
  have HK0 := Lib.hid hK0
  clear h hK0 hb0 hrow hs0 hW0 hat1 hat2 hat hcur hxk hku hy hz hlow hqlt hlen hkt hib
  cases keep with
  | true =>
    obtain ⟨n1, n2⟩ := HFIN.out W0 (by rw [if_pos rfl]; exact RefR.same HK0.out (Below.refl _ _))
    obtain ⟨W4, hW4⟩ : ∃ W4, W0.setRow w.heap.size #[.int .i64 x.src, .int .i64 x.dst, .slice pa x.bytes.length pc] = W4 := ⟨_, rfl⟩
    obtain ⟨n3, n4⟩ := n2 W4 hW4
    obtain ⟨g, cu, hav, hr⟩ := HAT.out W0 HK0.out.rb.all
    have c1 := HK0.out.rb.cells.2.1
    rw [hav] at c1
    have HR := Lib.hid hr
    have HR0 := Lib.hid n1
    have HR1 := Lib.hid n3
    have HE := Lib.hid n4
    have HW4 := Lib.hid hW4
    clear n1 n2 n3 n4 hr hW4 hav HFIN HAT HK0 HOUT
    go_enter Try.func28, Try.ntmps28
    go_wp2_with (first | rw [HW0.out])
    refine HH.out.mono ?_
    rintro e w1 ⟨rfl, rfl⟩
    clear HH
    go_wp2_with (first
      | (refine wpList_load_mid rfl 34 _ rfl g (k * 3) rfl _ _ HR.out Try.underlying34 rfl HL3.out ?_)
      | (refine wpList_store_row rfl 34 _ _ rfl w.heap.size _ rfl rfl 34 _ HR0.out HZ.out rfl HZ2.out ?_; rw [HW4.out]))
    exact bodyPost_ret (v := .tuple #[.agg #[.int .i64 x.src, .int .i64 x.dst, .slice pa x.bytes.length pc], .int .i64 0]) (by have c0 : W4.cell? ⟨w.heap.size, 0, none⟩ = some (.int .i64 x.src) := cell_of_row _ _ _ _ _ _ HR1.out; have c1 : W4.cell? ⟨w.heap.size, 1, none⟩ = some (.int .i64 x.dst) := cell_of_row _ _ _ _ _ _ HR1.out; have c2 : W4.cell? ⟨w.heap.size, 2, none⟩ = some (.slice pa x.bytes.length pc) := cell_of_row _ _ _ _ _ _ HR1.out; simp [results, Try.results28, go_sem, c0, c1, c2]) rfl HE.out
  | false =>
    go_enter Try.func28, Try.ntmps28
    go_wp2_with (first | rw [HW0.out])
    refine HH.out.mono ?_
    rintro e w1 ⟨rfl, rfl⟩
    clear HH
    go_wp2_with fail
    refine HOUT.out.mono ?_
    rintro e W1 ⟨rfl, hop⟩
    obtain ⟨n1, n2⟩ := HFIN.out W1 (by rw [if_neg (by simp)]; exact hop.ref)
    obtain ⟨W4, hW4⟩ : ∃ W4, W1.setRow w.heap.size #[.int .i64 x.src, .int .i64 x.dst, .slice pa x.bytes.length pc] = W4 := ⟨_, rfl⟩
    obtain ⟨n3, n4⟩ := n2 W4 hW4
    obtain ⟨tv', hK1, _, _⟩ := hop
    obtain ⟨g, cu, hav, hr⟩ := HAT.out W1 hK1.rb.all
    have c1 := hK1.rb.cells.2.1
    rw [hav] at c1
    have HR := Lib.hid hr
    have HR0 := Lib.hid n1
    have HR1 := Lib.hid n3
    have HE := Lib.hid n4
    have HW4 := Lib.hid hW4
    clear n1 n2 n3 n4 hr hW4 hav HFIN HAT HK0 HOUT hK1 HW0
    go_wp2_with (first
      | (refine wpList_load_mid rfl 34 _ rfl g (k * 3) rfl _ _ HR.out Try.underlying34 rfl HL3.out ?_)
      | (refine wpList_store_row rfl 34 _ _ rfl w.heap.size _ rfl rfl 34 _ HR0.out HZ.out rfl HZ2.out ?_; rw [HW4.out]))
    exact bodyPost_ret (v := .tuple #[.agg #[.int .i64 x.src, .int .i64 x.dst, .slice pa x.bytes.length pc], .int .i64 0]) (by have c0 : W4.cell? ⟨w.heap.size, 0, none⟩ = some (.int .i64 x.src) := cell_of_row _ _ _ _ _ _ HR1.out; have c1 : W4.cell? ⟨w.heap.size, 1, none⟩ = some (.int .i64 x.dst) := cell_of_row _ _ _ _ _ _ HR1.out; have c2 : W4.cell? ⟨w.heap.size, 2, none⟩ = some (.slice pa x.bytes.length pc) := cell_of_row _ _ _ _ _ _ HR1.out; simp [results, Try.results28, go_sem, c0, c1, c2]) rfl HE.out
set_option maxHeartbeats 4000000 in
set_option maxRecDepth 100000 in
theorem rlose_any (N q c : Nat) (w : World) (r : Bg) (av tv : Value) (us : List UV) (ts : List Bool) (i : Int) (h : RK N w q r c av us tv ts) (hc : c ≤ 1000) (hib : i ≤ 9223372036854775807) (hlo : r.lost ≤ 1000000) :
    Calls Try.prog 29 #[.pointer (some ⟨q, 0, none⟩), .int .i64 i] w fun e w' => e = .returned (.int .i64 (r.lose i).1) ∧ RefR N w q c av tv (r.lose i).2 w' := by
  have hn : ts.length ≤ 1000 := by have := h.cnt; have := h.rb.len; omega
  have HH := Lib.hid (rat_any N q r.most r.lost w av tv us ts i h.rb hn hib)
  obtain ⟨hat1, hat2⟩ := at_has h i
  unfold Bg.lose
  by_cases hh : r.has i = true
  case neg =>
    rw [Bool.not_eq_true] at hh
    have HE := Lib.hid (RefR.same h (Below.refl _ w))
    rw [hat2 hh] at HH
    rw [hh, if_neg (by simp)]
    clear h hat1 hat2
    go_enter Try.func29, Try.ntmps29
    go_wp2_with fail
    refine HH.out.mono ?_
    rintro e w1 ⟨rfl, rfl⟩
    clear HH
    go_wp2
    go_ret
    exact ⟨rfl, HE.out⟩
  obtain ⟨k, y, hat, hkt, hku, hxk, hcur⟩ := hat1 hh
  rw [hat] at HH
  rw [if_pos hh]
  have HOUT := Lib.hid (rout_any N q c w r (r.cut i.toNat) av tv us ts k h hkt hc ⟨rfl, rfl, hcur⟩)
  have HFIN : Hid (∀ w1, OutR N w q c av us tv (ts.set k false) (r.cut i.toNat) w1 → w1.cell? ⟨q, 3, none⟩ = some (.int .i64 (r.lost : Int)) ∧ w1.frozen? ⟨q, 3, none⟩ = false ∧ RefR N w q c av tv { r.cut i.toNat with lost := r.lost + 1 } (w1.setCell ⟨q, 3, none⟩ (.int .i64 ((r.lost : Int) + 1)))) := Lib.hid (fun w1 hop => by
    obtain ⟨tv', h1, h2, h3⟩ := hop
    have hf : Fr (· = q) w1 (w1.setCell ⟨q, 3, none⟩ (.int .i64 ((r.lost : Int) + 1))) := (Fr.refl (· = q) w1).setCell ⟨q, 3, none⟩ (Or.inl rfl) _
    refine ⟨h1.rb.cells.2.2.2.1, h1.rb.cells.2.2.2.2.2.2, av, us, tv', ts.set k false, ⟨⟨?_, ?_, ?_, h1.rb.len, h1.rb.neA, h1.rb.neT, h1.rb.base⟩, h1.cur, h1.low, h1.cnt⟩, h2.setCell ⟨q, 3, none⟩ (Or.inl rfl) _, fun g hg => Or.inl hg, h3⟩
    · have := heap_setCell_same w1 q 3 _ _ (.int .i64 ((r.lost : Int) + 1)) h1.rb.row
      rw [this]
      simp [Bg.cut]
    · exact h1.rb.all.kept hf.size (fun g hg => hf.block g (h1.rb.all.lt g hg) (h1.rb.neA g hg))
    · exact owns_frame h1.rb.tr (fun g hg => hf.block g (World.ownsRow.lt h1.rb.tr g hg).2 (h1.rb.neT g hg)))
  have hk0 : ¬ (k : Int) < 0 := by omega
  clear h hat1 hat2 hat hcur hxk hku hkt hib
  go_enter Try.func29, Try.ntmps29
  go_wp2_with fail
  refine HH.out.mono ?_
  rintro e w1 ⟨rfl, rfl⟩
  clear HH
  go_wp2_with fail
  refine HOUT.out.mono ?_
  rintro e w2 ⟨rfl, hop⟩
  obtain ⟨k1, k2, hE⟩ := HFIN.out w2 hop
  have HE := Lib.hid hE
  clear hop hE HFIN HOUT
  go_wp2
  go_ret
  exact ⟨rfl, HE.out⟩
end Go.Proofs.Ytdcpdeiljabkaaa
