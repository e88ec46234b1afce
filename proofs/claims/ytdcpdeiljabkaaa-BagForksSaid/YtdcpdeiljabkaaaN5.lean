/- Bag: Take, Lose, First, New. -/
import Derived.Test.YtdcpdeiljabkaaaN4
import Derived.Deep.MidRow
namespace Go.Proofs.Ytdcpdeiljabkaaa
open Go Go.RowKit

def zUnd : Array Value := #[.int .i64 0, .int .i64 0, .slice none 0 0]
theorem infoU3 (cs : Array Value) (h : cs.size = 3) : (Try.prog.info? 34).map (·.size) = some cs.size := by rw [h]; kernel_rfl
theorem cellsU3 (a b : Int) (pv : Value) (h : ∃ aa n c, pv = .slice aa n c) : (#[.int .i64 a, .int .i64 b, pv] : Array Value).all (·.oneCell') = true := by
  obtain ⟨aa, n, c, rfl⟩ := h
  rw [Array.all_eq_true_iff_forall_mem]
  intro u hu
  simp only [List.mem_toArray, List.mem_cons, List.not_mem_nil, or_false] at hu
  rcases hu with rfl | rfl | rfl <;> rfl
/-- What Take tells. -/
def TakR (B : Nat) (w : World) (p : Nat) (b : Bg) (sv : Value) (ps : List UV) (i : Int) (keep : Bool) (e : Ending) (w' : World) : Prop :=
  (b.has i = false ∧ e = .returned (.tuple #[.agg #[.int .i64 0, .int .i64 0, .slice none 0 0], .int .i64 2]) ∧ OpS B w p sv ps b w') ∨
  (∃ x a c, b.has i = true ∧ b.us[i.toNat]? = some x ∧ e = .returned (.tuple #[.agg #[.int .i64 x.src, .int .i64 x.dst, .slice a x.bytes.length c], .int .i64 0]) ∧ Row w.heap.size w' (.slice a x.bytes.length c) x.bytes ∧ OpS B w p sv ps (if keep = true then b else b.cut i.toNat) w')
set_option maxHeartbeats 8000000 in
set_option maxRecDepth 100000 in
theorem take_any (B p : Nat) (w : World) (b : Bg) (sv : Value) (ps : List UV) (i : Int) (keep : Bool) (h : BagAt B w p b sv ps) (hn : b.us.length ≤ 1000) (hbl : ∀ x ∈ b.us, x.bytes.length ≤ 2006) :
    Calls Try.prog 11 #[.pointer (some ⟨p, 0, none⟩), .int .i64 i, .bool keep] w (TakR B w p b sv ps i keep) := by
  obtain ⟨W0, hW0⟩ : ∃ W0, w.alloc (.cells #[.int .i64 0, .int .i64 0, .slice none 0 0] 34) = W0 := ⟨_, rfl⟩
  have hb0 : Below w.heap.size w W0 := by rw [← hW0]; exact (Below.refl _ w).alloc (Nat.le_refl _) _
  have hrow : W0.heap[w.heap.size]? = some (.cells #[.int .i64 0, .int .i64 0, .slice none 0 0] 34 (0, 0)) := by rw [← hW0]; exact heap_alloc_new w _
  have hs0 : W0.heap.size = w.heap.size + 1 := by rw [← hW0]; simp
  have hB0 := h.below hb0
  have HH := Lib.hid (has_any B p W0 b sv ps i hB0)
  have HW0 := Lib.hid hW0
  have HI : ∀ cs : Array Value, cs.size = 3 → Hid ((Try.prog.info? 34).map (·.size) = some cs.size) := fun cs h => Lib.hid (infoU3 cs h)
  by_cases hh : b.has i = true
  case neg =>
    rw [Bool.not_eq_true] at hh
    obtain ⟨W1, hW1⟩ : ∃ W1, W0.setRow w.heap.size #[.int .i64 0, .int .i64 0, .slice none 0 0] = W1 := ⟨_, rfl⟩
    have hrow1 : W1.heap[w.heap.size]? = some (.cells #[.int .i64 0, .int .i64 0, .slice none 0 0] 34 (0, 0)) := by rw [← hW1]; exact setRow_heap _ _ _ _ _ _ hrow
    have hf1 : Fr (fun k => w.heap.size ≤ k) W0 W1 := by
      rw [← hW1]
      exact ⟨rfl, rfl, rfl, by rw [setRow_size]; exact Nat.le_refl _, fun k hk hn => setRow_other _ _ _ _ (fun e => hn (by omega))⟩
    have HE : Hid (TakR B w p b sv ps i keep (.returned (.tuple #[.agg #[.int .i64 0, .int .i64 0, .slice none 0 0], .int .i64 2])) W1) := Lib.hid (Or.inl ⟨hh, rfl, OpS.lift h hb0 (OpS.same hB0 (Below.refl _ _)) hf1 (Nat.le_refl _)⟩)
    have HR0 := Lib.hid hrow
    have HR1 := Lib.hid hrow1
    have HW1 := Lib.hid hW1
    have HZ := HI #[.int .i64 0, .int .i64 0, .slice none 0 0] rfl
    have HZ2 := Lib.hid (cellsU3 0 0 (.slice none 0 0) ⟨_, _, _, rfl⟩)
    rw [hh] at HH
    clear h hB0 hb0 hrow hs0 hW0 hW1 hrow1 hf1
    go_enter Try.func11, Try.ntmps11
    go_wp2_with (first | rw [HW0.out])
    refine HH.out.mono ?_
    rintro e w1 ⟨rfl, rfl⟩
    clear HH
    go_wp2_with (first
      | (refine wpList_store_row rfl 34 _ _ rfl w.heap.size _ rfl rfl 34 _ HR0.out HZ.out rfl HZ2.out ?_; rw [HW1.out]))
    exact bodyPost_ret (v := .tuple #[.agg #[.int .i64 0, .int .i64 0, .slice none 0 0], .int .i64 2]) (by have c0 : W1.cell? ⟨w.heap.size, 0, none⟩ = some (.int .i64 0) := cell_of_row _ _ _ _ _ _ HR1.out; have c1 : W1.cell? ⟨w.heap.size, 1, none⟩ = some (.int .i64 0) := cell_of_row _ _ _ _ _ _ HR1.out; have c2 : W1.cell? ⟨w.heap.size, 2, none⟩ = some (.slice none 0 0) := cell_of_row _ _ _ _ _ _ HR1.out; simp [results, Try.results11, go_sem, c0, c1, c2]) rfl HE.out
  rw [hh] at HH
  have hib : 0 ≤ i ∧ i < (b.us.length : Int) := by unfold Bg.has at hh; simpa using hh
  obtain ⟨k, rfl⟩ : ∃ k : Nat, i = (k : Int) := ⟨i.toNat, (Int.toNat_of_nonneg hib.1).symm⟩
  have hkl : k < b.us.length := by omega
  have hlen := h.len
  have hpk := List.getElem?_eq_getElem (show k < ps.length by omega)
  generalize ps[k] = q at hpk
  have hxk : b.us[k]? = some q.1 := by rw [← h.eq, List.getElem?_map, hpk]; rfl
  have hq := List.mem_of_getElem? hpk
  obtain ⟨g, c, hsv, hglt, _, q0, q1, q2⟩ := hB0.us.at k q hpk
  obtain ⟨x, pv⟩ := q
  have hrw := h.us.rows _ hq
  obtain ⟨pa, pc, hpv, _⟩ := hrw.1.shape
  dsimp only at q0 q1 q2 hxk hrw hpv
  subst hpv
  have hx2 : x.bytes.length ≤ 2006 := hbl x (List.mem_of_getElem? hxk)
  obtain ⟨c0, c1, c2, f1, f2⟩ := hB0.cells
  rw [hsv] at c2
  have HC1 := Lib.hid (copied_any W0 x _ (hrw.1.z.below hb0) (by omega))
  have HR : Hid (W0.rangeAt g (k * 3) [.int .i64 x.src, .int .i64 x.dst, .slice pa x.bytes.length pc]) := Lib.hid (fun j v hj => by
    match j, hj with
    | 0, hj => cases hj; exact q0
    | 1, hj => cases hj; exact q1
    | 2, hj => cases hj; exact q2)
  have HH0 := Lib.hid h
  have HL3 : Hid ((Try.prog.info? 34).map (·.size) = some ([.int .i64 x.src, .int .i64 x.dst, .slice pa x.bytes.length pc] : List Value).length) := Lib.hid (by show _ = some 3; kernel_rfl)
  have HB0 := Lib.hid hb0
  have HROW := Lib.hid hrow
  have hkL : (k : Int) < (ps.length : Int) := by omega
  have hps : ps.length ≤ 1000 := by omega
  have HXK := Lib.hid hxk
  have HSV := Lib.hid hsv
  clear h hB0 hb0 hrow hW0 hpk hxk hq hrw q0 q1 q2 hglt hbl f1 f2
  go_enter Try.func11, Try.ntmps11
  go_wp2_with (first | rw [HW0.out])
  refine HH.out.mono ?_
  rintro e w1 ⟨rfl, rfl⟩
  clear HH
  go_wp2_with (first
    | (refine wpList_load_mid rfl 34 _ rfl g (k * 3) rfl _ _ HR.out Try.underlying34 rfl HL3.out ?_))
  refine HC1.out.mono ?_
  rintro e w2 ⟨a2, k2, rfl, hr2, hb2⟩
  obtain ⟨W3, hW3⟩ : ∃ W3, w2.alloc (.cells #[.int .i64 x.src, .int .i64 x.dst, .slice a2 x.bytes.length k2] 34) = W3 := ⟨_, rfl⟩
  have hb3 : Below w2.heap.size w2 W3 := by rw [← hW3]; exact (Below.refl _ w2).alloc (Nat.le_refl _) _
  have hrow3 : W3.heap[w2.heap.size]? = some (.cells #[.int .i64 x.src, .int .i64 x.dst, .slice a2 x.bytes.length k2] 34 (0, 0)) := by rw [← hW3]; exact heap_alloc_new w2 _
  have hb03 : Below W0.heap.size W0 W3 := hb2.trans (hb3.mono hb2.size)
  have hbw3 : Below w.heap.size w W3 := HB0.out.trans (hb03.mono HB0.out.size)
  have hB3 := HH0.out.below hbw3
  have HB3 := Lib.hid hB3
  have HR3 := Lib.hid (hr2.below hb3)
  have HROW3 := Lib.hid hrow3
  have HW3 := Lib.hid hW3
  have HBW3 := Lib.hid hbw3
  have hs2 : W0.heap.size ≤ w2.heap.size := hb2.size
  have hrowN := below_row HROW.out hb03 (by omega)
  -- the rest, whether it is kept
  have HFIN : Hid (∀ (wy : World), OpS B W3 p sv ps (if keep = true then b else b.cut k) wy →
      wy.heap[w.heap.size]? = some (.cells #[.int .i64 0, .int .i64 0, .slice none 0 0] 34 (0, 0)) ∧ wy.heap[w2.heap.size]? = some (.cells #[.int .i64 x.src, .int .i64 x.dst, .slice a2 x.bytes.length k2] 34 (0, 0)) ∧
      TakR B w p b sv ps (k : Int) keep (.returned (.tuple #[.agg #[.int .i64 x.src, .int .i64 x.dst, .slice a2 x.bytes.length k2], .int .i64 0])) (wy.setRow w.heap.size #[.int .i64 x.src, .int .i64 x.dst, .slice a2 x.bytes.length k2])) := Lib.hid (fun wy hop => by
    have hplt := HH0.out.lt
    have hsvlt : ∀ gg, sv.ownBlock = some gg → gg < w.heap.size := fun gg hg => (HH0.out.us.has gg (Or.inl hg)).2
    have hfr := hop
    obtain ⟨_, _, _, hf, _⟩ := hfr
    have hn1 : ∀ gg, w.heap.size ≤ gg → ¬ (gg = p ∨ sv.ownBlock = some gg) := fun gg hg e => by rcases e with e | e; omega; have := hsvlt gg e; omega
    have hwyN := (hf.block w.heap.size (Array.getElem?_eq_some_iff.1 hrowN).1 (hn1 _ (Nat.le_refl _))).trans hrowN
    have hwy2 := (hf.block w2.heap.size (Array.getElem?_eq_some_iff.1 HROW3.out).1 (hn1 _ (by have := HB0.out.size; omega))).trans HROW3.out
    refine ⟨hwyN, hwy2, Or.inr ⟨x, a2, k2, hh, HXK.out, rfl, ?_, ?_⟩⟩
    · have hrowx : Row w.heap.size wy (.slice a2 x.bytes.length k2) x.bytes := ⟨(HR3.out.kept hf.size (fun gg hg => hf.block gg (HR3.out.1.lt gg hg) (hn1 gg (by have := row_base HR3.out gg hg; omega)))).1, fun ad n' c' e' => by
        obtain ⟨a1, a4, a5⟩ := (HR3.out.kept hf.size (fun gg hg => hf.block gg (HR3.out.1.lt gg hg) (hn1 gg (by have := row_base HR3.out gg hg; omega)))).2 ad n' c' e'
        exact ⟨by omega, a4, a5⟩⟩
      refine hrowx.kept (by rw [setRow_size]; exact Nat.le_refl _) (fun gg hg => setRow_other _ _ _ _ (fun e => ?_))
      have := row_base HR3.out gg hg
      omega
    · refine OpS.lift HH0.out HBW3.out hop (N := w.heap.size) ?_ (Nat.le_refl _)
      exact ⟨rfl, rfl, rfl, by rw [setRow_size]; exact Nat.le_refl _, fun kk hk hn => setRow_other _ _ _ _ (fun e => hn (by omega))⟩)
  have HZ := HI #[.int .i64 x.src, .int .i64 x.dst, .slice a2 x.bytes.length k2] rfl
  have HZ2 := Lib.hid (cellsU3 x.src x.dst (.slice a2 x.bytes.length k2) ⟨_, _, _, rfl⟩)
  clear hr2 hb2 hb3 hrow3 hb03 hbw3 hrowN hW3 c0 c1 c2 hsv HC1 HR
  have HEND : Hid (∀ (wy wz : World), OpS B W3 p sv ps (if keep = true then b else b.cut k) wy → wy.setRow w.heap.size #[.int .i64 x.src, .int .i64 x.dst, .slice a2 x.bytes.length k2] = wz → wz.heap[w.heap.size]? = some (.cells #[.int .i64 x.src, .int .i64 x.dst, .slice a2 x.bytes.length k2] 34 (0, 0)) ∧ TakR B w p b sv ps (k : Int) keep (.returned (.tuple #[.agg #[.int .i64 x.src, .int .i64 x.dst, .slice a2 x.bytes.length k2], .int .i64 0])) wz) := Lib.hid (fun wy wz hop e => by
    obtain ⟨n1, n2, n3⟩ := HFIN.out wy hop
    rw [← e]
    exact ⟨setRow_heap _ _ _ _ _ _ n1, n3⟩)
  cases keep with
  | true =>
    obtain ⟨n1, n2, -⟩ := HFIN.out W3 (by rw [if_pos rfl]; exact OpS.same hB3 (Below.refl _ _))
    obtain ⟨W4, hW4⟩ : ∃ W4, W3.setRow w.heap.size #[.int .i64 x.src, .int .i64 x.dst, .slice a2 x.bytes.length k2] = W4 := ⟨_, rfl⟩
    obtain ⟨n4, n5⟩ := HEND.out W3 W4 (by rw [if_pos rfl]; exact OpS.same hB3 (Below.refl _ _)) hW4
    have HW4 := Lib.hid hW4
    have HN1 := Lib.hid n1
    have HN2 := Lib.hid n2
    have HN4 := Lib.hid n4
    have HE := Lib.hid n5
    clear n1 n2 n4 n5 hW4 hB3 HFIN HEND
    go_wp2_with (first
      | rw [HW3.out]
      | (refine wpList_load_row rfl 34 _ rfl w2.heap.size rfl 34 _ (0, 0) _ HN2.out Try.underlying34 rfl HZ.out ?_)
      | (refine wpList_store_row rfl 34 _ _ rfl w.heap.size _ rfl rfl 34 _ HN1.out HZ.out rfl HZ2.out ?_; rw [HW4.out]))
    exact bodyPost_ret (v := .tuple #[.agg #[.int .i64 x.src, .int .i64 x.dst, .slice a2 x.bytes.length k2], .int .i64 0]) (by have c0 : W4.cell? ⟨w.heap.size, 0, none⟩ = some (.int .i64 x.src) := cell_of_row _ _ _ _ _ _ HN4.out; have c1 : W4.cell? ⟨w.heap.size, 1, none⟩ = some (.int .i64 x.dst) := cell_of_row _ _ _ _ _ _ HN4.out; have c2 : W4.cell? ⟨w.heap.size, 2, none⟩ = some (.slice a2 x.bytes.length k2) := cell_of_row _ _ _ _ _ _ HN4.out; simp [results, Try.results11, go_sem, c0, c1, c2]) rfl HE.out
  | false =>
    have HRM := Lib.hid (remove_any B p W3 b sv ps k hB3 hkl hn)
    clear hB3
    go_wp2_with (first
      | rw [HW3.out])
    refine HRM.out.mono ?_
    rintro e wy ⟨rfl, hop⟩
    obtain ⟨n1, n2, -⟩ := HFIN.out wy (by rw [if_neg (by simp)]; exact hop)
    obtain ⟨W4, hW4⟩ : ∃ W4, wy.setRow w.heap.size #[.int .i64 x.src, .int .i64 x.dst, .slice a2 x.bytes.length k2] = W4 := ⟨_, rfl⟩
    obtain ⟨n4, n5⟩ := HEND.out wy W4 (by rw [if_neg (by simp)]; exact hop) hW4
    have HW4 := Lib.hid hW4
    have HN1 := Lib.hid n1
    have HN2 := Lib.hid n2
    have HN4 := Lib.hid n4
    have HE := Lib.hid n5
    clear n1 n2 n4 n5 hW4 HFIN HEND hop HRM
    go_wp2_with (first
      | (refine wpList_load_row rfl 34 _ rfl w2.heap.size rfl 34 _ (0, 0) _ HN2.out Try.underlying34 rfl HZ.out ?_)
      | (refine wpList_store_row rfl 34 _ _ rfl w.heap.size _ rfl rfl 34 _ HN1.out HZ.out rfl HZ2.out ?_; rw [HW4.out]))
    exact bodyPost_ret (v := .tuple #[.agg #[.int .i64 x.src, .int .i64 x.dst, .slice a2 x.bytes.length k2], .int .i64 0]) (by have c0 : W4.cell? ⟨w.heap.size, 0, none⟩ = some (.int .i64 x.src) := cell_of_row _ _ _ _ _ _ HN4.out; have c1 : W4.cell? ⟨w.heap.size, 1, none⟩ = some (.int .i64 x.dst) := cell_of_row _ _ _ _ _ _ HN4.out; have c2 : W4.cell? ⟨w.heap.size, 2, none⟩ = some (.slice a2 x.bytes.length k2) := cell_of_row _ _ _ _ _ _ HN4.out; simp [results, Try.results11, go_sem, c0, c1, c2]) rfl HE.out
end Go.Proofs.Ytdcpdeiljabkaaa
