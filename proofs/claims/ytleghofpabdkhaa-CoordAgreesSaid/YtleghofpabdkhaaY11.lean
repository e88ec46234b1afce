/- Coord: Begin. -/
import Derived.Test.YtleghofpabdkhaaY8
import Derived.Laws.OwnMore
import Derived.Deep.Onto
namespace Go.Proofs.Ytleghofpabdkhaa
open Go Go.RowKit

theorem run_load_tr (W : World) (N j : Nat) (a : Option Addr) (n c : Nat) (h2 : W.cell? ⟨N, j, none⟩ = some (.slice a n c)) : (Instr.loadAt 70 (.pointer (some ⟨N, j, none⟩))).run Try.prog W = .ok (.slice a n c) W := by go_simp
theorem run_store_tr (W : World) (N j : Nat) (a : Option Addr) (n c : Nat) (old : Value) (h2 : W.cell? ⟨N, j, none⟩ = some old) (ho : ∃ aa m cc, old = .slice aa m cc) (hf : W.frozen? ⟨N, j, none⟩ = false) : (Instr.storeAt 70 (.pointer (some ⟨N, j, none⟩)) (.slice a n c)).run Try.prog W = .ok () (W.setCell ⟨N, j, none⟩ (.slice a n c)) := by
  obtain ⟨aa, m, cc, rfl⟩ := ho
  go_simp
def txA (x : Txn) : Array Value := #[.int .i64 x.node, .int .i64 x.boot, .int .i64 x.n]
theorem infoTx (x : Txn) : (Try.prog.info? 33).map (·.size) = some (txA x).size := by show _ = some 3; kernel_rfl
theorem txA_cells (x : Txn) : (txA x).all (·.oneCell') = true := by
  rw [Array.all_eq_true_iff_forall_mem]
  intro u hu
  simp only [txA, List.mem_toArray, List.mem_cons, List.not_mem_nil, or_false] at hu
  rcases hu with rfl | rfl | rfl <;> rfl
theorem zero_tx (w : World) : (zeroValue 33).run Try.prog w = .ok (.agg (txA ⟨0, 0, 0⟩)) w := Try.zeroValue33 w
theorem ex_alloc {P : Program} {o : Oper} {a : Act} {w : World} (t : TypeId) (ho : o.op = .alloc t) (Z : Array Value) (hz : (zeroValue t).run P w = .ok (.agg Z) w) : (execOp a.eval o).run P w = .ok (.value (.pointer (some ⟨w.heap.size, 0, none⟩))) (w.alloc (.cells Z t)) := by
  unfold execOp
  simp only [ho, Sem.run_bind, run_alloc_row w t Z hz, Result.andThen_ok]
  rfl
/-- append of one transaction onto those of one's own. -/
theorem appT (B : Nat) (w : World) (v : Value) (ts : List Trn) (t : Trn) (hv : TsAt B w v ts) (hB : B ≤ w.heap.size) (hl : ts.length ≤ 1000) :
    ∃ a c w', (∀ ty, (Builtin.append_ #[70, 70] ty #[v, .slice (some ⟨w.heap.size, 0, none⟩) 1 1]).run Try.prog (w.alloc (.cells (cellsT t).toArray 78)) = .ok (.slice a (ts ++ [t]).length c) w') ∧ TsAt B w' (.slice a (ts ++ [t]).length c) (ts ++ [t]) ∧ Fr (fun k => v.ownBlock = some k) w w' ∧ ∀ g, (Value.slice a (ts ++ [t]).length c).ownBlock = some g → v.ownBlock = some g ∨ w.heap.size ≤ g := by
  have hb : Below w.heap.size w (w.alloc (.cells (cellsT t).toArray 78)) := (Below.refl _ w).alloc (Nat.le_refl _) _
  have hv' := owns_frame hv (fun k hk => hb.block k (World.ownsRow.lt hv k hk).2)
  obtain ⟨i, hi, hz, hs, hbs⟩ := info_parts infoTn
  obtain ⟨v', w', hr, ho, hg, hwh⟩ := app_own (P := Try.prog) _ 70 78 i _ 12 40 Try.underlying70 hi hz hs hbs rfl (by decide) v ts.length (ts.flatMap cellsT) (World.ownsRow.mono hv' (Nat.zero_le _)) ⟨w.heap.size, 0, none⟩ 1 1 (cellsT t) rfl (by decide)
    (fun j u hu => by rw [addr_plus, Nat.zero_add, cell_of_row _ _ _ _ _ _ (heap_alloc_new w _)]; simpa using hu) (cellsT_cell t) (by unfold maxLen; omega) (by omega)
  have hsz : (w.alloc (.cells (cellsT t).toArray 78)).heap.size = w.heap.size + 1 := by simp
  rw [hsz] at hwh
  have hcl : (ts ++ [t]).flatMap cellsT = ts.flatMap cellsT ++ cellsT t := by simp
  have hln : (ts ++ [t]).length = ts.length + 1 := by simp
  rw [← hcl, ← hln] at ho
  obtain ⟨a, c, rfl, _⟩ := owns_shape ho
  have hwh2 : ∀ g, (Value.slice a (ts ++ [t]).length c).ownBlock = some g → v.ownBlock = some g ∨ w.heap.size ≤ g := fun g hgg => (hwh g hgg).imp id (fun h => by omega)
  refine ⟨a, c, w', hr, ⟨ho.1, ?_⟩, (Fr.of_below _ hb).grown hg (fun k hk => Or.inl hk), hwh2⟩
  rcases ho.2 with h0 | ⟨g, cap, cur, e, _, rest⟩
  · exact Or.inl h0
  · refine Or.inr ⟨g, cap, cur, e, ?_, rest⟩
    rcases hwh2 g (by rw [e]; rfl) with h1 | h1
    · exact (World.ownsRow.lt hv g h1).1
    · omega
theorem run_lit_tr (W : World) (t : Trn) : (Instr.buildSlice 70 1 [(0, trnV t)].toArray).run Try.prog W = .ok (.slice (some ⟨W.heap.size, 0, none⟩) 1 1) (W.alloc (.cells (cellsT t).toArray 78)) := by
  unfold trnV cellsT
  go_simp
theorem lt_of_row' {w : World} {s : Nat} {o : Obj} (h : w.heap[s]? = some o) : s < w.heap.size := (Array.getElem?_eq_some_iff.1 h).1
/-- Begin, in plain words. -/
def Cd.begin (c : Cd) (l : List Int) : (Txn × Int) × Cd :=
  if c.life = 0 then ((⟨0, 0, 0⟩, 13), c)
  else if (setE l).2 = false then ((⟨0, 0, 0⟩, 2), c)
  else if 8 ≤ c.under.length ∨ 2147483647 ≤ c.next then ((⟨0, 0, 0⟩, 8), c)
  else ((⟨c.node, c.life, c.next⟩, 0), { c with next := c.next + 1, under := c.under ++ [⟨⟨c.node, c.life, c.next⟩, (setE l).1, St4.none, false⟩] })
def BegR (B : Nat) (w : World) (p : Nat) (sv : Value) (c : Cd) (l : List Int) (e : Ending) (w' : World) : Prop :=
  e = .returned (.tuple #[txV (c.begin l).1.1, .int .i64 (c.begin l).1.2]) ∧ OpC B w p sv (c.begin l).2 w'
set_option maxHeartbeats 16000000 in
set_option maxRecDepth 100000 in
theorem begin_any (B p : Nat) (w : World) (c : Cd) (sv v : Value) (l : List Int) (h : CdAt B w p c sv) (hv : Ints w v l) (hB : B ≤ w.heap.size) (hn : c.under.length ≤ 900) (hl : l.length ≤ 9223372036854775807) (hnx : 0 ≤ c.next) :
    Calls Try.prog 9 #[.pointer (some ⟨p, 0, none⟩), v] w (BegR B w p sv c l) := by
  obtain ⟨va, vc, rfl, _⟩ := id hv
  obtain ⟨sa, sc, rfl, _⟩ := h.lens
  obtain ⟨W0, hW0⟩ : ∃ W0, w.alloc (.cells (txA ⟨0, 0, 0⟩) 33) = W0 := ⟨_, rfl⟩
  have hb0 : Below w.heap.size w W0 := by rw [← hW0]; exact (Below.refl _ w).alloc (Nat.le_refl _) _
  have hr0 : W0.heap[w.heap.size]? = some (.cells (txA ⟨0, 0, 0⟩) 33 (0, 0)) := by rw [← hW0]; exact heap_alloc_new w _
  have hs0 : W0.heap.size = w.heap.size + 1 := by rw [← hW0]; simp
  have HRES : Hid (∀ (x : Txn) (wy : World) (c' : Cd), wy.heap[w.heap.size]? = some (.cells (txA ⟨0, 0, 0⟩) 33 (0, 0)) → OpC B W0 p (.slice sa c.under.length sc) c' wy → ∀ wz, wy.setRow w.heap.size (txA x) = wz → wz.heap[w.heap.size]? = some (.cells (txA x) 33 (0, 0)) ∧ OpC B w p (.slice sa c.under.length sc) c' wz) := Lib.hid (fun x wy c' hry hop wz hz => by
    refine ⟨by rw [← hz]; exact setRow_heap _ _ _ _ _ _ hry, ?_⟩
    obtain ⟨sw, q1, q2, q3⟩ := hop
    have hN : ∀ g, g = p ∨ sw.ownBlock = some g → g ≠ w.heap.size := fun g hg e => by
      rcases hg with hg | hg
      · have := h.lt; omega
      · rcases q3 g hg with h3 | h3
        · have := (World.ownsRow.lt h.us g h3).2; omega
        · omega
    have hf : Fr (· = w.heap.size) wy wz := by
      rw [← hz]
      exact ⟨rfl, rfl, rfl, by rw [setRow_size]; exact Nat.le_refl _, fun k hk hn => setRow_other _ _ _ _ hn⟩
    refine ⟨sw, q1.kept (fun g hg => hf.block g (by rcases hg with rfl | hg; exact q1.lt; exact (World.ownsRow.lt q1.us g hg).2) (hN g hg)), ((Fr.of_below (fun k => k = p ∨ (Value.slice sa c.under.length sc).ownBlock = some k) hb0).trans q2 (fun _ _ h => h) (fun _ _ h => h)).trans hf (fun _ _ h => h) (fun k hk e => by omega), fun g hg => (q3 g hg).imp id (fun h => by omega)⟩)
  have HI := Lib.hid infoTx
  have HZ := Lib.hid txA_cells
  have HRS : Hid (∀ (x : Txn) (er : Int) (wz : World), wz.heap[w.heap.size]? = some (.cells (txA x) 33 (0, 0)) → (c.begin l).1 = (x, er) → OpC B w p (.slice sa c.under.length sc) (c.begin l).2 wz → BegR B w p (.slice sa c.under.length sc) c l (.returned (.tuple #[txV x, .int .i64 er])) wz) := Lib.hid (fun x er wz _ h1 h2 => ⟨by rw [h1], h2⟩)
  have hC0 := h.below hb0
  have HW0 := Lib.hid hW0
  have HC0 := Lib.hid hC0
  have HR0 := Lib.hid hr0
  have HV0 := Lib.hid (hv.below hb0)
  have HS0 := Lib.hid hs0
  have HB0 := Lib.hid hb0
  have HBB := Lib.hid hB
  obtain ⟨_, c1, _⟩ := hC0.cells
  unfold txA at HW0
  by_cases hlife : c.life = 0
  · have hbg : c.begin l = ((⟨0, 0, 0⟩, 13), c) := by unfold Cd.begin; rw [if_pos hlife]
    obtain ⟨wz, hwz⟩ : ∃ wz, W0.setRow w.heap.size (txA ⟨0, 0, 0⟩) = wz := ⟨_, rfl⟩
    obtain ⟨hz1, hz2⟩ := HRES.out ⟨0, 0, 0⟩ W0 c hr0 (OpC.same hC0 (Below.refl _ _)) wz hwz
    have HE := Lib.hid (HRS.out ⟨0, 0, 0⟩ 13 wz hz1 (by rw [hbg]) (by rw [hbg]; exact hz2))
    have e1 : (c.life == 0) = true := by rw [hlife]; rfl
    have HWZ := Lib.hid hwz
    have HZ1 := Lib.hid hz1
    have HI1 := Lib.hid (HI.out ⟨0, 0, 0⟩)
    have HZ2 := Lib.hid (HZ.out ⟨0, 0, 0⟩)
    unfold txA at HWZ HI1 HZ2
    clear h hv hb0 hr0 hs0 hC0 hW0 hbg hwz hz1 hz2 hlife HRES HRS HI HZ HC0 HV0 HS0 HB0
    go_enter Try.func9, Try.ntmps9
    go_wp2_with (first
      | rw [HW0.out]
      | (refine wpList_store_row rfl 33 _ _ rfl w.heap.size _ rfl rfl 33 _ HR0.out HI1.out rfl HZ2.out ?_; rw [HWZ.out]))
    exact bodyPost_ret (v := .tuple #[txV ⟨0, 0, 0⟩, .int .i64 13]) (by have c0 : wz.cell? ⟨w.heap.size, 0, none⟩ = some (.int .i64 0) := cell_of_row _ _ _ _ _ _ HZ1.out; have c1 : wz.cell? ⟨w.heap.size, 1, none⟩ = some (.int .i64 0) := cell_of_row _ _ _ _ _ _ HZ1.out; have c2 : wz.cell? ⟨w.heap.size, 2, none⟩ = some (.int .i64 0) := cell_of_row _ _ _ _ _ _ HZ1.out; simp [results, Try.results9, go_sem, c0, c1, c2, txV]) rfl HE.out
  have e1 : (c.life == 0) = false := beq_eq_false_iff_ne.2 hlife
  obtain ⟨S, hS⟩ : ∃ S, (setE l).1 = S := ⟨_, rfl⟩
  obtain ⟨R, hR⟩ : ∃ R, (setE l).2 = R := ⟨_, rfl⟩
  have hso := setOf_any _ l W0 HV0.out hl
  unfold SetR at hso
  rw [hS, hR] at hso
  have HSO := Lib.hid hso
  have HBG : Hid (c.begin l = (if R = false then ((⟨0, 0, 0⟩, 2), c) else if 8 ≤ c.under.length ∨ 2147483647 ≤ c.next then ((⟨0, 0, 0⟩, 8), c) else ((⟨c.node, c.life, c.next⟩, 0), { c with next := c.next + 1, under := c.under ++ [⟨⟨c.node, c.life, c.next⟩, S, St4.none, false⟩] }))) := Lib.hid (by unfold Cd.begin; rw [if_neg hlife, hS, hR])
  have HLT : Hid (p < w.heap.size ∧ ∀ g, (Value.slice sa c.under.length sc).ownBlock = some g → g < w.heap.size) := Lib.hid ⟨h.lt, fun g hg => (World.ownsRow.lt h.us g hg).2⟩
  clear h hv hb0 hr0 hs0 hC0 hW0 hlife hso hS hR hB
  go_enter Try.func9, Try.ntmps9
  go_wp2_with (first | rw [HW0.out])
  refine HSO.out.mono ?_
  rintro e w1 ⟨rfl, hb1⟩
  obtain ⟨w2, hw2⟩ : ∃ w2, w1.alloc (.cells (setA S) 74) = w2 := ⟨_, rfl⟩
  have hb12 : Below w1.heap.size w1 w2 := by rw [← hw2]; exact (Below.refl _ w1).alloc (Nat.le_refl _) _
  have hb2 : Below W0.heap.size W0 w2 := hb1.trans (hb12.mono hb1.size)
  have hC2 := HC0.out.below hb2
  have hr2 : w2.heap[w.heap.size]? = _ := (hb2.block _ (by have := HS0.out; omega)).trans HR0.out
  have hset : w2.heap[w1.heap.size]? = some (.cells (setA S) 74 (0, 0)) := by rw [← hw2]; exact heap_alloc_new w1 _
  have hsz2 : w2.heap.size = w1.heap.size + 1 := by rw [← hw2]; simp
  have HW2 := Lib.hid hw2
  have HB2 := Lib.hid hb2
  have HC2 := Lib.hid hC2
  have HR2 := Lib.hid hr2
  have HSET := Lib.hid hset
  have HSZ2 := Lib.hid (And.intro hsz2 hb1.size)
  obtain ⟨d0, d1, d2, d3, _⟩ := hC2.cells
  unfold setA at HW2
  clear hb1 hb12 hb2 hC2 hr2 hset hsz2 hw2 HSO c1 HW0 HR0
  unfold setV
  have hbadc : (R = false) ∨ (R = true ∧ (8 ≤ c.under.length ∨ (¬ 8 ≤ c.under.length ∧ 2147483647 ≤ c.next))) ∨ (R = true ∧ ¬ 8 ≤ c.under.length ∧ ¬ 2147483647 ≤ c.next) := by
    cases R
    · exact Or.inl rfl
    · right
      by_cases hh : 8 ≤ c.under.length ∨ 2147483647 ≤ c.next
      · left; exact ⟨rfl, by omega⟩
      · right; exact ⟨rfl, by omega, by omega⟩
  rcases hbadc with hR | ⟨hR, hfull⟩ | ⟨hR, hf1, hf2⟩
  · subst hR
    have hbg : c.begin l = ((⟨0, 0, 0⟩, 2), c) := by rw [HBG.out, if_pos rfl]
    obtain ⟨wz, hwz⟩ : ∃ wz, w2.setRow w.heap.size (txA ⟨0, 0, 0⟩) = wz := ⟨_, rfl⟩
    obtain ⟨hz1, hz2⟩ := HRES.out ⟨0, 0, 0⟩ w2 c HR2.out (OpC.same HC0.out HB2.out) wz hwz
    have HE := Lib.hid (HRS.out ⟨0, 0, 0⟩ 2 wz hz1 (by rw [hbg]) (by rw [hbg]; exact hz2))
    have HWZ := Lib.hid hwz
    have HZ1 := Lib.hid hz1
    have HI1 := Lib.hid (HI.out ⟨0, 0, 0⟩)
    have HZ2 := Lib.hid (HZ.out ⟨0, 0, 0⟩)
    unfold txA at HWZ HI1 HZ2
    clear hbg hwz hz1 hz2 HRES HRS HI HZ HC0 HV0 HS0 HB0 HB2 HC2 HSET HSZ2 HBG HLT
    go_wp2_with (first
      | rw [HW2.out]
      | (refine wpList_store_row rfl 33 _ _ rfl w.heap.size _ rfl rfl 33 _ HR2.out HI1.out rfl HZ2.out ?_; rw [HWZ.out]))
    exact bodyPost_ret (v := .tuple #[txV ⟨0, 0, 0⟩, .int .i64 2]) (by have c0 : wz.cell? ⟨w.heap.size, 0, none⟩ = some (.int .i64 0) := cell_of_row _ _ _ _ _ _ HZ1.out; have c1 : wz.cell? ⟨w.heap.size, 1, none⟩ = some (.int .i64 0) := cell_of_row _ _ _ _ _ _ HZ1.out; have c2 : wz.cell? ⟨w.heap.size, 2, none⟩ = some (.int .i64 0) := cell_of_row _ _ _ _ _ _ HZ1.out; simp [results, Try.results9, go_sem, c0, c1, c2, txV]) rfl HE.out
  · subst hR
    have hbg : c.begin l = ((⟨0, 0, 0⟩, 8), c) := by rw [HBG.out, if_neg (by simp), if_pos (by omega)]
    obtain ⟨wz, hwz⟩ : ∃ wz, w2.setRow w.heap.size (txA ⟨0, 0, 0⟩) = wz := ⟨_, rfl⟩
    obtain ⟨hz1, hz2⟩ := HRES.out ⟨0, 0, 0⟩ w2 c HR2.out (OpC.same HC0.out HB2.out) wz hwz
    have HE := Lib.hid (HRS.out ⟨0, 0, 0⟩ 8 wz hz1 (by rw [hbg]) (by rw [hbg]; exact hz2))
    have HWZ := Lib.hid hwz
    have HZ1 := Lib.hid hz1
    have HI1 := Lib.hid (HI.out ⟨0, 0, 0⟩)
    have HZ2 := Lib.hid (HZ.out ⟨0, 0, 0⟩)
    unfold txA at HWZ HI1 HZ2
    clear hbg hwz hz1 hz2 HRES HRS HI HZ HC0 HV0 HS0 HB0 HB2 HC2 HSET HSZ2 HBG HLT
    have hfull' : ((8 : Int) ≤ (c.under.length : Int)) ∨ (¬ (8 : Int) ≤ (c.under.length : Int) ∧ 2147483647 ≤ c.next) := by omega
    clear hfull
    rcases hfull' with hfull | ⟨hfull, hfull2⟩
    all_goals
      go_wp2_with (first
        | rw [HW2.out]
        | (refine wpList_store_row rfl 33 _ _ rfl w.heap.size _ rfl rfl 33 _ HR2.out HI1.out rfl HZ2.out ?_; rw [HWZ.out]))
      exact bodyPost_ret (v := .tuple #[txV ⟨0, 0, 0⟩, .int .i64 8]) (by have c0 : wz.cell? ⟨w.heap.size, 0, none⟩ = some (.int .i64 0) := cell_of_row _ _ _ _ _ _ HZ1.out; have c1 : wz.cell? ⟨w.heap.size, 1, none⟩ = some (.int .i64 0) := cell_of_row _ _ _ _ _ _ HZ1.out; have c2 : wz.cell? ⟨w.heap.size, 2, none⟩ = some (.int .i64 0) := cell_of_row _ _ _ _ _ _ HZ1.out; simp [results, Try.results9, go_sem, c0, c1, c2, txV]) rfl HE.out
  · subst hR
    obtain ⟨X, hX⟩ : ∃ X : Txn, X = ⟨c.node, c.life, c.next⟩ := ⟨_, rfl⟩
    obtain ⟨tt, htt⟩ : ∃ tt : Trn, tt = ⟨X, S, St4.none, false⟩ := ⟨_, rfl⟩
    have HBG2 : Hid (c.begin l = ((X, 0), { c with next := c.next + 1, under := c.under ++ [tt] })) := Lib.hid (by rw [HBG.out, if_neg (by simp), if_neg (by omega), htt, hX])
    have HX : Hid (X = ⟨c.node, c.life, c.next⟩) := Lib.hid hX
    have HTT : Hid (tt = ⟨X, S, St4.none, false⟩) := Lib.hid htt
    have hf1' : ¬ (8 : Int) ≤ (c.under.length : Int) := by omega
    clear HBG hX htt
    -- the worlds
    obtain ⟨w3, hw3⟩ : ∃ w3, w2.drew.alloc (.cells (txA ⟨0, 0, 0⟩) 33) = w3 := ⟨_, rfl⟩
    have hb3 : Below w2.heap.size w2 w3 := by rw [← hw3]; exact ((Below.refl _ w2).drew).alloc (Nat.le_refl _) _
    have hr3 : w3.heap[w2.heap.size]? = some (.cells (txA ⟨0, 0, 0⟩) 33 (0, 0)) := by rw [← hw3]; exact heap_alloc_new w2.drew _
    have hst := run_storeAt_mid (P := Try.prog) w3 w2.heap.size 0 33 (txA X) (fun j hj => ⟨by rw [Nat.zero_add]; have hj3 : j < 3 := hj; rw [cell_of_row _ _ _ _ _ _ hr3]; match j, hj3 with
      | 0, _ => rfl
      | 1, _ => rfl
      | 2, _ => rfl, by rw [Nat.zero_add]; exact frozen_of_row _ _ _ _ _ hr3⟩) (infoTx X) (txA_cells X)
    obtain ⟨w4, hw4⟩ : ∃ w4, w3.setCells w2.heap.size 0 (txA X).toList = w4 := ⟨_, rfl⟩
    rw [hw4] at hst
    have hf4 : Fr (· = w2.heap.size) w3 w4 := by rw [← hw4]; exact (Fr.refl (· = w2.heap.size) w3).setCells w2.heap.size 0 (Or.inl rfl) _
    have hr4 : w4.heap[w2.heap.size]? = some (.cells (txA X) 33 (0, 0)) := by rw [← hw4]; exact setCells_row w2.heap.size 33 (txA X).toList 0 (txA ⟨0, 0, 0⟩).toList w3 hr3 (by show 0 + 3 ≤ 3; decide)
    have hb24 : Below w2.heap.size w2 w4 := hb3.trans (hf4.below hb3.size (fun k e => by omega))
    have hC4 := HC2.out.below hb24
    have hset4 : w4.heap[w1.heap.size]? = _ := (hb24.block _ (by have := HSZ2.out.1; omega)).trans HSET.out
    have hres4 : w4.heap[w.heap.size]? = _ := (hb24.block _ (by have := HSZ2.out; have := HS0.out; omega)).trans HR2.out
    have hs24 := hb24.size
    obtain ⟨na, nc, w5, hap, hus5, hf5, hn5⟩ := appT B w4.drew _ c.under tt (owns_frame hC4.us (fun _ _ => rfl)) (by show B ≤ w4.heap.size; have := HSZ2.out; have := HS0.out; have := HBB.out; omega) (by omega)
    have hlt := HLT.out
    have hk5 : ∀ k, k < w4.heap.size → (Value.slice sa c.under.length sc).ownBlock ≠ some k → w5.heap[k]? = w4.heap[k]? := fun k hk hne => hf5.block k hk hne
    have hr5 : w5.heap[w2.heap.size]? = _ := (hk5 _ (lt_of_row' hr4) (fun e => by have := hlt.2 _ e; have := HSZ2.out; have := HS0.out; omega)).trans hr4
    have hset5 : w5.heap[w1.heap.size]? = _ := (hk5 _ (lt_of_row' hset4) (fun e => by have := hlt.2 _ e; have := HSZ2.out; have := HS0.out; omega)).trans hset4
    have hres5 : w5.heap[w.heap.size]? = _ := (hk5 _ (lt_of_row' hres4) (fun e => by have := hlt.2 _ e; omega)).trans hres4
    have hrow5 : w5.heap[p]? = _ := (hk5 _ hC4.lt (fun e => hC4.ne p e rfl)).trans hC4.row
    obtain ⟨w6, hw6⟩ : ∃ w6, w5.setCell ⟨p, 3, none⟩ (.slice na (c.under ++ [tt]).length nc) = w6 := ⟨_, rfl⟩
    obtain ⟨w7, hw7⟩ : ∃ w7, w6.setCell ⟨p, 2, none⟩ (.int .i64 (c.next + 1)) = w7 := ⟨_, rfl⟩
    have hf6 : Fr (· = p) w5 w6 := by rw [← hw6]; exact (Fr.refl (· = p) w5).setCell ⟨p, 3, none⟩ (Or.inl rfl) _
    have hf7 : Fr (· = p) w6 w7 := by rw [← hw7]; exact (Fr.refl (· = p) w6).setCell ⟨p, 2, none⟩ (Or.inl rfl) _
    have hrow6 : w6.heap[p]? = some (.cells #[.int .i64 c.node, .int .i64 c.life, .int .i64 c.next, .slice na (c.under ++ [tt]).length nc] 72 (0, 0)) := by rw [← hw6]; exact heap_setCell_same w5 p 3 _ _ _ hrow5
    have hrow7 : w7.heap[p]? = some (.cells #[.int .i64 c.node, .int .i64 c.life, .int .i64 (c.next + 1), .slice na (c.under ++ [tt]).length nc] 72 (0, 0)) := by rw [← hw7]; exact heap_setCell_same w6 p 2 _ _ _ hrow6
    have hpw : p < w.heap.size := hlt.1
    have hf57 : Fr (· = p) w5 w7 := hf6.trans hf7 (fun _ _ h => h) (fun _ _ h => h)
    have hr7 : w7.heap[w2.heap.size]? = _ := (hf57.block _ (lt_of_row' hr5) (by have := HSZ2.out; have := HS0.out; omega)).trans hr5
    have hres7 : w7.heap[w.heap.size]? = _ := (hf57.block _ (lt_of_row' hres5) (by omega)).trans hres5
    have hr6 : w6.heap[w2.heap.size]? = _ := (hf6.block _ (lt_of_row' hr5) (by have := HSZ2.out; have := HS0.out; omega)).trans hr5
    have hset6 : w6.heap[w1.heap.size]? = _ := (hf6.block _ (lt_of_row' hset5) (by have := HSZ2.out; have := HS0.out; omega)).trans hset5
    have hop7 : OpC B W0 p (.slice sa c.under.length sc) { c with next := c.next + 1, under := c.under ++ [tt] } w7 := by
      refine ⟨.slice na (c.under ++ [tt]).length nc, ⟨hrow7, owns_frame hus5 (fun g hg => hf57.block g (World.ownsRow.lt hus5 g hg).2 ?_), fun g hg => ?_, HC0.out.base⟩, ?_, fun g hg => ?_⟩
      · rcases hn5 g hg with h | h
        · exact hC4.ne g h
        · have h2 : w4.heap.size ≤ g := h
          have := HSZ2.out; have := HS0.out; omega
      · rcases hn5 g hg with h | h
        · exact hC4.ne g h
        · have h2 : w4.heap.size ≤ g := h
          have := HSZ2.out; have := HS0.out; omega
      · exact ((((Fr.of_below (fun k => k = p ∨ (Value.slice sa c.under.length sc).ownBlock = some k) HB2.out).trans (Fr.of_below (fun _ => False) hb24) (fun _ _ h => h) (fun _ _ h => h.elim)).drew).trans hf5 (fun _ _ h => h) (fun _ _ h => Or.inr h)).trans hf57 (fun _ _ h => h) (fun _ _ h => Or.inl h)
      · rcases hn5 g hg with h | h
        · exact Or.inl h
        · exact Or.inr (by have h2 : w4.heap.size ≤ g := h; have := HB2.out.size; omega)
    obtain ⟨w8, hw8⟩ : ∃ w8, w7.setRow w.heap.size (txA X) = w8 := ⟨_, rfl⟩
    obtain ⟨hz1, hz2⟩ := HRES.out X w7 _ hres7 hop7 w8 hw8
    have HE := Lib.hid (HRS.out X 0 w8 hz1 (by rw [HBG2.out]) (by rw [HBG2.out]; exact hz2))
    have HZ1 := Lib.hid hz1
    have HROW2 := Lib.hid HC2.out.row
    have HRX := Lib.hid hr4
    have HS4 := Lib.hid hset4
    have HROW4 := Lib.hid hC4.row
    have HAP := Lib.hid hap
    have HST := Lib.hid hst
    have HR5 := Lib.hid (And.intro hr5 (And.intro hset5 hrow5))
    have HR6 := Lib.hid (And.intro hr6 hset6)
    have g2 : w6.cell? ⟨p, 2, none⟩ = some (.int .i64 c.next) := cell_of_row _ _ _ _ _ _ hrow6
    have q2 : w6.frozen? ⟨p, 2, none⟩ = false := frozen_of_row _ _ _ _ _ hrow6
    have HR7 := Lib.hid hr7
    have HRES7 := Lib.hid hres7
    have HW3 := Lib.hid hw3
    have HW6 := Lib.hid hw6
    have HW7 := Lib.hid hw7
    have HW8 := Lib.hid hw8
    have HIX := Lib.hid (HI.out X)
    have HZX := Lib.hid (HZ.out X)
    have HB3 := Lib.hid (And.intro (hb3.block p (HC2.out.lt)) hr3)
    unfold txA at HW8 HRES7 HR7 HIX HZX
    clear hw3 hb3 hr3 hst hw4 hf4 hr4 hb24 hC4 hset4 hres4 hs24 hap hus5 hf5 hn5 hlt hk5 hr5 hset5 hres5 hrow5 hw6 hw7 hf6 hf7 hrow6 hrow7 hf57 hr7 hres7 hr6 hset6 hop7 hw8 hz1 hz2 HRES HRS HI HZ HC0 HV0 HS0 HB0 HB2 HC2 HR2 HSET HSZ2 HLT HBG2 HBB hpw
    go_wp2_with (first | rw [HW2.out])
    clear HW2 d0 d1 d2 d3
    refine wp_region_held_drew (S := fun W : World => W.heap[p]? = some (.cells #[.int .i64 c.node, .int .i64 c.life, .int .i64 c.next, .slice sa c.under.length sc] 72 (0, 0))) (by kernel_rfl) HROW2.out (fun _ => ?_)
    refine hh_take 0 (some 40) (.pointer (some ⟨p, 0, none⟩)) rfl rfl (by kernel_rfl) (by kernel_rfl) (by kernel_rfl) (fun _ _ _ h => h) rfl (fun _ _ => rfl) HROW2.out ?_
    simp only [Act.put, List.setIfInBounds_toArray, List.set_cons_zero, List.set_cons_succ]
    refine hh_take 1 (some 41) (.pointer (some ⟨p, 0, none⟩)) rfl rfl (by kernel_rfl) (by kernel_rfl) (by kernel_rfl) (fun _ _ _ h => h) rfl (fun _ _ => by first | rfl | kernel_rfl | go_simp) HROW2.out ?_
    simp only [Act.put, List.setIfInBounds_toArray, List.set_cons_zero, List.set_cons_succ]
    refine hh_take 2 (some 42) (.pointer (some ⟨p, 0, none⟩)) rfl rfl (by kernel_rfl) (by kernel_rfl) (by kernel_rfl) (fun _ _ _ h => h) rfl (fun _ _ => by kernel_rfl) HROW2.out ?_
    simp only [Act.put, List.setIfInBounds_toArray, List.set_cons_zero, List.set_cons_succ]
    refine hh_take 3 (some 43) (.int .i64 c.node) rfl rfl (by kernel_rfl) (by kernel_rfl) (by kernel_rfl) (fun _ _ _ h => h) rfl (fun W hW => ex_load 3 (.tmp 42) rfl _ _ rfl (run_load_int W _ _ _ (cell_of_row _ _ _ _ _ _ hW))) HROW2.out ?_
    simp only [Act.put, List.setIfInBounds_toArray, List.set_cons_zero, List.set_cons_succ]
    refine hh_take 4 (some 44) (.pointer (some ⟨p, 0, none⟩)) rfl rfl (by kernel_rfl) (by kernel_rfl) (by kernel_rfl) (fun _ _ _ h => h) rfl (fun _ _ => rfl) HROW2.out ?_
    simp only [Act.put, List.setIfInBounds_toArray, List.set_cons_zero, List.set_cons_succ]
    refine hh_take 5 (some 45) (.pointer (some ⟨p, 0, none⟩)) rfl rfl (by kernel_rfl) (by kernel_rfl) (by kernel_rfl) (fun _ _ _ h => h) rfl (fun _ _ => by first | rfl | kernel_rfl | go_simp) HROW2.out ?_
    simp only [Act.put, List.setIfInBounds_toArray, List.set_cons_zero, List.set_cons_succ]
    refine hh_take 6 (some 46) (.pointer (some ⟨p, 1, none⟩)) rfl rfl (by kernel_rfl) (by kernel_rfl) (by kernel_rfl) (fun _ _ _ h => h) rfl (fun _ _ => by kernel_rfl) HROW2.out ?_
    simp only [Act.put, List.setIfInBounds_toArray, List.set_cons_zero, List.set_cons_succ]
    refine hh_take 7 (some 47) (.int .i64 c.life) rfl rfl (by kernel_rfl) (by kernel_rfl) (by kernel_rfl) (fun _ _ _ h => h) rfl (fun W hW => ex_load 3 (.tmp 46) rfl _ _ rfl (run_load_int W _ _ _ (cell_of_row _ _ _ _ _ _ hW))) HROW2.out ?_
    simp only [Act.put, List.setIfInBounds_toArray, List.set_cons_zero, List.set_cons_succ]
    refine hh_take 8 (some 48) (.pointer (some ⟨p, 0, none⟩)) rfl rfl (by kernel_rfl) (by kernel_rfl) (by kernel_rfl) (fun _ _ _ h => h) rfl (fun _ _ => rfl) HROW2.out ?_
    simp only [Act.put, List.setIfInBounds_toArray, List.set_cons_zero, List.set_cons_succ]
    refine hh_take 9 (some 49) (.pointer (some ⟨p, 0, none⟩)) rfl rfl (by kernel_rfl) (by kernel_rfl) (by kernel_rfl) (fun _ _ _ h => h) rfl (fun _ _ => by first | rfl | kernel_rfl | go_simp) HROW2.out ?_
    simp only [Act.put, List.setIfInBounds_toArray, List.set_cons_zero, List.set_cons_succ]
    refine hh_take 10 (some 50) (.pointer (some ⟨p, 2, none⟩)) rfl rfl (by kernel_rfl) (by kernel_rfl) (by kernel_rfl) (fun _ _ _ h => h) rfl (fun _ _ => by kernel_rfl) HROW2.out ?_
    simp only [Act.put, List.setIfInBounds_toArray, List.set_cons_zero, List.set_cons_succ]
    refine hh_take 11 (some 51) (.int .i64 c.next) rfl rfl (by kernel_rfl) (by kernel_rfl) (by kernel_rfl) (fun _ _ _ h => h) rfl (fun W hW => ex_load 3 (.tmp 50) rfl _ _ rfl (run_load_int W _ _ _ (cell_of_row _ _ _ _ _ _ hW))) HROW2.out ?_
    simp only [Act.put, List.setIfInBounds_toArray, List.set_cons_zero, List.set_cons_succ]
    refine hh_take 12 (some 52) (.agg #[.int .i64 c.node, .int .i64 c.life, .int .i64 c.next]) rfl rfl (by kernel_rfl) (by kernel_rfl) (by kernel_rfl) (fun _ _ _ h => h) rfl (fun _ _ => by first | rfl | kernel_rfl | go_simp) HROW2.out ?_
    simp only [Act.put, List.setIfInBounds_toArray, List.set_cons_zero, List.set_cons_succ]
    refine hh_one 13 (by kernel_rfl) rfl rfl (fun K hK => wp_runsh (some 8) rfl (ex_alloc 33 rfl _ (zero_tx _)) (hK _ _ (by rw [HW3.out]; exact HB3.out.1.trans HROW2.out) ?_))
    clear hK K
    simp only [Act.put, List.setIfInBounds_toArray, List.set_cons_zero, List.set_cons_succ]
    rw [HW3.out, show w2.drew.heap.size = w2.heap.size from rfl]
    refine hh_one 14 (by kernel_rfl) rfl rfl (fun K hK => wp_skipsh none rfl (ex_store 33 (.tmp 8) (.tmp 52) rfl (.pointer (some ⟨w2.heap.size, 0, none⟩)) (.agg (txA X)) rfl (by rw [HX.out]; rfl) HST.out) (hK _ _ HROW4.out ?_))
    clear hK K
    simp only [Act.put]
    refine wpAnyH_done (by kernel_rfl) ?_ _
    clear HST HB3 HW3 HROW2
    go_wp2_with fail
    refine wp_region_held_drew (S := fun W : World => W.heap[w2.heap.size]? = some (.cells (txA X) 33 (0, 0)) ∧ W.heap[w1.heap.size]? = some (.cells (setA S) 74 (0, 0))) (by kernel_rfl) ⟨HRX.out, HS4.out⟩ (fun _ => ?_)
    refine hh_take 0 (some 53) (.pointer (some ⟨p, 0, none⟩)) rfl rfl (by kernel_rfl) (by kernel_rfl) (by kernel_rfl) (fun _ _ _ h => h) rfl (fun _ _ => rfl) ⟨HRX.out, HS4.out⟩ ?_
    simp only [Act.put, List.setIfInBounds_toArray, List.set_cons_zero, List.set_cons_succ]
    refine hh_take 1 (some 54) (.pointer (some ⟨p, 0, none⟩)) rfl rfl (by kernel_rfl) (by kernel_rfl) (by kernel_rfl) (fun _ _ _ h => h) rfl (fun _ _ => rfl) ⟨HRX.out, HS4.out⟩ ?_
    simp only [Act.put, List.setIfInBounds_toArray, List.set_cons_zero, List.set_cons_succ]
    refine hh_take 2 (some 55) (.pointer (some ⟨p, 0, none⟩)) rfl rfl (by kernel_rfl) (by kernel_rfl) (by kernel_rfl) (fun _ _ _ h => h) rfl (fun _ _ => by first | rfl | kernel_rfl | go_simp) ⟨HRX.out, HS4.out⟩ ?_
    simp only [Act.put, List.setIfInBounds_toArray, List.set_cons_zero, List.set_cons_succ]
    refine hh_take 3 (some 56) (.pointer (some ⟨p, 3, none⟩)) rfl rfl (by kernel_rfl) (by kernel_rfl) (by kernel_rfl) (fun _ _ _ h => h) rfl (fun _ _ => by kernel_rfl) ⟨HRX.out, HS4.out⟩ ?_
    simp only [Act.put, List.setIfInBounds_toArray, List.set_cons_zero, List.set_cons_succ]
    refine hh_take 5 (some 58) (txV X) rfl rfl (by kernel_rfl) (by kernel_rfl) (by kernel_rfl) (fun _ _ _ h => h) rfl (fun W hW => ex_load 33 (.tmp 8) rfl _ _ rfl (run_loadAt_mid W w2.heap.size 0 33 [.int .i64 X.node, .int .i64 X.boot, .int .i64 X.n] _ (fun j v hj => by
          match j, hj with
          | 0, hj => cases hj; exact cell_of_row _ _ _ _ _ _ hW.1
          | 1, hj => cases hj; exact cell_of_row _ _ _ _ _ _ hW.1
          | 2, hj => cases hj; exact cell_of_row _ _ _ _ _ _ hW.1) Try.underlying33 rfl (infoTx X))) ⟨HRX.out, HS4.out⟩ ?_
    simp only [Act.put, List.setIfInBounds_toArray, List.set_cons_zero, List.set_cons_succ]
    refine hh_take 6 (some 59) (setV S) rfl rfl (by kernel_rfl) (by kernel_rfl) (by kernel_rfl) (fun _ _ _ h => h) rfl (fun W hW => ex_load 74 (.tmp 6) rfl _ _ rfl (run_loadAt_mid W w1.heap.size 0 74 [.bool S.a, .bool S.b, .bool S.c, .bool S.d] _ (fun j v hj => by
          match j, hj with
          | 0, hj => cases hj; exact cell_of_row _ _ _ _ _ _ hW.2
          | 1, hj => cases hj; exact cell_of_row _ _ _ _ _ _ hW.2
          | 2, hj => cases hj; exact cell_of_row _ _ _ _ _ _ hW.2
          | 3, hj => cases hj; exact cell_of_row _ _ _ _ _ _ hW.2) Try.underlying74 rfl (infoS4 S))) ⟨HRX.out, HS4.out⟩ ?_
    simp only [Act.put, List.setIfInBounds_toArray, List.set_cons_zero, List.set_cons_succ]
    refine hh_take 7 (some 60) (trnV tt) rfl rfl (by kernel_rfl) (by kernel_rfl) (by kernel_rfl) (fun _ _ _ h => h) rfl (fun _ _ => by rw [HTT.out]; unfold trnV cellsT; first | rfl | kernel_rfl | go_simp) ⟨HRX.out, HS4.out⟩ ?_
    simp only [Act.put, List.setIfInBounds_toArray, List.set_cons_zero, List.set_cons_succ]
    have HALLOC : Hid ((w4.drew.alloc (.cells (cellsT tt).toArray 78)).heap[w2.heap.size]? = some (.cells (txA X) 33 (0, 0)) ∧ (w4.drew.alloc (.cells (cellsT tt).toArray 78)).heap[w1.heap.size]? = some (.cells (setA S) 74 (0, 0)) ∧ (w4.drew.alloc (.cells (cellsT tt).toArray 78)).cell? ⟨p, 3, none⟩ = some (.slice sa c.under.length sc)) := Lib.hid (by
      have hb : Below w4.heap.size w4 (w4.drew.alloc (.cells (cellsT tt).toArray 78)) := ((Below.refl _ w4).drew).alloc (Nat.le_refl _) _
      exact ⟨(hb.block _ (lt_of_row' HRX.out)).trans HRX.out, (hb.block _ (lt_of_row' HS4.out)).trans HS4.out, cell_of_row _ _ _ _ _ _ ((hb.block _ (lt_of_row' HROW4.out)).trans HROW4.out)⟩)
    refine hh_two 4 8 (by kernel_rfl) rfl rfl rfl rfl (fun K hK => wp_runsh (some 57) rfl (ex_load 70 (.tmp 56) rfl _ _ rfl (run_load_tr _ _ _ _ _ _ (cell_of_row _ _ _ _ _ _ HROW4.out))) (hK _ _ ⟨HRX.out, HS4.out⟩ ?_)) (fun K hK => wp_runsh (some 61) rfl (ex_buildSlice 70 1 _ rfl [(0, trnV tt)] rfl _ (run_lit_tr _ _)) (hK _ _ ⟨HALLOC.out.1, HALLOC.out.2.1⟩ ?_))
    · clear hK K
      simp only [Act.put, List.setIfInBounds_toArray, List.set_cons_zero, List.set_cons_succ]
      refine hh_one 8 (by kernel_rfl) rfl rfl (fun K hK => wp_runsh (some 61) rfl (ex_buildSlice 70 1 _ rfl [(0, trnV tt)] rfl _ (run_lit_tr _ _)) (hK _ _ ⟨HALLOC.out.1, HALLOC.out.2.1⟩ ?_))
      clear hK K
      simp only [Act.put, List.setIfInBounds_toArray, List.set_cons_zero, List.set_cons_succ]
      refine hh_one 9 (by kernel_rfl) rfl rfl (fun K hK => wp_runsh (some 62) rfl (ex_append (.tmp 57) (.tmp 61) 70 70 rfl _ _ _ rfl rfl HAP.out) (hK _ _ ⟨HR5.out.1, HR5.out.2.1⟩ ?_))
      clear hK K
      simp only [Act.put, List.setIfInBounds_toArray, List.set_cons_zero, List.set_cons_succ]
      refine hh_take 10 (some 63) (.pointer (some ⟨p, 0, none⟩)) rfl rfl (by kernel_rfl) (by kernel_rfl) (by kernel_rfl) (fun _ _ _ h => h) rfl (fun _ _ => by first | rfl | kernel_rfl | go_simp) ⟨HR5.out.1, HR5.out.2.1⟩ ?_
      simp only [Act.put, List.setIfInBounds_toArray, List.set_cons_zero, List.set_cons_succ]
      refine hh_take 11 (some 64) (.pointer (some ⟨p, 3, none⟩)) rfl rfl (by kernel_rfl) (by kernel_rfl) (by kernel_rfl) (fun _ _ _ h => h) rfl (fun _ _ => by kernel_rfl) ⟨HR5.out.1, HR5.out.2.1⟩ ?_
      simp only [Act.put, List.setIfInBounds_toArray, List.set_cons_zero, List.set_cons_succ]
      refine hh_one 12 (by kernel_rfl) rfl rfl (fun K hK => wp_skipsh none rfl (ex_store 70 (.tmp 64) (.tmp 62) rfl _ _ rfl rfl (run_store_tr _ _ _ _ _ _ _ (cell_of_row _ _ _ _ _ _ HR5.out.2.2) ⟨_, _, _, rfl⟩ (frozen_of_row _ _ _ _ _ HR5.out.2.2))) (hK _ _ (by rw [HW6.out]; exact HR6.out) ?_))
      clear hK K
      simp only [Act.put]
      refine wpAnyH_done (by kernel_rfl) ?_ _
      rw [HW6.out]
      clear HAP HR5 HR6 HW6 HRX HS4 HROW4 HTT
      go_wp2_with (first
        | rw [HW7.out]
        | (refine wpList_load_row rfl 33 _ rfl w2.heap.size rfl 33 _ (0, 0) _ HR7.out Try.underlying33 rfl HIX.out ?_)
        | (refine wpList_store_row rfl 33 _ _ rfl w.heap.size _ rfl rfl 33 _ HRES7.out HIX.out rfl HZX.out ?_; rw [HW8.out]))
      exact bodyPost_ret (v := .tuple #[txV X, .int .i64 0]) (by have c0 : w8.cell? ⟨w.heap.size, 0, none⟩ = some (.int .i64 X.node) := cell_of_row _ _ _ _ _ _ HZ1.out; have c1 : w8.cell? ⟨w.heap.size, 1, none⟩ = some (.int .i64 X.boot) := cell_of_row _ _ _ _ _ _ HZ1.out; have c2 : w8.cell? ⟨w.heap.size, 2, none⟩ = some (.int .i64 X.n) := cell_of_row _ _ _ _ _ _ HZ1.out; simp [results, Try.results9, go_sem, c0, c1, c2, txV]) rfl HE.out
    · clear hK K
      simp only [Act.put, List.setIfInBounds_toArray, List.set_cons_zero, List.set_cons_succ]
      refine hh_one 4 (by kernel_rfl) rfl rfl (fun K hK => wp_runsh (some 57) rfl (ex_load 70 (.tmp 56) rfl _ _ rfl (run_load_tr _ _ _ _ _ _ (HALLOC.out.2.2))) (hK _ _ ⟨HALLOC.out.1, HALLOC.out.2.1⟩ ?_))
      clear hK K
      simp only [Act.put, List.setIfInBounds_toArray, List.set_cons_zero, List.set_cons_succ]
      refine hh_one 9 (by kernel_rfl) rfl rfl (fun K hK => wp_runsh (some 62) rfl (ex_append (.tmp 57) (.tmp 61) 70 70 rfl _ _ _ rfl rfl HAP.out) (hK _ _ ⟨HR5.out.1, HR5.out.2.1⟩ ?_))
      clear hK K
      simp only [Act.put, List.setIfInBounds_toArray, List.set_cons_zero, List.set_cons_succ]
      refine hh_take 10 (some 63) (.pointer (some ⟨p, 0, none⟩)) rfl rfl (by kernel_rfl) (by kernel_rfl) (by kernel_rfl) (fun _ _ _ h => h) rfl (fun _ _ => by first | rfl | kernel_rfl | go_simp) ⟨HR5.out.1, HR5.out.2.1⟩ ?_
      simp only [Act.put, List.setIfInBounds_toArray, List.set_cons_zero, List.set_cons_succ]
      refine hh_take 11 (some 64) (.pointer (some ⟨p, 3, none⟩)) rfl rfl (by kernel_rfl) (by kernel_rfl) (by kernel_rfl) (fun _ _ _ h => h) rfl (fun _ _ => by kernel_rfl) ⟨HR5.out.1, HR5.out.2.1⟩ ?_
      simp only [Act.put, List.setIfInBounds_toArray, List.set_cons_zero, List.set_cons_succ]
      refine hh_one 12 (by kernel_rfl) rfl rfl (fun K hK => wp_skipsh none rfl (ex_store 70 (.tmp 64) (.tmp 62) rfl _ _ rfl rfl (run_store_tr _ _ _ _ _ _ _ (cell_of_row _ _ _ _ _ _ HR5.out.2.2) ⟨_, _, _, rfl⟩ (frozen_of_row _ _ _ _ _ HR5.out.2.2))) (hK _ _ (by rw [HW6.out]; exact HR6.out) ?_))
      clear hK K
      simp only [Act.put]
      refine wpAnyH_done (by kernel_rfl) ?_ _
      rw [HW6.out]
      clear HAP HR5 HR6 HW6 HRX HS4 HROW4 HTT
      go_wp2_with (first
        | rw [HW7.out]
        | (refine wpList_load_row rfl 33 _ rfl w2.heap.size rfl 33 _ (0, 0) _ HR7.out Try.underlying33 rfl HIX.out ?_)
        | (refine wpList_store_row rfl 33 _ _ rfl w.heap.size _ rfl rfl 33 _ HRES7.out HIX.out rfl HZX.out ?_; rw [HW8.out]))
      exact bodyPost_ret (v := .tuple #[txV X, .int .i64 0]) (by have c0 : w8.cell? ⟨w.heap.size, 0, none⟩ = some (.int .i64 X.node) := cell_of_row _ _ _ _ _ _ HZ1.out; have c1 : w8.cell? ⟨w.heap.size, 1, none⟩ = some (.int .i64 X.boot) := cell_of_row _ _ _ _ _ _ HZ1.out; have c2 : w8.cell? ⟨w.heap.size, 2, none⟩ = some (.int .i64 X.n) := cell_of_row _ _ _ _ _ _ HZ1.out; simp [results, Try.results9, go_sem, c0, c1, c2, txV]) rfl HE.out
end Go.Proofs.Ytleghofpabdkhaa
