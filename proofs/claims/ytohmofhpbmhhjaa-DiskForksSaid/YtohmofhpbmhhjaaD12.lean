/- Disk: Read, walked. -/
import Derived.Test.YtohmofhpbmhhjaaD11
namespace Go.Proofs.Ytohmofhpbmhhjaa
open Go Go.RowKit Go.Shelf
attribute [local go_sem] Oper.semAt_some

/-- How a page reads. -/
def St.reads (s : St) (i : Nat) : List UInt8 := match s.waits.reverse.find? (fun x => x.1 == i) with
  | some x => x.2
  | none => s.sure.getD i []
/-- A page is told: new memory, nothing else turns. -/
def Told (p : List UInt8) (w : World) (e : Ending) (w' : World) : Prop := ∃ b, e = .returned (.tuple #[.slice (some ⟨b, 0, none⟩) 64 64, .int .i64 0]) ∧ w'.heap[b]? = some (.cells (pgC p).toArray 61 (0, 0)) ∧ w.heap.size ≤ b ∧ Below w.heap.size w w'

theorem backU_take (ws : List (Nat × List UInt8)) (hl : ∀ x ∈ ws, x.2.length = 64) (k : Nat) (hk : k ≤ ws.length) : (backU ws k).map (fun x => x.1.2) = ws.reverse.take k := by
  apply List.ext_getElem
  · simp [backU]; omega
  · intro j h1 h2
    have hj : j < k := by simpa [backU] using h1
    have hlt : ws.length - 1 - j < ws.length := by omega
    have hget : ws.getD (ws.length - 1 - j) (0, []) = ws[ws.length - 1 - j] := by simp [List.getD, hlt]
    simp only [backU, List.getElem_map, List.getElem_range, List.getElem_take, List.getElem_reverse]
    rw [hget, mkB_ok _ _ (hl _ (List.getElem_mem hlt))]
theorem reads_none (s : St) (i : Nat) (p : List UInt8) (hok : s.Ok) (hp : s.sure[i]? = some p) (h : ∀ x ∈ backU s.waits s.waits.length, x.1.2.1 ≠ i) : s.reads i = p := by
  have ht := backU_take s.waits (fun x hx => (hok.writes x hx).2) s.waits.length (Nat.le_refl _)
  rw [List.take_of_length_le (by simp)] at ht
  have hn : s.waits.reverse.find? (fun x => x.1 == i) = none := by
    rw [List.find?_eq_none]
    intro x hx
    rw [← ht] at hx
    obtain ⟨y, hy, rfl⟩ := List.mem_map.1 hx
    simpa using h y hy
  unfold St.reads
  rw [hn]
  simp [List.getD, hp]
theorem reads_some (s : St) (i k : Nat) (hok : s.Ok) (hk : k < s.waits.length) (a : List WrB) (x : WrB) (hb : backU s.waits (k + 1) = a ++ [x]) (h : ∀ y ∈ a, y.1.2.1 ≠ i) (hx : x.1.2.1 = i) : s.reads i = x.1.2.2 := by
  have ht := backU_take s.waits (fun x hx => (hok.writes x hx).2) (k + 1) (by omega)
  rw [hb, List.map_append] at ht
  have hn : s.waits.reverse.find? (fun x => x.1 == i) = some x.1.2 := by
    rw [← List.take_append_drop (k + 1) s.waits.reverse, ← ht, List.find?_append, List.find?_append]
    have h0 : (a.map (fun x => x.1.2)).find? (fun x => x.1 == i) = none := by
      rw [List.find?_eq_none]
      intro y hy
      obtain ⟨z, hz, rfl⟩ := List.mem_map.1 hy
      simpa using h z hz
    rw [h0]
    simp [hx]
  unfold St.reads
  rw [hn]

theorem rangeFunc_T {P : Program} {α : Type} {n : Nat} {g : Operand} {ps : Array Tmp} {assign body : Code} {Q : Exit → Act → World → Prop} {T : Array Value} {w : World}
    (h1 : 1 ≤ n) {gf : Nat} {lb : Array Value} (hg : ({ tmps := T, defers := [] } : Act).eval g = .func (.func gf) #[] lb) (eg : ∀ args w, (callFunc gf args).run P w = .ok (.enter gf args) w)
    {encs : α → Array Value} {S Sp : List α → Prop} {N : Nat} (hseq : SeqStopsK Fence.wide (n - 1) P gf lb encs (Below w.heap.size) S Sp N w) (hps : ∀ x, (encs x).size = ps.size)
    (I : List α → World → Prop) (Ix : Code → List α → World → Prop) (hI : OwnFrom w.heap.size I) (hIx : ∀ c, OwnFrom w.heap.size (Ix c)) (h0 : I [] w) (Ax : Array Value → α → Act → World → Prop) (hAx : ∀ x a', OwnFrom w.heap.size (fun (_ : Unit) W => Ax T x a' W))
    (hassign : ∀ (l : Nat) (pre : List α) (x : α) (W : World) (K : Act → World → Prop), I pre W → (∀ a' W', KeepsFrom w.heap.size W W' → Below w.heap.size W W' → I pre W' → Ax T x a' W' → K a' W') →
      assign.wpIn (Fence.wide.inRound l) (n - 1 - 1) P (Exit.then K (fun _ _ _ => False)) { tmps := (ps.zip (encs x)).foldl (fun t (p, v) => t.setIfInBounds p v) T, defers := [] } W)
    (hbody : ∀ (l : Nat) (pre : List α) (x : α) (a' : Act) (W : World), w.heap.size ≤ l → (∃ r, W.heap[l]? = some (.loop r)) → I pre W → Ax T x a' W → pre.length < N → body.wpIn (Fence.wide.inRound l) (n - 1 - 1) P (ownPostG w.heap.size (Below w.heap.size) I Ix (pre ++ [x]) W) a' W)
    (hdone : ∀ (D : Nat) (xs : List α) (W : World), w.heap.size ≤ D → S xs → I xs W → W.heap[D]? = some (.deferred (some [])) → Q .normal { tmps := T, defers := { target := .collected D, args := #[] } :: [] } W)
    (hstop : ∀ (D : Nat) (c : Code) (pre : List α) (W : World), w.heap.size ≤ D → Sp pre → Ix c pre W → W.heap[D]? = some (.deferred (some [])) → c.wpIn Fence.wide n P Q { tmps := T, defers := { target := .collected D, args := #[] } :: [] } W) :
    (Code.rangeFunc g ps assign body).wp P Q { tmps := T, defers := [] } w :=
  wpIn_wide.1 (wpIn_rangeFunc_ownH rfl h1 hg trivial eg hseq belowK_t (belowK_b (Nat.le_refl _)) (Below.refl _ _) hps I Ix hI hIx h0 (Ax T) hAx hassign hbody hdone hstop)
theorem heap_own {W W' : World} {row : Option Nat} {B k : Nat} {cs : Array Value} {t : TypeId} (h : W.heap[k]? = some (.cells cs t (0, 0))) (hg : W.grownBy W' row) (hr : ∀ r, row = some r → B ≤ r ∧ ∃ o : Obj, W.heap[r]? = some o ∧ o.isCells = false) : W'.heap[k]? = some (.cells cs t (0, 0)) :=
  (hg.block k (Array.getElem?_eq_some_iff.1 h).1 (fun e => by
    obtain ⟨_, o, ho, hc⟩ := hr k e.symm
    rw [h] at ho
    cases ho
    cases hc)).trans h
theorem zip_two (T : Array Value) (p q : Nat) (a b : Value) : Array.foldl (fun (t : Array Value) (x : Nat × Value) => match x with | (p, v) => t.setIfInBounds p v) T (#[p, q].zip #[a, b]) = (T.setIfInBounds p a).setIfInBounds q b := by
  simp [← Array.foldl_toList]
/-- Between two rounds. -/
structure RdI (w : World) (B Pb Bi i : Nat) (p : List UInt8) (W : World) : Prop where
  page : W.heap[Pb]? = some (.cells (pgC p).toArray 61 (0, 0))
  box : W.heap[Bi]? = some (.cells #[.int .i64 (i : Int)] 3 (0, 0))
  bel : Below w.heap.size w W
  len : p.length = 64
  big : B ≤ W.heap.size
theorem RdI.own {w W W' : World} {row : Option Nat} {B Pb Bi i : Nat} {p : List UInt8} (h : RdI w B Pb Bi i p W) (hB : w.heap.size ≤ B) (hg : W.grownBy W' row) (hr : ∀ r, row = some r → B ≤ r ∧ ∃ o : Obj, W.heap[r]? = some o ∧ o.isCells = false) : RdI w B Pb Bi i p W' :=
  ⟨heap_own h.page hg hr, heap_own h.box hg hr, h.bel.grown hg h.bel.size (fun k e => by have := (hr k e).1; omega), h.len, Nat.le_trans h.big hg.size⟩

set_option maxRecDepth 100000 in
set_option maxHeartbeats 4000000 in
theorem read_run {O : Nat → Prop} {w : World} {D S c : Nat} {wv : Value} {s : St} (h : Dsk O w D S c wv s) (hd : s.down = false) (i : Nat) (hi : i < s.sure.length) :
    Calls Try.prog 15 #[.pointer (some ⟨D, 0, none⟩), .int .i64 (i : Int)] w (Told (s.reads i) w) := by
  have hp0 : s.sure[i]? = some s.sure[i] := List.getElem?_eq_getElem hi
  have hpl : (pgC s.sure[i]).length = 64 := by rw [pgC_len]; exact h.ok.pages _ (List.getElem_mem hi)
  have hz := fun w => (zero_of_info (P := Try.prog) zeroP_info).1 w
  have hsz := (zero_of_info (P := Try.prog) zeroP_info).2
  have hZs : (Array.replicate 64 (Value.int .u8 0)).size = 64 := by simp
  generalize Array.replicate 64 (Value.int .u8 0) = Z at *
  -- the parameter's box
  obtain ⟨w1, hw1⟩ : ∃ w1, w.alloc (.cells #[.int .i64 (i : Int)] 3) = w1 := ⟨_, rfl⟩
  have hb1 : Below w.heap.size w w1 := by rw [← hw1]; exact (Below.refl _ w).alloc (Nat.le_refl _) _
  have hbox : w1.heap[w.heap.size]? = some (.cells #[.int .i64 (i : Int)] 3) := by rw [← hw1]; exact heap_alloc_last w _
  have hsz1 : w1.heap.size = w.heap.size + 1 := by rw [← hw1]; simp
  have h1 := h.below hb1
  have cb : w1.cell? ⟨w.heap.size, 0, none⟩ = some (.int .i64 (i : Int)) := by rw [cell_of_row _ _ _ _ _ _ hbox]; rfl
  have hh := has_yes w1 D S c _ (i : Int) h1.c0 (by omega) (by omega)
  have c3 := h1.c3
  rw [hd] at c3
  -- the region's facts
  have hl55 : ∀ W, Below w1.heap.size w1 W → (Instr.loadAt 55 (.pointer (some ⟨D, 0, none⟩))).run Try.prog W = .ok (.slice (some ⟨S, 0, none⟩) s.sure.length c) W := fun W hW => by
    have hc := (hW.cell (p := ⟨D, 0, none⟩) (h1.lt D h1.memD)).trans h1.c0
    clear hw1 hb1 hbox h h1 hh hp0
    go_simp
  have hl3 : ∀ W, Below w1.heap.size w1 W → (Instr.loadAt 3 (.pointer (some ⟨w.heap.size, 0, none⟩))).run Try.prog W = .ok (.int .i64 (i : Int)) W := fun W hW => by
    have hc := (hW.cell (p := ⟨w.heap.size, 0, none⟩) (show w.heap.size < w1.heap.size by omega)).trans cb
    clear hw1 hb1 hbox h h1 hh hp0
    go_simp
  have hidx : ∀ w, (Instr.indexAt 55 (.slice (some ⟨S, 0, none⟩) s.sure.length c) (.int .i64 (i : Int))).run Try.prog w = .ok (.pointer (some ⟨S, i * 64, none⟩)) w := by
    intro W
    have i1 : (0 : Int) ≤ (i : Int) := by omega
    have i2 : (i : Int) < (s.sure.length : Int) := by omega
    clear hw1 hb1 hbox h h1 hh hp0 hpl
    generalize s.sure.length = N at *
    go_simp
  have hl61 : ∀ W, Below w1.heap.size w1 W → (Instr.loadAt 61 (.pointer (some ⟨S, i * 64, none⟩))).run Try.prog W = .ok (.agg (pgC s.sure[i]).toArray) W := fun W hW =>
    run_loadAt_mid W S (i * 64) 61 _ _ ((h1.below hW).pageAt i _ hp0) Try.underlying61 rfl (by rw [hsz, hpl])
  have hb0 : Below w1.heap.size w1 w1.drew := (Below.refl _ _).drew
  have hbA := hb0.alloc (Nat.le_refl _) (.cells Z 61)
  have hbC := hb0.alloc (Nat.le_refl _) (.cells (pgC s.sure[i]).toArray 61)
  have hst : (Instr.storeAt 61 (.pointer (some ⟨w1.heap.size, 0, none⟩)) (.agg (pgC s.sure[i]).toArray)).run Try.prog (w1.drew.alloc (.cells Z 61)) = .ok () (w1.drew.alloc (.cells (pgC s.sure[i]).toArray 61)) :=
    run_storeAt_fresh w1.drew 61 Z _ (by rw [hsz, List.size_toArray, hpl]) (by rw [hZs, List.size_toArray, hpl]) (all_oneCell_toArray pgC_cell)
  -- the world at the loop
  have h2 := h1.below hbC
  have hpb : (w1.drew.alloc (.cells (pgC s.sure[i]).toArray 61)).heap[w1.heap.size]? = some (.cells (pgC s.sure[i]).toArray 61) := heap_alloc_last w1.drew _
  have hbx2 := (hbC.block w.heap.size (by omega)).trans hbox
  have hsz2 : (w1.drew.alloc (.cells (pgC s.sure[i]).toArray 61)).heap.size = w1.heap.size + 1 := by simp
  have hbw2 : Below w.heap.size w (w1.drew.alloc (.cells (pgC s.sure[i]).toArray 61)) := hb1.trans (hbC.mono (by omega))
  obtain ⟨wa, wc, rfl, hwc⟩ := h.wshape
  have hreads : ∃ R, s.reads i = R := ⟨_, rfl⟩
  obtain ⟨R, hRR⟩ := hreads
  have HRR := Lib.hid hRR
  have HP0 := Lib.hid hp0
  rw [hRR]
  clear hRR hp0
  generalize s.sure[i] = p at *
  have L55 := Lib.hid hl55
  have L3 := Lib.hid hl3
  have L61 := Lib.hid hl61
  have IDX := Lib.hid hidx
  have ST := Lib.hid hst
  have BA := Lib.hid hbA
  have BC := Lib.hid hbC
  have HZ := Lib.hid hz
  have H2 := Lib.hid h2
  have HPB := Lib.hid hpb
  have HBX := Lib.hid hbx2
  have HSZ2 := Lib.hid hsz2
  have HBW := Lib.hid hbw2
  have HSZ1 := Lib.hid hsz1
  have HH := Lib.hid hh
  have HPL := Lib.hid hpl
  have HSZ := Lib.hid hsz
  clear hl55 hl3 hl61 hidx hst hbA hbC hz h2 hpb hbx2 hsz2 hbw2 hsz1 hh hpl hsz h1 h hb1 hbox hZs
  refine (callsIn_wide (n := 6)).1 ?_
  refine callsIn_of_wp_marks Try.func15 rfl trivial ?_ rfl
  simp only [Try.ntmps15, List.size_toArray, List.length_cons, List.length_nil, Nat.reduceAdd, Nat.reduceSub, Array.replicate_succ, Array.replicate_zero, List.push_toArray, List.append_toArray, List.nil_append, List.cons_append]
  refine wpIn_wide.2 ?_
  go_wp2_with fail
  refine HH.out.mono ?_
  rintro e w' ⟨rfl, rfl⟩
  clear hw1
  go_wp2_with fail
  refine wp_region_noPanic ?_
  refine wp_region_held_drew (S := Below w1.heap.size w1) (by kernel_rfl) hb0 (fun hS0' => ?_)
  have hS0 := Lib.hid hS0'
  clear hS0' hb0
  refine anyH_take 0 (some 22) (.pointer (some ⟨D, 0, none⟩)) rfl rfl (by kernel_rfl) (by kernel_rfl) (by kernel_rfl) (fun _ _ _ h => h) rfl (fun w _ => rfl) hS0.out ?_
  simp only [Act.put, List.setIfInBounds_toArray, List.set_cons_zero, List.set_cons_succ]
  refine anyH_take 1 (some 23) (.pointer (some ⟨D, 0, none⟩)) rfl rfl (by kernel_rfl) (by kernel_rfl) (by kernel_rfl) (fun _ _ _ h => h) rfl (fun w _ => rfl) hS0.out ?_
  simp only [Act.put, List.setIfInBounds_toArray, List.set_cons_zero, List.set_cons_succ]
  refine anyH_take 2 (some 24) (.pointer (some ⟨D, 0, none⟩)) rfl rfl (by kernel_rfl) (by kernel_rfl) (by kernel_rfl) (fun _ _ _ h => h) rfl (fun w _ => by kernel_rfl) hS0.out ?_
  simp only [Act.put, List.setIfInBounds_toArray, List.set_cons_zero, List.set_cons_succ]
  refine anyH_take 3 (some 25) (.slice (some ⟨S, 0, none⟩) s.sure.length c) rfl rfl (by kernel_rfl) (by kernel_rfl) (by kernel_rfl) (fun _ _ _ h => h) rfl (fun w hw => ex_load 55 (.tmp 24) rfl _ _ rfl (L55.out w hw)) hS0.out ?_
  simp only [Act.put, List.setIfInBounds_toArray, List.set_cons_zero, List.set_cons_succ]
  refine anyH_take 4 (some 26) (.int .i64 (i : Int)) rfl rfl (by kernel_rfl) (by kernel_rfl) (by kernel_rfl) (fun _ _ _ h => h) rfl (fun w hw => ex_load 3 (.tmp 3) rfl _ _ rfl (L3.out w hw)) hS0.out ?_
  simp only [Act.put, List.setIfInBounds_toArray, List.set_cons_zero, List.set_cons_succ]
  refine anyH_take 5 (some 27) (.pointer (some ⟨S, i * 64, none⟩)) rfl rfl (by kernel_rfl) (by kernel_rfl) (by kernel_rfl) (fun _ _ _ h => h) rfl (fun w hw => ex_index 55 (.tmp 25) (.tmp 26) rfl _ _ _ rfl rfl (IDX.out w)) hS0.out ?_
  simp only [Act.put, List.setIfInBounds_toArray, List.set_cons_zero, List.set_cons_succ]
  refine anyH_take 6 (some 28) (.agg (pgC p).toArray) rfl rfl (by kernel_rfl) (by kernel_rfl) (by kernel_rfl) (fun _ _ _ h => h) rfl (fun w hw => ex_load 61 (.tmp 27) rfl _ _ rfl (L61.out w hw)) hS0.out ?_
  simp only [Act.put, List.setIfInBounds_toArray, List.set_cons_zero, List.set_cons_succ]
  refine anyH_one 7 (by kernel_rfl) rfl rfl (fun K hK => ?_)
  refine wp_runs (some 6) rfl (ex_alloc 61 rfl Z (HZ.out _)) (hK _ _ BA.out ?_)
  clear hK K
  simp only [Act.put, List.setIfInBounds_toArray, List.set_cons_zero, List.set_cons_succ]
  refine anyH_one 8 (by kernel_rfl) rfl rfl (fun K hK => ?_)
  refine wp_skips none rfl (ex_store 61 (.tmp 6) (.tmp 28) rfl _ _ rfl rfl ST.out) (hK _ _ BC.out ?_)
  clear hK K
  simp only [Act.put]
  refine wpAnyH_done (by kernel_rfl) ?_ _
  refine NoPanic.normal ?_
  have c1 := H2.out.c1
  clear L55 L3 L61 IDX ST BA BC HZ HH hS0
  generalize w1.drew.alloc (.cells (pgC p).toArray 61) = w2 at *
  go_wp2_with fail
  refine (backward_any _ _ _ _).mono ?_
  rintro e w3 ⟨rfl, rfl⟩
  go_wp2_with fail
  have hbs : Below w2.heap.size w2 (w2.alloc (.cells #[.slice wa s.waits.length wc] 56)) := (Below.refl _ w2).alloc (Nat.le_refl _) _
  have hcs : (w2.alloc (.cells #[.slice wa s.waits.length wc] 56)).cell? ⟨w2.heap.size, 0, none⟩ = some (.slice wa s.waits.length wc) := by rw [cell_of_row _ _ _ _ _ _ (heap_alloc_last w2 _)]; rfl
  have hs3 : (w2.alloc (.cells #[.slice wa s.waits.length wc] 56)).heap.size = w2.heap.size + 1 := by simp
  have h3 := H2.out.below hbs
  have hi3 : RdI w w2.heap.size w1.heap.size w.heap.size i p (w2.alloc (.cells #[.slice wa s.waits.length wc] 56)) := by
    have e1 := HSZ1.out
    have e2 := HSZ2.out
    have e3 := HPL.out
    rw [pgC_len] at e3
    exact ⟨(hbs.block _ (by omega)).trans HPB.out, (hbs.block _ (by omega)).trans HBX.out, HBW.out.trans (hbs.mono HBW.out.size), e3, hbs.size⟩
  generalize w2.alloc (.cells #[.slice wa s.waits.length wc] 56) = w3 at *
  have hst := back_stops 5 (by decide) h3 w2.heap.size w3.heap.size w3 (Below.refl _ _) hcs (by omega) (Nat.le_refl _) (Nat.le_refl _)
  have hss : w.heap.size + 3 ≤ w3.heap.size := by have e1 := HSZ1.out; have e2 := HSZ2.out; omega
  have hok := h3.ok
  have HOK := Lib.hid hok
  clear c1 hcs hbs h3 hok
  refine rangeFunc_T (n := 6) (gf := 38) (lb := #[.pointer (some ⟨w2.heap.size, 0, none⟩)]) (by decide) rfl (enters_of Try.func38 (by kernel_rfl) rfl) hst (fun _ => rfl)
    (fun pre W => (∀ x ∈ pre, x.1.2.1 ≠ i) ∧ RdI w w3.heap.size w1.heap.size w.heap.size i p W)
    (fun c pre W => c = .exit 1 ∧ (∃ a x, pre = a ++ [x] ∧ (∀ y ∈ a, y.1.2.1 ≠ i) ∧ x.1.2.1 = i ∧ RdI w w3.heap.size w1.heap.size w.heap.size i x.1.2.2 W))
    (fun s A B row hs hg hr => ⟨hs.1, hs.2.own (by omega) hg hr⟩)
    (fun c s A B row hs hg hr => by obtain ⟨h1, a, x, h2, h3, h4, h5⟩ := hs; exact ⟨h1, a, x, h2, h3, h4, h5.own (by omega) hg hr⟩)
    ⟨(fun x hx => by simp at hx), hi3.page, hi3.box, hi3.bel, hi3.len, Nat.le_refl _⟩
    (fun T x a' W => ∃ Bx, w3.heap.size ≤ Bx ∧ W.heap[Bx]? = some (.cells (wrC x.1.2).toArray 63 (0, 0)) ∧ a' = { tmps := ((T.setIfInBounds 34 (.int .i64 (x.1.1 : Int))).setIfInBounds 35 (.agg (wrC x.1.2).toArray)).setIfInBounds 8 (.pointer (some ⟨Bx, 0, none⟩)), defers := [] })
    (fun x a' _ X Y row hs hg hr => by obtain ⟨Bx, h1, h2, h3⟩ := hs; exact ⟨Bx, h1, heap_own h2 hg hr, h3⟩)
    ?assign ?body ?done ?stop
  case assign =>
    rintro l pre x W K ⟨hn, hI⟩ hK
    have hB := (Below.refl w3.heap.size W).alloc hI.big (.cells (wrC x.1.2).toArray 63)
    have hI' : RdI w w3.heap.size w1.heap.size w.heap.size i p (W.alloc (.cells (wrC x.1.2).toArray 63)) := ⟨(Below.heap_alloc W _ _ (Array.getElem?_eq_some_iff.1 hI.page).1).trans hI.page, (Below.heap_alloc W _ _ (Array.getElem?_eq_some_iff.1 hI.box).1).trans hI.box, hI.bel.alloc hI.bel.size _, hI.len, by have := hI.big; simp; omega⟩
    have hfin := hK _ _ ((KeepsOthers.alloc _ _).from _) hB ⟨hn, hI'⟩ ⟨W.heap.size, hI.big, heap_alloc_last W _, rfl⟩
    have hz63 := (zero_of_info (P := Try.prog) (t := 63) (v := .agg (zeroW 0).toArray) (n := 65) (by kernel_rfl)).1 W
    have hs63 := (zero_of_info (P := Try.prog) (t := 63) (v := .agg (zeroW 0).toArray) (n := 65) (by kernel_rfl)).2
    have hxl : (wrC x.1.2).length = 65 := by rw [wrC_len, x.2]
    have hst2 := run_storeAt_fresh (P := Try.prog) W 63 (zeroW 0).toArray (wrC x.1.2).toArray (by rw [hs63, List.size_toArray, hxl]) (by rw [List.size_toArray, List.size_toArray, zeroW_len, hxl]) (all_oneCell_toArray wrC_cell)
    have FIN := Lib.hid hfin
    have HZ63 := Lib.hid hz63
    have ST63 := Lib.hid hst2
    clear hfin hz63 hs63 hst2 hI' hB hI hK hxl
    unfold encB
    refine wpIn_region_lit ?_
    rw [zip_two]
    simp only [List.setIfInBounds_toArray, List.set_cons_zero, List.set_cons_succ]
    refine wpListIn_runs (fun _ => trivial) (some 8) rfl rfl (fun _ h => by cases h) (ex_alloc 63 rfl _ HZ63.out) ?_
    simp only [Act.put, List.setIfInBounds_toArray, List.set_cons_zero, List.set_cons_succ]
    refine wpListIn_skips (fun _ => trivial) none rfl rfl (fun _ h => by cases h) (ex_store 63 (.tmp 8) (.tmp 35) rfl _ _ rfl rfl ST63.out) ?_
    simp only [Act.put]
    refine wpListIn_nil ?_
    exact FIN.out
  case body =>
    rintro l pre x a' W hl ⟨r, hr⟩ ⟨hn, hI⟩ ⟨Bx, hBx, hbx, rfl⟩ hlen
    have cx : W.cell? ⟨Bx, 0, none⟩ = some (.int .i64 (x.1.2.1 : Int)) := by rw [cell_of_row _ _ _ _ _ _ hbx]; rfl
    have ci : W.cell? ⟨w.heap.size, 0, none⟩ = some (.int .i64 (i : Int)) := by rw [cell_of_row _ _ _ _ _ _ hI.box]; rfl
    have hpl : (pgC x.1.2.2).length = 64 := by rw [pgC_len, x.2]
    have hl61 : (Instr.loadAt 61 (.pointer (some ⟨Bx, 1, none⟩))).run Try.prog W = .ok (.agg (pgC x.1.2.2).toArray) W :=
      run_loadAt_mid W Bx 1 61 (pgC x.1.2.2) _ (fun j v hj => by
        rw [cell_of_row W _ _ _ _ _ hbx]
        simpa [wrC, Nat.add_comm 1] using hj) Try.underlying61 rfl (by rw [HSZ.out, hpl])
    have hrow := run_storeVar_row (P := Try.prog) W w1.heap.size 61 61 _ (pgC x.1.2.2).toArray hI.page (by rw [HSZ.out, List.size_toArray, hpl]) (by rw [List.size_toArray, List.size_toArray, hpl, pgC_len, hI.len]) (all_oneCell_toArray pgC_cell)
    have hst : (Instr.storeAt 61 (.pointer (some ⟨w1.heap.size, 0, none⟩)) (.agg (pgC x.1.2.2).toArray)).run Try.prog W = .ok () (W.setRow w1.heap.size (pgC x.1.2.2).toArray) := by
      simp only [Instr.storeAt, Instr.sureAddr, Sem.run_bind, Sem.run_pure, Result.andThen_ok, hrow]
    have hbel : Below w.heap.size w (W.setRow w1.heap.size (pgC x.1.2.2).toArray) := hI.bel.trans ⟨rfl, rfl, rfl, by simp, fun k hk => setRow_other W _ k _ (by have := HSZ1.out; omega)⟩
    have hX : RdI w w3.heap.size w1.heap.size w.heap.size i x.1.2.2 (W.setRow w1.heap.size (pgC x.1.2.2).toArray) := ⟨setRow_heap W _ _ _ _ _ hI.page, (setRow_other W _ _ _ (by have := HSZ1.out; omega)).trans hI.box, hbel, x.2, by simpa using hI.big⟩
    have hKF : KeepsFrom w3.heap.size W (W.setRow w1.heap.size (pgC x.1.2.2).toArray) := ⟨by simp, fun k o _ hk hc => by
      by_cases e : k = w1.heap.size
      · subst e
        rw [hI.page] at hk
        cases hk
        cases hc
      · exact (setRow_other W _ _ _ e).trans hk⟩
    have HX := Lib.hid hX
    have HKF := Lib.hid hKF
    have L61 := Lib.hid hl61
    have ST := Lib.hid hst
    have HI := Lib.hid hI
    have HN := Lib.hid hn
    clear hX hKF hl61 hst hbel hrow hpl hI hn hbx hr hlen
    simp only [List.setIfInBounds_toArray, List.set_cons_zero, List.set_cons_succ]
    by_cases hx : x.1.2.1 = i
    · have hxe : ((x.1.2.1 : Int) == (i : Int)) = true := by rw [beq_iff_eq]; omega
      have HXE := Lib.hid hx
      clear hx
      gi_wp2_with (first
        | (refine wpListIn_runs (fun _ => trivial) (some 41) rfl rfl (fun _ h => by cases h) (ex_load 61 (.tmp 40) rfl _ _ rfl L61.out) ?_)
        | (refine wpListIn_skips (fun _ => trivial) none rfl rfl (fun _ h => by cases h) (ex_store 61 (.tmp 6) (.tmp 41) rfl _ _ rfl rfl ST.out) ?_))
      exact ⟨HKF.out, rfl, pre, x, rfl, HN.out, HXE.out, HX.out⟩
    · have hxe : ((x.1.2.1 : Int) == (i : Int)) = false := by rw [beq_eq_false_iff_ne]; omega
      have HXE := Lib.hid hx
      clear hx
      gi_wp2
      refine ⟨KeepsFrom.refl _ _, Below.refl _ _, ?_, HI.out⟩
      intro y hy
      rcases List.mem_append.1 hy with h0 | h0
      · exact HN.out y h0
      · rw [List.mem_singleton] at h0; subst h0; exact HXE.out
  case done =>
    rintro D' xs W hD rfl ⟨hn, hI⟩ hK
    have hR := reads_none s i p HOK.out HP0.out hn
    rw [HRR.out] at hR
    have hfin : Told R w (.returned (.tuple #[.slice (some ⟨w1.heap.size, 0, none⟩) 64 64, .int .i64 0])) (W.putObj D' (.deferred none)) := ⟨w1.heap.size, rfl, by rw [hR]; exact (World.putObj_heap_other (by have := HSZ2.out; have := hs3; omega)).trans hI.page, by have := HSZ1.out; omega, hI.bel.trans (belowK_b (w := w) (Nat.le_refl _) W D' _ _ (by omega) hK rfl rfl)⟩
    have FIN := Lib.hid hfin
    clear hfin hR hn hI
    go_wp2
    refine ⟨by simp, .inl ⟨_, _, rfl, run_takeDeferred hK, ?_⟩⟩
    exact ⟨.tuple #[.slice (some ⟨w1.heap.size, 0, none⟩) 64 64, .int .i64 0], by simp [results, Try.results15, go_sem], FIN.out⟩
  case stop =>
    rintro D' c' pre W hD ⟨k, hk, rfl⟩ ⟨rfl, a, x, h2, h3, h4, h5⟩ hK
    have hR := reads_some s i k HOK.out hk a x h2 h3 h4
    rw [HRR.out] at hR
    have hfin : Told R w (.returned (.tuple #[.slice (some ⟨w1.heap.size, 0, none⟩) 64 64, .int .i64 0])) (W.putObj D' (.deferred none)) := ⟨w1.heap.size, rfl, by rw [hR]; exact (World.putObj_heap_other (by have := HSZ2.out; have := hs3; omega)).trans h5.page, by have := HSZ1.out; omega, h5.bel.trans (belowK_b (w := w) (Nat.le_refl _) W D' _ _ (by omega) hK rfl rfl)⟩
    have FIN := Lib.hid hfin
    clear hfin hR h2 h3 h4 h5
    refine wpIn_wide.2 ?_
    go_wp2
    refine ⟨by simp, .inl ⟨_, _, rfl, run_takeDeferred hK, ?_⟩⟩
    exact ⟨.tuple #[.slice (some ⟨w1.heap.size, 0, none⟩) 64 64, .int .i64 0], by simp [results, Try.results15, go_sem], FIN.out⟩
end Go.Proofs.Ytohmofhpbmhhjaa
