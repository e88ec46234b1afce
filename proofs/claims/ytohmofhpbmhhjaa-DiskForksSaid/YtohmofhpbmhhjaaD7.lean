/- Disk: Flush. -/
import Derived.Test.YtohmofhpbmhhjaaD6
import Derived.StillTailTactics
namespace Go.Proofs.Ytohmofhpbmhhjaa
open Go Go.RowKit

section
variable {P : Program} {ops : Array Oper} {w : World} {Q : Act → Prop}
theorem still_runs {o : Oper} {a : Act} {rest : List Oper} (d : Option Tmp) (hd : o.dst = d) (hg : o.guard = none) {v : Value} (hr : (execOp a.eval o).run P w = .ok (.value v) w) (h : wpStill P ops w Q rest (a.put d v)) : wpStill P ops w Q (o :: rest) a := by
  subst hd
  unfold wpStill
  rw [if_pos (by simp [Region.wanted, hg])]
  unfold Oper.still
  rw [hr, Oper.stillUpon_value]
  exact h
theorem wpList_runs {ops : Array Oper} {rest : List Oper} {o : Oper} {a : Act} {w w' : World} {Q : Exit → Act → World → Prop} (d : Option Tmp) (hd : o.dst = d) (hg : o.guard = none) {v : Value} (hr : (execOp a.eval o).run P w = .ok (.value v) w')
    (h : wpList P ops Q rest (a.put d v) w') : wpList P ops Q (o :: rest) a w :=
  wpList_plain hg fun K hK => wp_runs d hd hr (hK _ _ h)
theorem wpList_skips {ops : Array Oper} {rest : List Oper} {o : Oper} {a : Act} {w w' : World} {Q : Exit → Act → World → Prop} (d : Option Tmp) (hd : o.dst = d) (hg : o.guard = none) (hr : (execOp a.eval o).run P w = .ok .skip w')
    (h : wpList P ops Q rest (a.put d undef) w') : wpList P ops Q (o :: rest) a w :=
  wpList_plain hg fun K hK => wp_skips d hd hr (hK _ _ h)
end

section
variable {O : Nat → Prop} {w : World} {D S c : Nat} {wv : Value} {s : St}
theorem pages64 (h : s.Ok) : ∀ x ∈ s.sure, (pgC x).length = 64 := fun x hx => by rw [pgC_len]; exact h.pages x hx
theorem writes65 (h : s.Ok) : ∀ x ∈ s.waits, (wrC x).length = 65 := fun x hx => by rw [wrC_len, (h.writes x hx).2]
/-- A page is made sure. -/
theorem Dsk.page (h : Dsk O w D S c wv s) (i : Nat) (hi : i < s.sure.length) (p : List UInt8) (hp : p.length = 64) :
    Dsk O (w.setCells S (i * 64) (pgC p)) D S c wv { s with sure := s.sure.set i p } ∧ Fr O w (w.setCells S (i * 64) (pgC p)) := by
  have hfr : Fr (· = S) w (w.setCells S (i * 64) (pgC p)) := (Fr.refl (· = S) w).setCells S (i * 64) (Or.inl rfl) (pgC p)
  have hb : ∀ k, O k → k ≠ S → (w.setCells S (i * 64) (pgC p)).heap[k]? = w.heap[k]? := fun k hk hn => hfr.block k (h.lt k hk) hn
  have hpl : (pgC p).length = 64 := by rw [pgC_len, hp]
  refine ⟨⟨⟨fun q hq => ?_, fun x hx => ?_, ?_, ?_, h.ok.cut, h.ok.wn, h.ok.an⟩, ?_, ?_, ?_, h.memD, h.memS, h.memW, fun k hk => Nat.lt_of_lt_of_le (h.lt k hk) hfr.size⟩, hfr.mono (fun k _ e => by subst e; exact h.memS.1)⟩
  · rcases List.mem_or_eq_of_mem_set hq with h0 | h0
    · exact h.ok.pages q h0
    · rw [h0]; exact hp
  · have := h.ok.writes x hx
    simpa using this
  · simpa using h.ok.some
  · simpa using h.ok.few
  · simp only [List.length_set]
    exact (hb D h.memD (Ne.symm h.memS.2)).trans h.blk
  · simp only [List.length_set]
    have := owns_set h.sure (i * 64) (pgC p) (by rw [hpl]; have := Nat.mul_le_mul_right 64 (show i + 1 ≤ s.sure.length by omega); omega)
    rwa [flat_set pgC 64 s.sure i (pages64 h.ok) p hpl hi] at this
  · exact owns_frame h.waits (fun k hk => hb k (h.memW k hk).1 (h.memW k hk).2.2)
theorem Dsk.there (h : Dsk O w D S c wv s) (i : Nat) (hi : i < s.sure.length) : w.there S (i * 64) 64 := owns_there h.sure _ _ (by have := Nat.mul_le_mul_right 64 (show i + 1 ≤ s.sure.length by omega); omega)
theorem Dsk.pageAt (h : Dsk O w D S c wv s) (i : Nat) (p : List UInt8) (hi : s.sure[i]? = some p) : w.rangeAt S (i * 64) (pgC p) :=
  owns_range h.sure _ _ (fun j v hj => flat_at pgC 64 s.sure i (pages64 h.ok) p hi j v hj)
theorem Dsk.writeAt (h : Dsk O w D S c wv s) (i : Nat) (x : Nat × List UInt8) (hi : s.waits[i]? = some x) : ∃ g k, wv = .slice (some ⟨g, 0, none⟩) s.waits.length k ∧ w.rangeAt g (i * 65) (wrC x) ∧ O g ∧ g ≠ D ∧ g ≠ S := by
  have hlt := (List.getElem?_eq_some_iff.1 hi).1
  have hown := h.waits
  rcases hown.2 with ⟨_, h0⟩ | ⟨g, cap, cur, rfl, _⟩
  · omega
  · exact ⟨g, cap, rfl, owns_range hown _ _ (fun j v hj => flat_at wrC 65 s.waits i (writes65 h.ok) x hi j v hj), h.memW g rfl⟩
end
theorem Dsk.emptied {O : Nat → Prop} {w : World} {D S c : Nat} {wv : Value} {s : St} (h : Dsk O w D S c wv s) : Dsk O (w.setCell ⟨D, 1, none⟩ (.slice none 0 0)) D S c (.slice none 0 0) { s with waits := [] } ∧ Fr O w (w.setCell ⟨D, 1, none⟩ (.slice none 0 0)) := by
  have hfr : Fr (· = D) w (w.setCell ⟨D, 1, none⟩ (.slice none 0 0)) := (Fr.refl (· = D) w).setCell ⟨D, 1, none⟩ (Or.inl rfl) _
  refine ⟨⟨⟨h.ok.pages, (fun x hx => by simp at hx), h.ok.some, h.ok.few, h.ok.cut, by simp, h.ok.an⟩, ?_, owns_frame h.sure (fun k hk => by cases hk; exact hfr.block S (h.lt S h.memS.1) h.memS.2), World.ownsRow_nil .., h.memD, h.memS, (fun g hg => by simp [Value.ownBlock] at hg), fun k hk => Nat.lt_of_lt_of_le (h.lt k hk) hfr.size⟩, hfr.mono (fun k _ e => by subst e; exact h.memD)⟩
  rw [heap_setCell_same w D 1 _ _ _ h.blk]
  rfl
/-- What is sure behind writes. -/
def laid (l : List (List UInt8)) (ws : List (Nat × List UInt8)) : List (List UInt8) := ws.foldl (fun l x => l.set x.1 x.2) l
theorem laid_len (ws : List (Nat × List UInt8)) : ∀ l, (laid l ws).length = l.length := by
  induction ws with
  | nil => intro l; rfl
  | cons x t ih => intro l; show (laid (l.set x.1 x.2) t).length = _; rw [ih, List.length_set]
theorem laid_step (l : List (List UInt8)) (ws : List (Nat × List UInt8)) (k : Nat) (x : Nat × List UInt8) (h : ws[k]? = some x) : laid l (ws.take (k + 1)) = (laid l (ws.take k)).set x.1 x.2 := by
  obtain ⟨hk, rfl⟩ := List.getElem?_eq_some_iff.1 h
  unfold laid
  rw [List.take_succ_eq_append_getElem hk, List.foldl_append]
  rfl

set_option maxHeartbeats 2000000 in
theorem flush_loop {O : Nat → Prop} {w : World} {D S c : Nat} {wv : Value} {s : St} (h : Dsk O w D S c wv s) (hd : s.down = false) (hg : s.go.2 = false) :
    Calls Try.prog 12 #[.pointer (some ⟨D, 0, none⟩)] w fun e w' => e = .returned (.int .i64 0) ∧ Now O w D S c { s.go.1 with sure := laid s.sure s.waits, waits := [] } w' := by
  have hgo := goes_any h hd
  rw [hg] at hgo
  have c3 := h.c3
  rw [hd] at c3
  have es : s.go.1.sure = s.sure := by unfold St.go; split <;> rfl
  have ew : s.go.1.waits = s.waits := by unfold St.go; split <;> rfl
  generalize s.go.1 = T at *
  have HG := Lib.hid hgo
  have HS := Lib.hid es
  have HW := Lib.hid ew
  have hz := fun w => (zero_of_info (P := Try.prog) (t := 63) (v := .agg (zeroW 0).toArray) (n := 65) (by kernel_rfl)).1 w
  have hsz := (zero_of_info (P := Try.prog) (t := 63) (v := .agg (zeroW 0).toArray) (n := 65) (by kernel_rfl)).2
  have hpz := (zero_of_info (P := Try.prog) zeroP_info).2
  have HZ := Lib.hid hz
  have HSZ := Lib.hid hsz
  have HPZ := Lib.hid hpz
  have HZ0 := Lib.hid (zeroW_len 0)
  clear hgo h es ew hg hd hz hsz hpz
  generalize zeroW 0 = Z0 at *
  go_enter Try.func12, Try.ntmps12
  go_wp2_with fail
  refine HG.out.mono ?_
  rintro e w1 ⟨rfl, h1, f1⟩
  have F1 := Lib.hid f1
  have H1 := Lib.hid h1
  obtain ⟨wa, wc, rfl, hwc⟩ := h1.wshape
  have c1 := h1.c1
  have hwn := h1.ok.wn
  clear f1 h1 c3
  go_wp2_with fail
  clear c1
  go_loopw [22] (fun kv wr => ∃ k : Nat, kv = .int .i64 (k : Int) ∧ k ≤ T.waits.length ∧ Hid (Dsk O wr D S c (.slice wa T.waits.length wc) { T with sure := laid T.sure (T.waits.take k) }) ∧ Hid (Fr O w1 wr)) (fun kv _ => T.waits.length - (intOf kv).toNat)
  case atStart => exact ⟨0, rfl, Nat.zero_le _, H1.out, Fr.refl _ _⟩
  case round =>
    obtain ⟨k, rfl, hk, hR, hF⟩ := hrel
    by_cases hlt : k < T.waits.length
    · have hx : T.waits[k]? = some T.waits[k] := List.getElem?_eq_getElem hlt
      have hrd := hR.out
      obtain ⟨g, kc, hwv, hrange, hgO, hgD, hgS⟩ := hrd.writeAt k _ hx
      injection hwv with e1 e2 e3
      subst e1 e3
      have hxw := hrd.ok.writes _ (List.getElem_mem hlt)
      have hlay := laid_step T.sure T.waits k _ hx
      have hxl := writes65 hrd.ok _ (List.getElem_mem hlt)
      generalize T.waits[k] = x at *
      obtain ⟨xi, xp⟩ := x
      simp only at hxw hlay
      have hl63 : (Instr.loadAt 63 (.pointer (some ⟨g, k * 65, none⟩))).run Try.prog wr = .ok (.agg (wrC (xi, xp)).toArray) wr := run_loadAt_mid wr g (k * 65) 63 _ _ hrange Try.underlying63 rfl (by rw [HSZ.out, hxl])
      have hcc := all_oneCell_toArray (wrC_cell (x := (xi, xp)))
      -- behind the variable
      have hB : Below wr.heap.size wr (wr.alloc (.cells (wrC (xi, xp)).toArray 63)) := (Below.refl _ wr).alloc (Nat.le_refl _) _
      have hblk : (wr.alloc (.cells (wrC (xi, xp)).toArray 63)).heap[wr.heap.size]? = some (.cells (wrC (xi, xp)).toArray 63) := heap_alloc_last wr _
      have h2 := hrd.below hB
      have hb2 : Fr O w1 (wr.alloc (.cells (wrC (xi, xp)).toArray 63)) := hF.out.alloc _
      have L63 := Lib.hid hl63
      have HXL := Lib.hid hxl
      have HCC := Lib.hid hcc
      clear hl63 hrd hrange hx hB hxl hcc hR hF
      generalize hC : wrC (xi, xp) = C at *
      go_wp2_with (first
        | (refine wpList_load_known rfl 63 (.tmp 24) rfl _ _ rfl L63.out ?_)
        | (refine wpList_alloc_row rfl 63 rfl _ (HZ.out _) ?_)
        | (refine wpList_store_new rfl 63 (.tmp 4) (.tmp 25) rfl _ _ rfl rfl (by rw [HSZ.out, List.size_toArray, HXL.out]) (by rw [List.size_toArray, List.size_toArray, HZ0.out, HXL.out]) HCC.out ?_))
      have hxi : xi < (laid T.sure (T.waits.take k)).length := hxw.1
      have hidx : ∀ w, (Instr.indexAt 55 (.slice (some ⟨S, 0, none⟩) (laid T.sure (T.waits.take k)).length c) (.int .i64 (xi : Int))).run Try.prog w = .ok (.pointer (some ⟨S, xi * 64, none⟩)) w := by
        intro w
        have i1 : (0 : Int) ≤ (xi : Int) := by omega
        have i2 : (xi : Int) < ((laid T.sure (T.waits.take k)).length : Int) := by omega
        generalize (laid T.sure (T.waits.take k)).length = N at *
        clear h2 hb2 hblk hC hlay
        go_simp
      have hl55 : (Instr.loadAt 55 (.pointer (some ⟨D, 0, none⟩))).run Try.prog (wr.alloc (.cells C.toArray 63)).drew = .ok (.slice (some ⟨S, 0, none⟩) (laid T.sure (T.waits.take k)).length c) (wr.alloc (.cells C.toArray 63)).drew := by
        have hc : (wr.alloc (.cells C.toArray 63)).drew.cell? ⟨D, 0, none⟩ = some (.slice (some ⟨S, 0, none⟩) (laid T.sure (T.waits.take k)).length c) := h2.c0
        generalize (wr.alloc (.cells C.toArray 63)).drew = W at *
        generalize (laid T.sure (T.waits.take k)).length = N at *
        clear h2 hb2 hblk hC hlay
        go_simp
      have hl3 : (Instr.loadAt 3 (.pointer (some ⟨wr.heap.size, 0, none⟩))).run Try.prog (wr.alloc (.cells C.toArray 63)).drew = .ok (.int .i64 (xi : Int)) (wr.alloc (.cells C.toArray 63)).drew := by
        have hc : (wr.alloc (.cells C.toArray 63)).drew.cell? ⟨wr.heap.size, 0, none⟩ = some (.int .i64 (xi : Int)) := by
          rw [World.cell?_drew, cell_of_row _ _ _ _ _ _ hblk, ← hC]; rfl
        generalize (wr.alloc (.cells C.toArray 63)).drew = W at *
        clear h2 hb2 hblk hC hlay
        go_simp
      have hpl : (pgC xp).length = 64 := by rw [pgC_len]; exact hxw.2
      have hl61 : (Instr.loadAt 61 (.pointer (some ⟨wr.heap.size, 1, none⟩))).run Try.prog (wr.alloc (.cells C.toArray 63)).drew = .ok (.agg (pgC xp).toArray) (wr.alloc (.cells C.toArray 63)).drew :=
        run_loadAt_mid _ wr.heap.size 1 61 (pgC xp) _ (fun j v hj => by
          rw [World.cell?_drew, cell_of_row _ _ _ _ _ _ hblk, ← hC]
          simpa [wrC, Nat.add_comm 1] using hj) Try.underlying61 rfl (by rw [HPZ.out, hpl])
      have hst : (Instr.storeAt 61 (.pointer (some ⟨S, xi * 64, none⟩)) (.agg (pgC xp).toArray)).run Try.prog (wr.alloc (.cells C.toArray 63)).drew = .ok () ((wr.alloc (.cells C.toArray 63)).drew.setCells S (xi * 64) (pgC xp)) :=
        run_storeAt_mid _ S (xi * 64) 61 (pgC xp).toArray (by rw [World.there_drew, List.size_toArray, hpl]; exact h2.there xi hxi) (by rw [HPZ.out, List.size_toArray, hpl]) (all_oneCell_toArray pgC_cell)
      have h3 := h2.below (w' := (wr.alloc (.cells C.toArray 63)).drew) (Below.refl _ _).drew
      obtain ⟨h4, f4⟩ := h3.page xi hxi xp hxw.2
      have hrel : Hid (Dsk O ((wr.alloc (.cells C.toArray 63)).drew.setCells S (xi * 64) (pgC xp)) D S c (.slice (some ⟨g, 0, none⟩) T.waits.length wc) { T with sure := laid T.sure (T.waits.take (k + 1)) }) := by
        rw [hlay]; exact h4
      have hfr4 : Hid (Fr O w1 ((wr.alloc (.cells C.toArray 63)).drew.setCells S (xi * 64) (pgC xp))) := (hb2.drew).trans f4 (fun _ _ e => e) (fun _ _ e => e)
      have IDX := Lib.hid hidx
      have L55 := Lib.hid hl55
      have L3 := Lib.hid hl3
      have L61 := Lib.hid hl61
      have ST := Lib.hid hst
      clear hidx hl55 hl3 hl61 hst h2 h3 h4 f4 hb2 hblk hC hlay hpl hxw
      refine wp_region_still_tail 9 (by kernel_rfl) (by kernel_rfl) ?_
      simp only [List.take_succ_cons, List.take_zero, List.drop_succ_cons, List.drop_zero]
      change wpStill _ _ (World.drew _) (fun a' => wpList _ _ _ _ a' (World.drew _)) _ _
      generalize (wr.alloc (.cells C.toArray 63)).drew = W at *
      refine still_runs (some 26) rfl rfl (v := .pointer (some ⟨D, 0, none⟩)) (rfl) ?_
      simp only [Act.put, List.setIfInBounds_toArray, List.set_cons_zero, List.set_cons_succ]
      refine still_runs (some 27) rfl rfl (v := .pointer (some ⟨D, 0, none⟩)) (rfl) ?_
      simp only [Act.put, List.setIfInBounds_toArray, List.set_cons_zero, List.set_cons_succ]
      refine still_runs (some 28) rfl rfl (v := .pointer (some ⟨D, 0, none⟩)) (by kernel_rfl) ?_
      simp only [Act.put, List.setIfInBounds_toArray, List.set_cons_zero, List.set_cons_succ]
      refine still_runs (some 29) rfl rfl (ex_load 55 (.tmp 28) rfl _ _ rfl L55.out) ?_
      simp only [Act.put, List.setIfInBounds_toArray, List.set_cons_zero, List.set_cons_succ]
      refine still_runs (some 30) rfl rfl (v := .pointer (some ⟨wr.heap.size, 0, none⟩)) (by kernel_rfl) ?_
      simp only [Act.put, List.setIfInBounds_toArray, List.set_cons_zero, List.set_cons_succ]
      refine still_runs (some 31) rfl rfl (ex_load 3 (.tmp 30) rfl _ _ rfl L3.out) ?_
      simp only [Act.put, List.setIfInBounds_toArray, List.set_cons_zero, List.set_cons_succ]
      refine still_runs (some 32) rfl rfl (v := .pointer (some ⟨wr.heap.size, 1, none⟩)) (by kernel_rfl) ?_
      simp only [Act.put, List.setIfInBounds_toArray, List.set_cons_zero, List.set_cons_succ]
      refine still_runs (some 33) rfl rfl (ex_load 61 (.tmp 32) rfl _ _ rfl L61.out) ?_
      simp only [Act.put, List.setIfInBounds_toArray, List.set_cons_zero, List.set_cons_succ]
      refine still_runs (some 34) rfl rfl (ex_index 55 (.tmp 29) (.tmp 31) rfl _ _ _ rfl rfl (IDX.out _)) ?_
      simp only [Act.put, List.setIfInBounds_toArray, List.set_cons_zero, List.set_cons_succ]
      refine wpStill_nil ?_
      refine wpList_skips none rfl rfl (ex_store 61 (.tmp 34) (.tmp 33) rfl _ _ rfl rfl ST.out) ?_
      simp only [Act.put]
      clear IDX L55 L3 L61 ST HXL HCC L63
      go_wp2
      go_roundw
      case rel => exact ⟨k + 1, by go_num, by omega, hrel, hfr4⟩
      case measure => simp [intOf]; omega
    · obtain hkn : k = T.waits.length := by omega
      have ht : T.waits.take k = T.waits := by rw [hkn]; exact List.take_length
      have hrd := hR.out
      rw [ht] at hrd
      obtain ⟨he, hfe⟩ := hrd.emptied
      have c1 := hrd.c1
      have f1 := hrd.free 1
      have hnow : Now O w D S c { T with sure := laid s.sure s.waits, waits := [] } (wr.setCell ⟨D, 1, none⟩ (.slice none 0 0)) := by
        have e1 := HS.out
        have e2 := HW.out
        refine ⟨O, .slice none 0 0, ?_, ((F1.out.mono (o' := O) (fun k _ e => by rw [e]; exact hrd.memD)).trans hF.out (fun _ _ e => e) (fun _ _ e => e)).trans hfe (fun _ _ e => e) (fun _ _ e => e), fun _ h => Or.inl h⟩
        rw [e1, e2] at he
        exact he
      have N := Lib.hid hnow
      clear he hfe hrd hR hF ht hkn hnow
      go_wp2
      go_ret
      exact ⟨rfl, N.out⟩
end Go.Proofs.Ytohmofhpbmhhjaa
