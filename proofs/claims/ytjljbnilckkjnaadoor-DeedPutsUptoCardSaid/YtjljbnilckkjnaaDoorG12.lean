/- Deed: deeds that are read, one behind the other. -/
import Derived.Test.YtjljbnilckkjnaaDoorG11
namespace Go.Proofs.YtjljbnilckkjnaaDoor
open Go Go.RowKit

def deedsP : Nat → List UInt8 → List Dd → Option (List Dd × List UInt8)
  | 0, l, acc => some (acc, l)
  | n + 1, l, acc => (deedP l).bind fun x => deedsP n x.2 (acc ++ [x.1])
/-- What is read of deeds' bytes: the fault's number, or the deeds. -/
def takeE (l : List UInt8) : Except Int (List Dd) :=
  match numP 1 l with
  | none => .error 3
  | some (n, l1) => if n = 0 ∨ 12 < n then .error 4 else
    match deedsP n l1 [] with
    | none => .error 3
    | some (ds, rest) => if rest = [] then .ok ds else .error 4
theorem takeE_short {l : List UInt8} (h : numP 1 l = none) : takeE l = .error 3 := by unfold takeE; rw [h]
theorem takeE_form {l l1 : List UInt8} {n : Nat} (h : numP 1 l = some (n, l1)) (hn : n = 0 ∨ 12 < n) : takeE l = .error 4 := by unfold takeE; rw [h]; simp only; rw [if_pos hn]
theorem takeE_go {l l1 : List UInt8} {n : Nat} (h : numP 1 l = some (n, l1)) (hn : ¬ (n = 0 ∨ 12 < n)) : takeE l = match deedsP n l1 [] with
    | none => .error 3
    | some (ds, rest) => if rest = [] then .ok ds else .error 4 := by unfold takeE; rw [h]; simp only; rw [if_neg hn]
theorem deed_len {l l' : List UInt8} {d : Dd} (h : deedP l = some (d, l')) : l'.length ≤ l.length := by
  unfold deedP at h
  simp only [Option.bind_eq_some_iff] at h
  obtain ⟨⟨a0, b0⟩, h0, ⟨a1, b1⟩, h1, ⟨a2, b2⟩, h2, ⟨a3, b3⟩, h3, ⟨a4, b4⟩, h4, ⟨a5, b5⟩, h5, ⟨a6, b6⟩, h6, ⟨a7, b7⟩, h7, ⟨a8, b8⟩, h8, ⟨a9, b9⟩, h9, h10⟩ := h
  simp only [Option.some.injEq, Prod.mk.injEq] at h10
  have e0 := (numP_len h0).1
  have e1 := (text_len h1).1
  have e2 := (text_len h2).1
  have e3 := (text_len h3).1
  have e4 := (numP_len h4).1
  have e5 := (numP_len h5).1
  have e6 := (numP_len h6).1
  have e7 := (numP_len h7).1
  have e8 := (numP_len h8).1
  have e9 := (body_len h9).1
  obtain ⟨_, rfl⟩ := h10
  simp only at *
  omega
/-- What is told of a fault; of deeds. -/
def AllB (w0 : World) (l : List UInt8) (V : Nat) (k : Int) (w : World) : Prop := takeE l = .error k ∧ Fr (· = V) w0 w
def AllG (w0 : World) (l : List UInt8) (V B : Nat) (w : World) : Prop := Fr (· = V) w0 w ∧ ∃ (ps : List (Dd × Value)) (lv : Value), takeE l = .ok (ps.map (·.1)) ∧ w.heap[V]? = some (.cells #[lv] 32 (0, 0)) ∧ DsAt B w lv ps

set_option maxHeartbeats 8000000 in
set_option maxRecDepth 100000 in
theorem takeAll1 (w y : World) (D V : Nat) (sv : Value) (l : List UInt8) (hy : Below w.heap.size w y) (hD : w.heap.size < D) (hV : V < w.heap.size) (h : Rdr y D sv l) (hl : l.length ≤ 9223372036854775807)
    (hv : y.heap[V]? = some (.cells #[.slice none 0 0] 32 (0, 0))) (hsV : ∀ g, sv.ownBlock = some g → l ≠ [] → g ≠ V) :
    Calls Tryd.prog 46 #[.pointer (some ⟨D, 0, none⟩), .pointer (some ⟨V, 0, none⟩)] y (ByR w D (AllB w l V) (AllG w l V (w.heap.size + 1)) y) := by
  have hDlt := h.lt
  have HN := Lib.hid (number_any y D sv l 1 h (by omega) (by omega))
  have HV := Lib.hid hv
  have HSV := Lib.hid hsV
  have HSL : Hid (∀ g, sv.ownBlock = some g → l ≠ [] → g < y.heap.size) := Lib.hid h.byz.lt
  have HFR : Hid (∀ w2, Fr (fun k => k = D ∨ k = V) y w2 → Fr (· = V) w w2) := Lib.hid (fun w2 hf => (Fr.of_below (· = V) hy).trans hf (fun _ _ h => h) (fun k hk e => e.elim (fun e => by omega) id))
  have HFD1 : Hid (∀ w2, Fr (· = D) y w2 → Fr (· = V) w w2) := Lib.hid (fun w2 h => HFR.out w2 (h.mono (fun _ _ e => Or.inl e)))
  clear h hv hsV
  go_enter Tryd.func46, Tryd.ntmps46
  go_wp2_with fail
  refine HN.out.mono ?_
  rintro e w1 (⟨hr, rfl, hf⟩ | ⟨n, l1, v1, s1, hr, rfl, rfl, hd, ho, hf⟩)
  · have HB := Lib.hid (And.intro (takeE_short hr) (HFD1.out _ hf))
    have HF := Lib.hid (hf.mono (o' := fun k => k = D ∨ k < w.heap.size) (fun _ _ e => Or.inl e))
    clear hr hf HN
    go_wp2
    exact ⟨rfl, HF.out, Or.inl ⟨3, rfl, HB.out⟩⟩
  · obtain ⟨hl1, hn256⟩ := numP_len hr
    have HF := Lib.hid hf
    have HD := Lib.hid hd
    have HO := Lib.hid ho
    have HR := Lib.hid hr
    clear hf hd ho hr HN
    have hsp : n = 0 ∨ 12 < n ∨ (n ≠ 0 ∧ ¬ 12 < n) := by omega
    rcases hsp with h0 | h12 | ⟨h0, h12⟩
    · subst h0
      have HB := Lib.hid (takeE_form HR.out (Or.inl rfl))
      rw [show ((0 : Nat) : Int) = 0 from rfl]
      go_wp2
      exact ⟨rfl, HF.out.mono (o' := fun k => k = D ∨ k < w.heap.size) (fun _ _ e => Or.inl e), Or.inl ⟨4, rfl, HB.out, HFD1.out _ HF.out⟩⟩
    · have HB := Lib.hid (takeE_form HR.out (Or.inr h12))
      have e0 : ((n : Int) == 0) = false := by rw [beq_eq_false_iff_ne]; omega
      have h12' : (12 : Int) < (n : Int) := by omega
      go_wp2
      exact ⟨rfl, HF.out.mono (o' := fun k => k = D ∨ k < w.heap.size) (fun _ _ e => Or.inl e), Or.inl ⟨4, rfl, HB.out, HFD1.out _ HF.out⟩⟩
    · have HG := Lib.hid (takeE_go HR.out (by omega))
      have e0 : ((n : Int) == 0) = false := by rw [beq_eq_false_iff_ne]; omega
      have h12' : ¬ (12 : Int) < (n : Int) := by omega
      have hDV : V ≠ D := by omega
      have HV1 := Lib.hid ((HF.out.block V (by have := hy.size; omega) hDV).trans HV.out)
      go_wp2_with fail
      go_loopw [15] (fun iv wr => ∃ (i : Nat) (s2 : Value) (l2 : List UInt8) (ps : List (Dd × Value)) (lv : Value), i ≤ n ∧ iv = .int .i64 (i : Int) ∧ ps.length = i ∧ l2.length ≤ l1.length ∧
        Hid (Rdr wr D s2 l2 ∧ s2.ownBlock = sv.ownBlock ∧ wr.heap[V]? = some (.cells #[lv] 32 (0, 0)) ∧ DsAt y.heap.size wr lv ps ∧ Fr (fun k => k = D ∨ k = V) y wr ∧ deedsP (n - i) l2 (ps.map (·.1)) = deedsP n l1 [])) (fun iv _ => n - (intOf iv).toNat)
      case atStart => exact ⟨0, s1, l1, [], _, Nat.zero_le _, rfl, rfl, Nat.le_refl _, Lib.hid ⟨HD.out, HO.out, HV1.out, DsAt.nil _ _, HF.out.mono (fun _ _ e => Or.inl e), rfl⟩⟩
      case round =>
        clear e0 HV1
        obtain ⟨i, s2, l2, ps, lv, hi, rfl, hps, hl2, hH⟩ := hrel
        by_cases hlt : i < n
        · have hlt' : (i : Int) < (n : Int) := by omega
          obtain ⟨hR2, hO2, hV2, hDs, hFr, hgo⟩ := hH.out
          have hni : n - i = (n - (i + 1)) + 1 := by omega
          rw [hni, deedsP] at hgo
          obtain ⟨la, lc, rfl, _⟩ := owns_shape hDs.own
          obtain ⟨wd, hwd⟩ : ∃ wd, wd = wr.drew := ⟨_, rfl⟩
          have hfd : Fr (fun _ => False) wr wd := by rw [hwd]; exact (Fr.refl _ wr).drew
          have hRd : Rdr wd D s2 l2 := hR2.fr hfd (fun h => h) (fun _ _ _ h => h)
          have hVd : wd.heap[V]? = some (.cells #[.slice la ps.length lc] 32 (0, 0)) := by rw [hwd]; exact hV2
          have hDd : DsAt y.heap.size wd (.slice la ps.length lc) ps := hDs.fr hfd (fun _ h => h.elim)
          have hFd : Fr (fun k => k = D ∨ k = V) y wd := hFr.trans hfd (fun _ _ h => h) (fun _ _ h => h.elim)
          have HLD : Hid (∀ W : World, W.heap[V]? = some (.cells #[.slice la ps.length lc] 32 (0, 0)) → (Instr.loadAt 32 (.pointer (some ⟨V, 0, none⟩))).run Tryd.prog W = .ok (.slice la ps.length lc) W) := Lib.hid (fun W hW => by
            have hc := cell_of_one1 hW
            clear hW
            go_simp)
          have HC := Lib.hid (deed_any wd D s2 l2 hRd (by omega))
          have HWD := Lib.hid hwd
          have HVD := Lib.hid hVd
          have HFD := Lib.hid hFd
          have HDD := Lib.hid hDd
          have HO2 := Lib.hid hO2
          have hszd : y.heap.size ≤ wd.heap.size := hFd.size
          clear hR2 hO2 hV2 hDs hFr hwd hfd hRd hVd hDd hFd hH hni
          cases hdp : deedP l2 with
          | none =>
            rw [hdp] at hgo HC
            have hB : takeE l = .error 3 := by rw [HG.out, ← hgo]; rfl
            have HB := Lib.hid hB
            have HEND : Hid (∀ c w2, ParR wd D s2 (none : Option (Dd × List UInt8)) (IsDeed wd.heap.size) (.panicked c) w2 → ByR w D (AllB w l V) (AllG w l V (w.heap.size + 1)) y (.panicked c) w2) := Lib.hid (fun c w2 hR => by
              rcases hR with ⟨_, e, hf2⟩ | ⟨_, _, _, _, e, _⟩
              · cases e
                exact ⟨(HFD.out.trans hf2 (o'' := fun k => k = D ∨ k < w.heap.size) (fun k _ e => e.imp id (fun e => by omega)) (fun k _ e => Or.inl e)), Or.inl ⟨3, rfl, HB.out, HFR.out _ (HFD.out.trans hf2 (o'' := fun k => k = D ∨ k = V) (fun _ _ e => e) (fun _ _ e => Or.inl e))⟩⟩
              · cases e)
            have HNO : Hid (∀ v w2, ¬ ParR wd D s2 (none : Option (Dd × List UInt8)) (IsDeed wd.heap.size) (.returned v) w2) := Lib.hid (fun v w2 hR => by
              rcases hR with ⟨_, e, _⟩ | ⟨_, _, _, _, e, _⟩
              · cases e
              · cases e)
            have HNO2 : Hid (∀ w2, ¬ ParR wd D s2 (none : Option (Dd × List UInt8)) (IsDeed wd.heap.size) .outgrown w2) := Lib.hid (fun w2 hR => by
              rcases hR with ⟨_, e, _⟩ | ⟨_, _, _, _, e, _⟩
              · cases e
              · cases e)
            clear hB hgo hdp
            go_wp2_with fail
            refine wp_region_any (by kernel_rfl) ?_
            change wpAny _ _ _ _ _ _ _ (World.drew _)
            rw [← HWD.out]
            refine any_take 1 (some 18) (.pointer (some ⟨D, 0, none⟩)) rfl rfl (by kernel_rfl) (by kernel_rfl) (by kernel_rfl) (fun _ _ _ h => h) rfl (fun w => rfl) ?_
            simp only [Act.put, List.setIfInBounds_toArray, List.set_cons_zero, List.set_cons_succ]
            refine any_two 0 2 (by kernel_rfl) rfl rfl rfl rfl (fun K hK => wp_runs (some 17) rfl (ex_load 32 (.tmp 1) rfl _ _ rfl (HLD.out _ HVD.out)) (hK _ _ ?_))
              (fun K hK => wp_calls 48 _ (some 19) rfl (ex_call1 48 (.tmp 18) _ rfl _ rfl (fun _ _ => rfl)) _ HC.out (fun v w2 hR => (HNO.out v w2 hR).elim) (fun c w2 hR => ?_) (fun w2 hR => HNO2.out w2 hR))
            · simp only [Act.put, List.setIfInBounds_toArray, List.set_cons_zero, List.set_cons_succ]
              refine any_one 2 (by kernel_rfl) rfl rfl (fun K hK => wp_calls 48 _ (some 19) rfl (ex_call1 48 (.tmp 18) _ rfl _ rfl (fun _ _ => rfl)) _ HC.out (fun v w2 hR => (HNO.out v w2 hR).elim) (fun c w2 hR => ?_) (fun w2 hR => HNO2.out w2 hR))
              exact ⟨rfl, HEND.out c w2 hR⟩
            · exact ⟨rfl, HEND.out c w2 hR⟩
          | some x =>
            obtain ⟨d, l3⟩ := x
            have hgo2 : deedsP (n - (i + 1)) l3 (ps.map (·.1) ++ [d]) = deedsP n l1 [] := by rw [hdp] at hgo; exact hgo
            rw [hdp] at HC
            have hl3 := deed_len hdp
            have hszy := hy.size
            have HGO := Lib.hid hgo2
            have HYES : Hid (∀ v w2, ParR wd D s2 (some (d, l3)) (IsDeed wd.heap.size) (.returned v) w2 → ∃ pv s3, v = ddV d pv ∧ Row wd.heap.size w2 pv d.bytes ∧ Rdr w2 D s3 l3 ∧ s3.ownBlock = s2.ownBlock ∧ Fr (· = D) wd w2) := Lib.hid (fun v w2 hR => by
              rcases hR with ⟨e, _, _⟩ | ⟨x, l', v', s3, e1, e2, ⟨pv, e3, e4⟩, h1, h2, h3⟩
              · cases e
              · cases e1
                cases e2
                exact ⟨pv, s3, e3, e4, h1, h2, h3⟩)
            have HPAN : Hid (∀ c w2, ¬ ParR wd D s2 (some (d, l3)) (IsDeed wd.heap.size) (.panicked c) w2) := Lib.hid (fun c w2 hR => by
              rcases hR with ⟨e, _, _⟩ | ⟨_, _, _, _, _, e, _⟩
              · cases e
              · cases e)
            have HNO2 : Hid (∀ w2, ¬ ParR wd D s2 (some (d, l3)) (IsDeed wd.heap.size) .outgrown w2) := Lib.hid (fun w2 hR => by
              rcases hR with ⟨e, _, _⟩ | ⟨_, _, _, _, _, e, _⟩
              · cases e
              · cases e)
            have HLIT : Hid (∀ pv W, (Instr.buildSlice 32 1 [(0, ddV d pv)].toArray).run Tryd.prog W = .ok (.slice (some ⟨W.heap.size, 0, none⟩) 1 1) (W.alloc (.cells (ddC d pv) 28))) := Lib.hid (fun pv W =>
              run_lit_one W 32 28 10 Tryd.underlying32 [.int .i64 0, .string ⟨#[]⟩, .string ⟨#[]⟩, .string ⟨#[]⟩, .int .i64 0, .int .i64 0, .int .u8 0, .int .i64 0, .int .i64 0, .slice none 0 0] (by kernel_rfl) rfl (by decide) (by decide) (ddC d pv).toList rfl)
            have HSTEP : Hid (∀ pv s3 w2, Row wd.heap.size w2 pv d.bytes → Rdr w2 D s3 l3 → s3.ownBlock = s2.ownBlock → Fr (· = D) wd w2 → w2.heap[V]? = some (.cells #[.slice la ps.length lc] 32 (0, 0)) ∧
                ∃ a c w3, (∀ ty, (Builtin.append_ #[32, 32] ty #[.slice la ps.length lc, .slice (some ⟨w2.heap.size, 0, none⟩) 1 1]).run Tryd.prog (w2.alloc (.cells (ddC d pv) 28)) = .ok (.slice a (ps.length + 1) c) w3) ∧
                  (Instr.storeAt 32 (.pointer (some ⟨V, 0, none⟩)) (.slice a (ps.length + 1) c)).run Tryd.prog w3 = .ok () (w3.setCell ⟨V, 0, none⟩ (.slice a (ps.length + 1) c)) ∧
                  ∃ ps' : List (Dd × Value), ps'.length = i + 1 ∧ (Rdr (w3.setCell ⟨V, 0, none⟩ (.slice a (ps.length + 1) c)) D s3 l3 ∧ s3.ownBlock = sv.ownBlock ∧ (w3.setCell ⟨V, 0, none⟩ (.slice a (ps.length + 1) c)).heap[V]? = some (.cells #[.slice a (ps.length + 1) c] 32 (0, 0)) ∧ DsAt y.heap.size (w3.setCell ⟨V, 0, none⟩ (.slice a (ps.length + 1) c)) (.slice a (ps.length + 1) c) ps' ∧ Fr (fun k => k = D ∨ k = V) y (w3.setCell ⟨V, 0, none⟩ (.slice a (ps.length + 1) c)) ∧ deedsP (n - (i + 1)) l3 (ps'.map (·.1)) = deedsP n l1 [])) := Lib.hid (fun pv s3 w2 h1 h2 h3 h4 => by
              have hs2 := h4.size
              have hV2 : w2.heap[V]? = some (.cells #[.slice la ps.length lc] 32 (0, 0)) := (h4.block V (by omega) hDV).trans HVD.out
              have hd2 : DsAt y.heap.size w2 (.slice la ps.length lc) ps := HDD.out.fr h4 (fun g hg => Or.inl (by omega))
              have hrow : Row y.heap.size w2 pv d.bytes := ⟨h1.1, fun ad n' c' e' => by obtain ⟨a1, a2, a3⟩ := h1.2 ad n' c' e'; exact ⟨by omega, a2, a3⟩⟩
              have hlvlt : ∀ g, (Value.slice la ps.length lc).ownBlock = some g → y.heap.size ≤ g ∧ g < wd.heap.size := fun g hg => World.ownsRow.lt HDD.out.own g hg
              obtain ⟨a, c, w3, hrun, hds, hgr, hwh⟩ := appD w2 (d, pv) hd2 (by omega) (by omega) hrow (fun g hg hg2 => by have := row_base h1 g hg; have := (hlvlt g hg2).2; omega)
              have hln : (ps ++ [(d, pv)]).length = ps.length + 1 := by simp
              rw [hln] at hrun hds hwh
              have hV3 : w3.heap[V]? = some (.cells #[.slice la ps.length lc] 32 (0, 0)) := (hgr.block V (by omega) (fun e => by have := (hlvlt V e.symm).1; omega)).trans hV2
              have hst : (Instr.storeAt 32 (.pointer (some ⟨V, 0, none⟩)) (.slice a (ps.length + 1) c)).run Tryd.prog w3 = .ok () (w3.setCell ⟨V, 0, none⟩ (.slice a (ps.length + 1) c)) := by
                have hc := cell_of_one1 hV3
                have hf := frozen_of_row w3 V 0 _ _ hV3
                clear hrun hds hgr hwh hV3 h1 h2 h4 hV2 hd2 hrow hlvlt
                go_simp
              have hf34 : Fr (· = V) w3 (w3.setCell ⟨V, 0, none⟩ (.slice a (ps.length + 1) c)) := (Fr.refl (· = V) w3).setCell ⟨V, 0, none⟩ (Or.inl rfl) _
              have hall : Fr (fun k => k = V ∨ (Value.slice la ps.length lc).ownBlock = some k) w2 (w3.setCell ⟨V, 0, none⟩ (.slice a (ps.length + 1) c)) :=
                (⟨hgr.os, hgr.tape, hgr.output, hgr.size, fun k hk hne => hgr.block k hk (fun e => hne (Or.inr e.symm))⟩ : Fr (fun k => k = V ∨ (Value.slice la ps.length lc).ownBlock = some k) w2 w3).trans hf34 (fun _ _ h => h) (fun _ _ h => Or.inl h)
              have hso : s3.ownBlock = sv.ownBlock := h3.trans HO2.out
              refine ⟨hV2, a, c, w3, hrun, hst, ps ++ [(d, pv)], by rw [hln]; omega, h2.fr hall (fun e => ?_) (fun g hg hne e => ?_), hso, ?_, hds.fr hf34 (fun g hg => Or.inl (by omega)), ?_, ?_⟩
              · rcases e with e | e
                · exact hDV e.symm
                · have := (hlvlt D e).1; omega
              · rw [hso] at hg
                have hne2 : l ≠ [] := fun e0 => by subst e0; have : l3 = [] := List.eq_nil_of_length_eq_zero (by simp only [List.length_nil] at *; omega); exact hne this
                rcases e with e | e
                · exact HSV.out g hg hne2 e
                · have := (hlvlt g e).1; have := HSL.out g hg hne2; omega
              · rw [heap_setCell_same w3 V 0 _ _ _ hV3]; rfl
              · refine (HFD.out.trans h4 (o'' := fun k => k = D ∨ k = V) (fun _ _ h => h) (fun _ _ h => Or.inl h)).trans hall (fun _ _ h => h) (fun k hk e => ?_)
                rcases e with e | e
                · exact Or.inr e
                · have := (hlvlt k e).1; omega
              · rw [List.map_append]; exact HGO.out)
            clear hgo hgo2 hdp
            go_wp2_with fail
            refine wp_region_any (by kernel_rfl) ?_
            change wpAny _ _ _ _ _ _ _ (World.drew _)
            rw [← HWD.out]
            refine any_take 1 (some 18) (.pointer (some ⟨D, 0, none⟩)) rfl rfl (by kernel_rfl) (by kernel_rfl) (by kernel_rfl) (fun _ _ _ h => h) rfl (fun w => rfl) ?_
            simp only [Act.put, List.setIfInBounds_toArray, List.set_cons_zero, List.set_cons_succ]
            refine any_two 0 2 (by kernel_rfl) rfl rfl rfl rfl (fun K hK => wp_runs (some 17) rfl (ex_load 32 (.tmp 1) rfl _ _ rfl (HLD.out _ HVD.out)) (hK _ _ ?_))
              (fun K hK => wp_calls 48 _ (some 19) rfl (ex_call1 48 (.tmp 18) _ rfl _ rfl (fun _ _ => rfl)) _ HC.out (fun v w2 hR => hK _ _ ?_) (fun c w2 hR => (HPAN.out c w2 hR).elim) (fun w2 hR => HNO2.out w2 hR))
            · simp only [Act.put, List.setIfInBounds_toArray, List.set_cons_zero, List.set_cons_succ]
              refine any_one 2 (by kernel_rfl) rfl rfl (fun K hK => wp_calls 48 _ (some 19) rfl (ex_call1 48 (.tmp 18) _ rfl _ rfl (fun _ _ => rfl)) _ HC.out (fun v w2 hR => hK _ _ ?_) (fun c w2 hR => (HPAN.out c w2 hR).elim) (fun w2 hR => HNO2.out w2 hR))
              obtain ⟨pv, s3, rfl, g1, g2, g3, g4⟩ := HYES.out v w2 hR
              obtain ⟨_, a, c, w3, hrun, hst, ps', hpl, hrel'⟩ := HSTEP.out pv s3 w2 g1 g2 g3 g4
              have RUN := Lib.hid hrun
              have ST := Lib.hid hst
              have REL := Lib.hid hrel'
              clear g1 g2 g3 g4 hrun hst hrel' hR
              simp only [Act.put, List.setIfInBounds_toArray, List.set_cons_zero, List.set_cons_succ]
              refine any_one 3 (by kernel_rfl) rfl rfl (fun K hK => wp_runs (some 20) rfl (ex_buildSlice 32 1 #[(0, .tmp 19)] rfl _ rfl _ (HLIT.out pv w2)) (hK _ _ ?_))
              simp only [Act.put, List.setIfInBounds_toArray, List.set_cons_zero, List.set_cons_succ]
              refine any_one 4 (by kernel_rfl) rfl rfl (fun K hK => wp_runs (some 21) rfl (ex_append (.tmp 17) (.tmp 20) 32 32 rfl _ _ _ rfl rfl RUN.out) (hK _ _ ?_))
              simp only [Act.put, List.setIfInBounds_toArray, List.set_cons_zero, List.set_cons_succ]
              refine any_one 5 (by kernel_rfl) rfl rfl (fun K hK => wp_skips none rfl (ex_store 32 (.tmp 1) (.tmp 21) rfl _ _ rfl rfl ST.out) (hK _ _ ?_))
              simp only [Act.put]
              refine wpAny_done (by kernel_rfl) ?_ _
              generalize w3.setCell ⟨V, 0, none⟩ (.slice a (ps.length + 1) c) = w4 at *
              go_wp2
              go_roundw
              case rel => exact ⟨i + 1, s3, l3, ps', _, by omega, by go_num, hpl, by omega, REL⟩
              case measure => simp [intOf]; omega
            · obtain ⟨pv, s3, rfl, g1, g2, g3, g4⟩ := HYES.out v w2 hR
              obtain ⟨hV2, a, c, w3, hrun, hst, ps', hpl, hrel'⟩ := HSTEP.out pv s3 w2 g1 g2 g3 g4
              have LD2 := Lib.hid (HLD.out w2 hV2)
              have RUN := Lib.hid hrun
              have ST := Lib.hid hst
              have REL := Lib.hid hrel'
              clear g1 g2 g3 g4 hrun hst hrel' hR
              simp only [Act.put, List.setIfInBounds_toArray, List.set_cons_zero, List.set_cons_succ]
              refine any_two 0 3 (by kernel_rfl) rfl rfl rfl rfl (fun K hK => wp_runs (some 17) rfl (ex_load 32 (.tmp 1) rfl _ _ rfl LD2.out) (hK _ _ ?_)) (fun K hK => wp_runs (some 20) rfl (ex_buildSlice 32 1 #[(0, .tmp 19)] rfl _ rfl _ (HLIT.out pv w2)) (hK _ _ ?_))
              · simp only [Act.put, List.setIfInBounds_toArray, List.set_cons_zero, List.set_cons_succ]
                refine any_one 3 (by kernel_rfl) rfl rfl (fun K hK => wp_runs (some 20) rfl (ex_buildSlice 32 1 #[(0, .tmp 19)] rfl _ rfl _ (HLIT.out pv w2)) (hK _ _ ?_))
                simp only [Act.put, List.setIfInBounds_toArray, List.set_cons_zero, List.set_cons_succ]
                refine any_one 4 (by kernel_rfl) rfl rfl (fun K hK => wp_runs (some 21) rfl (ex_append (.tmp 17) (.tmp 20) 32 32 rfl _ _ _ rfl rfl RUN.out) (hK _ _ ?_))
                simp only [Act.put, List.setIfInBounds_toArray, List.set_cons_zero, List.set_cons_succ]
                refine any_one 5 (by kernel_rfl) rfl rfl (fun K hK => wp_skips none rfl (ex_store 32 (.tmp 1) (.tmp 21) rfl _ _ rfl rfl ST.out) (hK _ _ ?_))
                simp only [Act.put]
                refine wpAny_done (by kernel_rfl) ?_ _
                generalize w3.setCell ⟨V, 0, none⟩ (.slice a (ps.length + 1) c) = w4 at *
                go_wp2
                go_roundw
                case rel => exact ⟨i + 1, s3, l3, ps', _, by omega, by go_num, hpl, by omega, REL⟩
                case measure => simp [intOf]; omega
              · simp only [Act.put, List.setIfInBounds_toArray, List.set_cons_zero, List.set_cons_succ]
                have LD3 := Lib.hid (HLD.out (w2.alloc (.cells (ddC d pv) 28)) ((Below.heap_alloc _ _ _ (Array.getElem?_eq_some_iff.1 hV2).1).trans hV2))
                refine any_one 0 (by kernel_rfl) rfl rfl (fun K hK => wp_runs (some 17) rfl (ex_load 32 (.tmp 1) rfl _ _ rfl LD3.out) (hK _ _ ?_))
                simp only [Act.put, List.setIfInBounds_toArray, List.set_cons_zero, List.set_cons_succ]
                refine any_one 4 (by kernel_rfl) rfl rfl (fun K hK => wp_runs (some 21) rfl (ex_append (.tmp 17) (.tmp 20) 32 32 rfl _ _ _ rfl rfl RUN.out) (hK _ _ ?_))
                simp only [Act.put, List.setIfInBounds_toArray, List.set_cons_zero, List.set_cons_succ]
                refine any_one 5 (by kernel_rfl) rfl rfl (fun K hK => wp_skips none rfl (ex_store 32 (.tmp 1) (.tmp 21) rfl _ _ rfl rfl ST.out) (hK _ _ ?_))
                simp only [Act.put]
                refine wpAny_done (by kernel_rfl) ?_ _
                generalize w3.setCell ⟨V, 0, none⟩ (.slice a (ps.length + 1) c) = w4 at *
                go_wp2
                go_roundw
                case rel => exact ⟨i + 1, s3, l3, ps', _, by omega, by go_num, hpl, by omega, REL⟩
                case measure => simp [intOf]; omega
        · have hin : i = n := by omega
          have hlt' : ¬ (i : Int) < (n : Int) := by omega
          have hfin := hH.out.2.2.2.2.2
          rw [hin, Nat.sub_self, deedsP] at hfin
          have htk := HG.out
          rw [← hfin] at htk
          simp only at htk
          have HP : Hid (ByR w D (AllB w l V) (AllG w l V (w.heap.size + 1)) y (.returned (.tuple #[])) wr) := Lib.hid (by
            refine ⟨hH.out.2.2.2.2.1.mono (fun k _ e => ?_), Or.inr ⟨s2, l2, rfl, hH.out.1, fun e => ?_, fun e => ?_⟩⟩
            · rcases e with e | e
              · exact Or.inl e
              · exact Or.inr (by omega)
            · rw [if_pos e] at htk
              have hds := hH.out.2.2.2.1
              refine ⟨HFR.out _ hH.out.2.2.2.2.1, ps, lv, htk, hH.out.2.2.1, ⟨World.ownsRow.mono hds.own (by have := hy.size; omega), fun p hp => ⟨(hds.rows p hp).1, fun ad n' c' e' => by obtain ⟨a1, a2, a3⟩ := (hds.rows p hp).2 ad n' c' e'; exact ⟨by omega, a2, a3⟩⟩, hds.ne⟩⟩
            · rw [if_neg e] at htk
              exact ⟨htk, HFR.out _ hH.out.2.2.2.2.1⟩)
          clear hfin htk hH
          go_wp2
          exact bodyPost_end (results_none rfl _ _ _) rfl HP.out
end Go.Proofs.YtjljbnilckkjnaaDoor
