/- Disk, the document's own: Flush. -/
import Derived.Test.YtohmofhpbmhhjaaE6
namespace Go.Proofs.Ytohmofhpbmhhjaa
open Go Go.RowKit

theorem RDsk.emptied {O : Nat → Prop} {w : World} {D : Nat} {pv lv : Value} {s : St} (h : RDsk O w D pv lv s) : RNow O w D { s with waits := [] } (w.setCell ⟨D, 1, none⟩ (.slice none 0 0)) := by
  have hf : Fr (· = D) w (w.setCell ⟨D, 1, none⟩ (.slice none 0 0)) := (Fr.refl (· = D) w).setCell ⟨D, 1, none⟩ (Or.inl rfl) _
  have hb : ∀ k, O k → k ≠ D → (w.setCell ⟨D, 1, none⟩ (.slice none 0 0)).heap[k]? = w.heap[k]? := fun k hk hn => hf.block k (h.lt k hk) hn
  refine ⟨O, pv, .slice none 0 0, ⟨⟨h.ok.pages, (fun x hx => by simp at hx), h.ok.some, h.ok.few, h.ok.cut, by simp, h.ok.an⟩, ?_, ?_, World.ownsRow_nil .., fun _ => rfl, h.memD, h.memP, (fun g hg => by simp [Value.ownBlock] at hg), fun k hk => Nat.lt_of_lt_of_le (h.lt k hk) hf.size⟩, hf, fun _ h => Or.inl h⟩
  · rw [heap_setCell_same _ D 1 _ _ _ h.blk]
    rfl
  · exact owns_frame h.pages (fun k hk => hb k (h.memP k hk).1 (h.memP k hk).2)
theorem RNow.then {O : Nat → Prop} {w w1 w2 : World} {D : Nat} {s1 s2 : St} (h : RNow O w D s1 w1) (hn : ∀ O' pv lv, RDsk O' w1 D pv lv s1 → RNow O' w1 D s2 w2) : RNow O w D s2 w2 := by
  obtain ⟨O1, p1, l1, h1, f1, m1⟩ := h
  obtain ⟨O2, p2, l2, h2, f2, m2⟩ := hn _ _ _ h1
  refine ⟨O2, p2, l2, h2, f1.trans f2 (fun _ _ h => h) (fun _ _ h => h), fun k hk => ?_⟩
  rcases m2 k hk with h | h
  · exact m1 k h
  · exact Or.inr (Nat.le_trans f1.size h)
theorem RNow.step {O O' : Nat → Prop} {w w1 w1' w2 : World} {D : Nat} {s' : St} (hf : Fr (· = D) w w1) (hm : ∀ k, O' k → O k ∨ w.heap.size ≤ k) (hb : Fr (· = D) w1 w1') (hn : RNow O' w1' D s' w2) : RNow O w D s' w2 := by
  obtain ⟨O2, p2, l2, h2, f2, m2⟩ := hn
  refine ⟨O2, p2, l2, h2, (hf.trans hb (fun _ _ h => h) (fun _ _ h => h)).trans f2 (fun _ _ h => h) (fun _ _ h => h), fun k hk => ?_⟩
  rcases m2 k hk with h | h
  · exact hm k h
  · exact Or.inr (Nat.le_trans hf.size (Nat.le_trans hb.size h))
set_option maxRecDepth 100000 in
set_option maxHeartbeats 4000000 in
theorem rflush_loop {O : Nat → Prop} {w : World} {D : Nat} {pv lv : Value} {s : St} (h : RDsk O w D pv lv s) (hd : s.down = false) (hgo : s.go.2 = false) :
    Calls Try.prog 32 #[.pointer (some ⟨D, 0, none⟩)] w fun e w' => e = .returned (.int .i64 0) ∧ RNow O w D { s.go.1 with sure := laid s.sure s.waits, waits := [] } w' := by
  have c2 := h.c2
  rw [hd] at c2
  have hdone := rdone_any h hd
  rw [hgo] at hdone
  have hgs : s.go.1.sure = s.sure := by unfold St.go; split <;> rfl
  have hgw : s.go.1.waits = s.waits := by unfold St.go; split <;> rfl
  have hwn := h.ok.wn
  have HOK := Lib.hid h.ok
  have HD := Lib.hid hdone
  have HGS := Lib.hid hgs
  have HGW := Lib.hid hgw
  clear hdone hgs hgw h hgo hd
  go_enter Try.func32, Try.ntmps32
  go_wp2_with fail
  refine HD.out.mono ?_
  rintro e w1 ⟨rfl, h1, f1⟩
  have h0 : Hid (RNow O w D { s.go.1 with sure := laid s.sure (s.waits.take 0) } w1) := by
    have := RNow.own h1 f1
    rw [show ({ s.go.1 with sure := laid s.sure (s.waits.take 0) } : St) = s.go.1 by rw [List.take_zero]; unfold laid; rw [List.foldl_nil, ← HGS.out]]
    exact this
  clear c2 h1 f1 HD
  go_wp2_with fail
  go_loopw [3] (fun iv wr => ∃ k : Nat, iv = .int .i64 (k : Int) ∧ k ≤ s.waits.length ∧ Hid (RNow O w D { s.go.1 with sure := laid s.sure (s.waits.take k) } wr)) (fun iv _ => s.waits.length - (intOf iv).toNat)
  case atStart => exact ⟨0, rfl, Nat.zero_le _, h0⟩
  case round =>
    clear h0
    obtain ⟨k, rfl, hk, hR⟩ := hrel
    have hRO := hR.out
    obtain ⟨Ok, pk, lk, hrd, hfk, hmk⟩ := hRO
    have c1 := hrd.c1
    obtain ⟨la, lc, rfl, _⟩ := hrd.lshape
    simp only at c1
    by_cases hgo : k < s.waits.length
    · have hx := List.getElem?_eq_getElem hgo
      obtain ⟨g, c, hge, hc1, hc2⟩ := hrd.waitAt k _ (by simp only [HGW.out]; exact hx)
      cases hge
      have hxw := HOK.out.writes _ (List.mem_of_getElem? hx)
      have hst := laid_step s.sure s.waits k _ hx
      have hgD : Ok g ∧ g ≠ D := hrd.memL g rfl
      have hglt := hrd.lt g hgD.1
      generalize s.waits[k] = x at *
      have hlen : x.1 < (laid s.sure (s.waits.take k)).length := by rw [laid_len]; exact hxw.1
      have hbd : Below wr.heap.size wr wr.drew := (Below.refl _ wr).drew
      have hset := rset_any (hrd.below hbd) x.1 hlen x.2 hxw.2
      rw [HGW.out] at c1
      have hl28 : (Instr.loadAt 71 (.pointer (some ⟨D, 1, none⟩))).run Try.prog wr.drew = .ok (.slice (some ⟨g, 0, none⟩) s.waits.length lc) wr.drew := by
        have hc := (hbd.cell (p := ⟨D, 1, none⟩) (hrd.lt D hrd.memD)).trans c1
        go_simp
      have hix : ∀ W, (Instr.indexAt 71 (.slice (some ⟨g, 0, none⟩) s.waits.length lc) (.int .i64 (k : Int))).run Try.prog W = .ok (.pointer (some ⟨g, k * 2, none⟩)) W := by
        intro W
        have i1 : (0 : Int) ≤ (k : Int) := by omega
        have i2 : (k : Int) < (s.waits.length : Int) := by omega
        clear c1 hst hset hrd hc1 hc2 hlen hxw hl28
        generalize s.waits.length = N at *
        go_simp
      have hl32 : ∀ W, Fr (· = D) wr W → (Instr.loadAt 3 (.pointer (some ⟨g, k * 2, none⟩))).run Try.prog W = .ok (.int .i64 (x.1 : Int)) W := fun W hW => by
        have hc : W.cell? ⟨g, k * 2, none⟩ = some (.int .i64 (x.1 : Int)) := (World.cell?_of_block (a := ⟨g, k * 2, none⟩) (hW.block g hglt hgD.2)).trans hc1
        go_simp
      have hl40 : ∀ W, Fr (· = D) wr W → (Instr.loadAt 9 (.pointer (some ⟨g, k * 2 + 1, none⟩))).run Try.prog W = .ok (.string ⟨x.2.toArray⟩) W := fun W hW => by
        have hc : W.cell? ⟨g, k * 2 + 1, none⟩ = some (.string ⟨x.2.toArray⟩) := (World.cell?_of_block (a := ⟨g, k * 2 + 1, none⟩) (hW.block g hglt hgD.2)).trans hc2
        go_simp
      have FD := Lib.hid (Fr.of_below (· = D) hbd)
      have hkk : (k : Int) < (s.waits.length : Int) := by omega
      have SET := Lib.hid hset
      have L28 := Lib.hid hl28
      have IX := Lib.hid hix
      have L32 := Lib.hid hl32
      have L40 := Lib.hid hl40
      have HST := Lib.hid hst
      have HFK := Lib.hid hfk
      have HMK := Lib.hid hmk
      clear hset hl28 hix hl32 hl40 hst hx hrd hfk hmk hbd hlen hxw hgD hglt hc1 hc2
      rw [← HGW.out] at c1
      rw [HGW.out] at c1
      go_wp2_with fail
      refine wp_region_held_drew (S := Fr (· = D) wr) (by kernel_rfl) FD.out (fun _ => ?_)
      refine anyH_take 0 (some 24) (.pointer (some ⟨D, 0, none⟩)) rfl rfl (by kernel_rfl) (by kernel_rfl) (by kernel_rfl) (fun _ _ _ h => h) rfl (fun _ _ => rfl) FD.out ?_
      simp only [Act.put, List.setIfInBounds_toArray, List.set_cons_zero, List.set_cons_succ]
      refine anyH_take 1 (some 25) (.pointer (some ⟨D, 0, none⟩)) rfl rfl (by kernel_rfl) (by kernel_rfl) (by kernel_rfl) (fun _ _ _ h => h) rfl (fun _ _ => rfl) FD.out ?_
      simp only [Act.put, List.setIfInBounds_toArray, List.set_cons_zero, List.set_cons_succ]
      refine anyH_take 2 (some 26) (.pointer (some ⟨D, 0, none⟩)) rfl rfl (by kernel_rfl) (by kernel_rfl) (by kernel_rfl) (fun _ _ _ h => h) rfl (fun _ _ => rfl) FD.out ?_
      simp only [Act.put, List.setIfInBounds_toArray, List.set_cons_zero, List.set_cons_succ]
      refine anyH_take 3 (some 27) (.pointer (some ⟨D, 1, none⟩)) rfl rfl (by kernel_rfl) (by kernel_rfl) (by kernel_rfl) (fun _ _ _ h => h) rfl (fun _ _ => by kernel_rfl) FD.out ?_
      simp only [Act.put, List.setIfInBounds_toArray, List.set_cons_zero, List.set_cons_succ]
      refine anyH_take 5 (some 29) (.int .i64 (k : Int)) rfl rfl (by kernel_rfl) (by kernel_rfl) (by kernel_rfl) (fun _ _ _ h => h) rfl (fun _ _ => rfl) FD.out ?_
      simp only [Act.put, List.setIfInBounds_toArray, List.set_cons_zero, List.set_cons_succ]
      refine anyH_take 9 (some 33) (.pointer (some ⟨D, 0, none⟩)) rfl rfl (by kernel_rfl) (by kernel_rfl) (by kernel_rfl) (fun _ _ _ h => h) rfl (fun _ _ => rfl) FD.out ?_
      simp only [Act.put, List.setIfInBounds_toArray, List.set_cons_zero, List.set_cons_succ]
      refine anyH_take 10 (some 34) (.pointer (some ⟨D, 0, none⟩)) rfl rfl (by kernel_rfl) (by kernel_rfl) (by kernel_rfl) (fun _ _ _ h => h) rfl (fun _ _ => rfl) FD.out ?_
      simp only [Act.put, List.setIfInBounds_toArray, List.set_cons_zero, List.set_cons_succ]
      refine anyH_take 11 (some 35) (.pointer (some ⟨D, 1, none⟩)) rfl rfl (by kernel_rfl) (by kernel_rfl) (by kernel_rfl) (fun _ _ _ h => h) rfl (fun _ _ => by kernel_rfl) FD.out ?_
      simp only [Act.put, List.setIfInBounds_toArray, List.set_cons_zero, List.set_cons_succ]
      refine anyH_take 13 (some 37) (.int .i64 (k : Int)) rfl rfl (by kernel_rfl) (by kernel_rfl) (by kernel_rfl) (fun _ _ _ h => h) rfl (fun _ _ => rfl) FD.out ?_
      simp only [Act.put, List.setIfInBounds_toArray, List.set_cons_zero, List.set_cons_succ]
      refine anyH_two 4 12 (by kernel_rfl) rfl rfl rfl rfl (fun K hK => wp_runs (some 28) rfl (ex_load 71 (.tmp 27) rfl _ _ rfl L28.out) (hK _ _ FD.out ?_)) (fun K hK => wp_runs (some 36) rfl (ex_load 71 (.tmp 35) rfl _ _ rfl L28.out) (hK _ _ FD.out ?_))
      · simp only [Act.put, List.setIfInBounds_toArray, List.set_cons_zero, List.set_cons_succ]
        refine anyH_take 6 (some 30) (.pointer (some ⟨g, k * 2, none⟩)) rfl rfl (by kernel_rfl) (by kernel_rfl) (by kernel_rfl) (fun _ _ _ h => h) rfl (fun W _ => ex_index 71 (.tmp 28) (.tmp 29) rfl _ _ _ rfl rfl (IX.out W)) FD.out ?_
        simp only [Act.put, List.setIfInBounds_toArray, List.set_cons_zero, List.set_cons_succ]
        refine anyH_take 7 (some 31) (.pointer (some ⟨g, k * 2, none⟩)) rfl rfl (by kernel_rfl) (by kernel_rfl) (by kernel_rfl) (fun _ _ _ h => h) rfl (fun _ _ => by kernel_rfl) FD.out ?_
        simp only [Act.put, List.setIfInBounds_toArray, List.set_cons_zero, List.set_cons_succ]
        refine anyH_take 8 (some 32) (.int .i64 (x.1 : Int)) rfl rfl (by kernel_rfl) (by kernel_rfl) (by kernel_rfl) (fun _ _ _ h => h) rfl (fun W hW => ex_load 3 (.tmp 31) rfl _ _ rfl (L32.out W hW)) FD.out ?_
        simp only [Act.put, List.setIfInBounds_toArray, List.set_cons_zero, List.set_cons_succ]
        refine anyH_one 12 (by kernel_rfl) rfl rfl (fun K hK => ?_)
        refine wp_runs (some 36) rfl (ex_load 71 (.tmp 35) rfl _ _ rfl L28.out) (hK _ _ FD.out ?_)
        clear hK K
        simp only [Act.put, List.setIfInBounds_toArray, List.set_cons_zero, List.set_cons_succ]
        refine anyH_take 14 (some 38) (.pointer (some ⟨g, k * 2, none⟩)) rfl rfl (by kernel_rfl) (by kernel_rfl) (by kernel_rfl) (fun _ _ _ h => h) rfl (fun W _ => ex_index 71 (.tmp 36) (.tmp 37) rfl _ _ _ rfl rfl (IX.out W)) FD.out ?_
        simp only [Act.put, List.setIfInBounds_toArray, List.set_cons_zero, List.set_cons_succ]
        refine anyH_take 15 (some 39) (.pointer (some ⟨g, k * 2 + 1, none⟩)) rfl rfl (by kernel_rfl) (by kernel_rfl) (by kernel_rfl) (fun _ _ _ h => h) rfl (fun _ _ => by kernel_rfl) FD.out ?_
        simp only [Act.put, List.setIfInBounds_toArray, List.set_cons_zero, List.set_cons_succ]
        refine anyH_take 16 (some 40) (.string ⟨x.2.toArray⟩) rfl rfl (by kernel_rfl) (by kernel_rfl) (by kernel_rfl) (fun _ _ _ h => h) rfl (fun W hW => ex_load 9 (.tmp 39) rfl _ _ rfl (L40.out W hW)) FD.out ?_
        simp only [Act.put, List.setIfInBounds_toArray, List.set_cons_zero, List.set_cons_succ]
        refine anyH_one 17 (by kernel_rfl) rfl rfl (fun K hK => ?_)
        refine wp_calls (some 41) rfl 40 _ (ex_call3 40 (.tmp 24) (.tmp 32) (.tmp 40) _ rfl _ _ _ rfl rfl rfl (fun _ _ => rfl)) (.tuple #[]) _ SET.out (fun W2 hR2 => hK _ _ (by obtain ⟨_, _, _, _, hf2, _⟩ := hR2; exact FD.out.trans hf2 (fun _ _ h => h) (fun _ _ h => h)) ?_)
        clear hK K
        simp only [Act.put, List.setIfInBounds_toArray, List.set_cons_zero, List.set_cons_succ]
        have hN : Hid (RNow O w D { s.go.1 with sure := laid s.sure (s.waits.take (k + 1)) } W2) := by
          rw [HST.out]
          exact RNow.step HFK.out HMK.out FD.out hR2
        refine wpAnyH_done (by kernel_rfl) ?_ _
        clear SET L28 IX L32 L40 HST hR2 hR c1 HFK HMK
        go_wp2
        go_roundw
        case rel => exact ⟨k + 1, by go_num, by omega, hN⟩
        case measure => simp [intOf]; omega
      · simp only [Act.put, List.setIfInBounds_toArray, List.set_cons_zero, List.set_cons_succ]
        refine anyH_take 14 (some 38) (.pointer (some ⟨g, k * 2, none⟩)) rfl rfl (by kernel_rfl) (by kernel_rfl) (by kernel_rfl) (fun _ _ _ h => h) rfl (fun W _ => ex_index 71 (.tmp 36) (.tmp 37) rfl _ _ _ rfl rfl (IX.out W)) FD.out ?_
        simp only [Act.put, List.setIfInBounds_toArray, List.set_cons_zero, List.set_cons_succ]
        refine anyH_take 15 (some 39) (.pointer (some ⟨g, k * 2 + 1, none⟩)) rfl rfl (by kernel_rfl) (by kernel_rfl) (by kernel_rfl) (fun _ _ _ h => h) rfl (fun _ _ => by kernel_rfl) FD.out ?_
        simp only [Act.put, List.setIfInBounds_toArray, List.set_cons_zero, List.set_cons_succ]
        refine anyH_take 16 (some 40) (.string ⟨x.2.toArray⟩) rfl rfl (by kernel_rfl) (by kernel_rfl) (by kernel_rfl) (fun _ _ _ h => h) rfl (fun W hW => ex_load 9 (.tmp 39) rfl _ _ rfl (L40.out W hW)) FD.out ?_
        simp only [Act.put, List.setIfInBounds_toArray, List.set_cons_zero, List.set_cons_succ]
        refine anyH_one 4 (by kernel_rfl) rfl rfl (fun K hK => ?_)
        refine wp_runs (some 28) rfl (ex_load 71 (.tmp 27) rfl _ _ rfl L28.out) (hK _ _ FD.out ?_)
        clear hK K
        simp only [Act.put, List.setIfInBounds_toArray, List.set_cons_zero, List.set_cons_succ]
        refine anyH_take 6 (some 30) (.pointer (some ⟨g, k * 2, none⟩)) rfl rfl (by kernel_rfl) (by kernel_rfl) (by kernel_rfl) (fun _ _ _ h => h) rfl (fun W _ => ex_index 71 (.tmp 28) (.tmp 29) rfl _ _ _ rfl rfl (IX.out W)) FD.out ?_
        simp only [Act.put, List.setIfInBounds_toArray, List.set_cons_zero, List.set_cons_succ]
        refine anyH_take 7 (some 31) (.pointer (some ⟨g, k * 2, none⟩)) rfl rfl (by kernel_rfl) (by kernel_rfl) (by kernel_rfl) (fun _ _ _ h => h) rfl (fun _ _ => by kernel_rfl) FD.out ?_
        simp only [Act.put, List.setIfInBounds_toArray, List.set_cons_zero, List.set_cons_succ]
        refine anyH_take 8 (some 32) (.int .i64 (x.1 : Int)) rfl rfl (by kernel_rfl) (by kernel_rfl) (by kernel_rfl) (fun _ _ _ h => h) rfl (fun W hW => ex_load 3 (.tmp 31) rfl _ _ rfl (L32.out W hW)) FD.out ?_
        simp only [Act.put, List.setIfInBounds_toArray, List.set_cons_zero, List.set_cons_succ]
        refine anyH_one 17 (by kernel_rfl) rfl rfl (fun K hK => ?_)
        refine wp_calls (some 41) rfl 40 _ (ex_call3 40 (.tmp 24) (.tmp 32) (.tmp 40) _ rfl _ _ _ rfl rfl rfl (fun _ _ => rfl)) (.tuple #[]) _ SET.out (fun W2 hR2 => hK _ _ (by obtain ⟨_, _, _, _, hf2, _⟩ := hR2; exact FD.out.trans hf2 (fun _ _ h => h) (fun _ _ h => h)) ?_)
        clear hK K
        simp only [Act.put, List.setIfInBounds_toArray, List.set_cons_zero, List.set_cons_succ]
        have hN : Hid (RNow O w D { s.go.1 with sure := laid s.sure (s.waits.take (k + 1)) } W2) := by
          rw [HST.out]
          exact RNow.step HFK.out HMK.out FD.out hR2
        refine wpAnyH_done (by kernel_rfl) ?_ _
        clear SET L28 IX L32 L40 HST hR2 hR c1 HFK HMK
        go_wp2
        go_roundw
        case rel => exact ⟨k + 1, by go_num, by omega, hN⟩
        case measure => simp [intOf]; omega
    · have hnk : ¬ (k : Int) < (s.waits.length : Int) := by omega
      have f1 := hrd.free 1
      have hfin : Hid (RNow O w D { s.go.1 with sure := laid s.sure s.waits, waits := [] } (wr.setCell ⟨D, 1, none⟩ (.slice none 0 0))) := by
        have := hR.out.then (fun O' pv lv h => h.emptied)
        rwa [List.take_of_length_le (by omega)] at this
      rw [HGW.out] at c1
      clear hrd hfk hmk hR
      go_wp2
      go_ret
      exact ⟨rfl, hfin.out⟩
theorem rflush_any {O : Nat → Prop} {w : World} {D : Nat} {pv lv : Value} {s : St} (h : RDsk O w D pv lv s) :
    Calls Try.prog 32 #[.pointer (some ⟨D, 0, none⟩)] w fun e w' => e = .returned (.int .i64 (s.flushed.2 : Nat)) ∧ RNow O w D s.flushed.1 w' := by
  unfold St.flushed
  have c2 := h.c2
  cases hd : s.down
  · rw [hd] at c2
    rw [if_neg (by simp)]
    cases hg : s.go.2
    · rw [if_neg (by simp)]
      exact rflush_loop h hd hg
    · rw [if_pos rfl]
      have hdone := rdone_any h hd
      rw [hg] at hdone
      have HD := Lib.hid hdone
      clear hdone h hd hg
      go_enter Try.func32, Try.ntmps32
      go_wp2_with fail
      refine HD.out.mono ?_
      rintro e w1 ⟨rfl, h1, f1⟩
      have N := Lib.hid (RNow.own h1 f1)
      clear h1 f1
      go_wp2
      go_ret
      exact ⟨rfl, N.out⟩
  · rw [hd] at c2
    rw [if_pos rfl]
    have H := Lib.hid (RNow.same h)
    clear hd h
    go_enter Try.func32, Try.ntmps32
    go_wp2
    go_ret
    exact ⟨rfl, H.out⟩
end Go.Proofs.Ytohmofhpbmhhjaa

