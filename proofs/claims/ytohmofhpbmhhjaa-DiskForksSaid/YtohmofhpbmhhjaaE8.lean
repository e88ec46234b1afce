/- Disk, the document's own: Crash. -/
import Derived.Test.YtohmofhpbmhhjaaE7
namespace Go.Proofs.Ytohmofhpbmhhjaa
open Go Go.RowKit

theorem RDsk.crashed {O : Nat → Prop} {w : World} {D : Nat} {pv lv : Value} {s : St} (h : RDsk O w D pv lv s) (ha : s.age + 1 ≤ 1000) :
    RNow O w D { sure := s.sure, waits := [], cut := 0, down := false, age := s.age + 1 } ((((w.setCell ⟨D, 1, none⟩ (.slice none 0 0)).setCell ⟨D, 3, none⟩ (.int .i64 0)).setCell ⟨D, 2, none⟩ (.bool false)).setCell ⟨D, 4, none⟩ (.int .i64 ((s.age : Int) + 1))) := by
  have hf : Fr (· = D) w ((((w.setCell ⟨D, 1, none⟩ (.slice none 0 0)).setCell ⟨D, 3, none⟩ (.int .i64 0)).setCell ⟨D, 2, none⟩ (.bool false)).setCell ⟨D, 4, none⟩ (.int .i64 ((s.age : Int) + 1))) :=
    ((((Fr.refl (· = D) w).setCell ⟨D, 1, none⟩ (Or.inl rfl) _).setCell ⟨D, 3, none⟩ (Or.inl rfl) _).setCell ⟨D, 2, none⟩ (Or.inl rfl) _).setCell ⟨D, 4, none⟩ (Or.inl rfl) _
  refine ⟨O, pv, .slice none 0 0, ⟨⟨h.ok.pages, (fun x hx => by simp at hx), h.ok.some, h.ok.few, by simp, by simp, ha⟩, ?_, owns_frame h.pages (fun k hk => hf.block k (h.lt k (h.memP k hk).1) (h.memP k hk).2), World.ownsRow_nil .., fun _ => rfl, h.memD, h.memP, (fun g hg => by simp [Value.ownBlock] at hg), fun k hk => Nat.lt_of_lt_of_le (h.lt k hk) hf.size⟩, hf, fun _ h => Or.inl h⟩
  rw [heap_setCell_same _ D 4 _ _ _ (heap_setCell_same _ D 2 _ _ _ (heap_setCell_same _ D 3 _ _ _ (heap_setCell_same _ D 1 _ _ _ h.blk)))]
  rfl
theorem RNow.of {O O' : Nat → Prop} {w w1 : World} {D : Nat} {s' : St} {w' : World} (hb : Below w.heap.size w w1) (hO : O' = O) (h : RNow O' w1 D s' w') : RNow O w D s' w' := by
  subst hO
  exact RNow.step (Fr.of_below (· = D) hb) (fun _ h => Or.inl h) (Fr.refl _ _) h

set_option maxRecDepth 100000 in
set_option maxHeartbeats 16000000 in
theorem rcrash_any {O : Nat → Prop} {w : World} {D : Nat} {pv lv : Value} {s : St} (h : RDsk O w D pv lv s) (ha : s.age + 1 ≤ 1000) (kv : Value) (keep : List Bool) (torn at' : Int) (hv : Bools w kv keep) (hvo : ∀ g, kv.ownBlock = some g → keep ≠ [] → g < w.heap.size ∧ g ≠ D) (hkl : keep.length ≤ 9223372036854775807) :
    Calls Try.prog 35 #[.pointer (some ⟨D, 0, none⟩), .agg #[kv, .int .i64 torn, .int .i64 at']] w fun e w' => e = .returned (.int .i64 0) ∧ RNow O w D (s.crashed keep torn at') w' := by
  unfold St.crashed
  obtain ⟨f, hf⟩ : ∃ f, f = outl keep torn at' := ⟨_, rfl⟩
  have hfle : ∀ k, f k ≤ 64 := fun k => by rw [hf]; exact outl_le keep torn at' k
  rw [← hf]
  obtain ⟨w1, hw1⟩ : ∃ w1, w.alloc (.cells #[kv, .int .i64 torn, .int .i64 at'] 32) = w1 := ⟨_, rfl⟩
  have hb1 : Below w.heap.size w w1 := by rw [← hw1]; exact (Below.refl _ w).alloc (Nat.le_refl _) _
  have hbox : w1.heap[w.heap.size]? = some (.cells #[kv, .int .i64 torn, .int .i64 at'] 32) := by rw [← hw1]; exact heap_alloc_last w _
  have hv1 := hv.below hb1
  have hs1 : w1.heap.size = w.heap.size + 1 := by rw [← hw1]; simp
  have hDw := h.lt D h.memD
  have h1 := h.below hb1
  have c1 := h1.c1
  obtain ⟨la, lc, rfl, _⟩ := h1.lshape
  have hwn := h.ok.wn
  have HF := Lib.hid hf
  have HFL := Lib.hid hfle
  have HB1 := Lib.hid hb1
  have HBX := Lib.hid hbox
  have HV1 := Lib.hid hv1
  have HS1 := Lib.hid hs1
  have HVO := Lib.hid hvo
  have HOK := Lib.hid h.ok
  have HA := Lib.hid ha
  have HKL := Lib.hid hkl
  have HDW := Lib.hid hDw
  have h0 : Hid (RNow O w1 D { s with sure := crashL f s.sure s.waits 0 } w1) := RNow.same h1
  clear hf hfle hb1 hbox hv1 hs1 hvo ha hkl h hv h1 hDw
  go_enter Try.func35, Try.ntmps35
  go_wp2_with fail
  clear c1 hw1
  go_loopw [5] (fun iv wr => ∃ k : Nat, iv = .int .i64 (k : Int) ∧ k ≤ s.waits.length ∧ Hid (RNow O w1 D { s with sure := crashL f s.sure s.waits k } wr)) (fun iv _ => s.waits.length - (intOf iv).toNat)
  case atStart => exact ⟨0, rfl, Nat.zero_le _, h0⟩
  case round =>
    clear h0
    obtain ⟨k, rfl, hk, hR⟩ := hrel
    have hRO := hR.out
    obtain ⟨Ok, pk, lk, hrd, hfk, hmk⟩ := hRO
    have c1 := hrd.c1
    obtain ⟨la', lc', rfl, _⟩ := hrd.lshape
    simp only at c1
    by_cases hgo : k < s.waits.length
    · have hx := List.getElem?_eq_getElem hgo
      obtain ⟨g, c, hge, hc1, hc2⟩ := hrd.waitAt k _ hx
      cases hge
      have hxw := HOK.out.writes _ (List.mem_of_getElem? hx)
      have hlay := crashL_step f s.sure s.waits k _ hx
      generalize s.waits[k] = x at *
      have hxi : x.1 < (crashL f s.sure s.waits k).length := by rw [crashL_len]; exact hxw.1
      obtain ⟨pg, pc, rfl, hpc⟩ := hrd.pageAt x.1 _ (List.getElem?_eq_getElem hxi)
      have hpl := hrd.ok.pages _ (List.getElem_mem hxi)
      have hgetD : (crashL f s.sure s.waits k).getD x.1 [] = (crashL f s.sure s.waits k)[x.1] := by simp [List.getD, hxi]
      rw [hgetD] at hlay
      generalize (crashL f s.sure s.waits k)[x.1] = p at *
      have c0 := hrd.c0
      simp only at c0
      have hpD := hrd.memP pg rfl
      have hpglt := hrd.lt pg hpD.1
      obtain ⟨wa, hwa⟩ : ∃ wa, wr.alloc (.cells #[.int .i64 (x.1 : Int), .string ⟨x.2.toArray⟩] 77) = wa := ⟨_, rfl⟩
      have hba : Below wr.heap.size wr wa := by rw [← hwa]; exact (Below.refl _ wr).alloc (Nat.le_refl _) _
      have hsa : wa.heap.size = wr.heap.size + 1 := by rw [← hwa]; simp
      have hra : wa.heap[wr.heap.size]? = some (.cells #[.int .i64 (x.1 : Int), .string ⟨x.2.toArray⟩] 77) := by rw [← hwa]; exact heap_alloc_last wr _
      have hDlt := hrd.lt D hrd.memD
      have hDt : wr.heap.size ≠ D := by omega
      have hbxa : wa.heap[w.heap.size]? = some (.cells #[kv, .int .i64 torn, .int .i64 at'] 32) :=
        (hba.block _ (by have := hfk.size; have := HS1.out; omega)).trans ((hfk.block _ (by have := HS1.out; omega) (by have := HDW.out; omega)).trans HBX.out)
      have kb0 : wa.cell? ⟨w.heap.size, 0, none⟩ = some kv := by rw [cell_of_row _ _ _ _ _ _ hbxa]; rfl
      have kb1 : wa.cell? ⟨w.heap.size, 1, none⟩ = some (.int .i64 torn) := by rw [cell_of_row _ _ _ _ _ _ hbxa]; rfl
      have kb2 : wa.cell? ⟨w.heap.size, 2, none⟩ = some (.int .i64 at') := by rw [cell_of_row _ _ _ _ _ _ hbxa]; rfl
      have hva : Bools wa kv keep := HV1.out.kept (by have := hfk.size; have := hba.size; omega) (fun q hq hne => by
        have := HVO.out q hq hne
        have hs1 := HS1.out
        exact (hba.block q (by have := hfk.size; omega)).trans (hfk.block q (by omega) this.2))
      have hbd : Below wa.heap.size wa wa.drew := (Below.refl _ wa).drew
      have hset := fun (q : List UInt8) (hq : q.length = 64) => rset_any ((hrd.below hba).below hbd) x.1 hxi q hq
      have cwD : wa.cell? ⟨D, 0, none⟩ = some (.slice (some ⟨pg, 0, none⟩) (crashL f s.sure s.waits k).length pc) := (hba.cell (p := ⟨D, 0, none⟩) hDlt).trans c0
      have hl58 : (Instr.loadAt 70 (.pointer (some ⟨D, 0, none⟩))).run Try.prog wa.drew = .ok (.slice (some ⟨pg, 0, none⟩) (crashL f s.sure s.waits k).length pc) wa.drew := by
        have hc := (hbd.cell (p := ⟨D, 0, none⟩) (by show D < wa.heap.size; omega)).trans cwD
        go_simp
      have hix : ∀ W, (Instr.indexAt 70 (.slice (some ⟨pg, 0, none⟩) (crashL f s.sure s.waits k).length pc) (.int .i64 (x.1 : Int))).run Try.prog W = .ok (.pointer (some ⟨pg, x.1, none⟩)) W := by
        intro W
        have i1 : (0 : Int) ≤ (x.1 : Int) := by omega
        have i2 : (x.1 : Int) < ((crashL f s.sure s.waits k).length : Int) := by omega
        clear c1 c0 hset hrd hc1 hc2 hlay hxw hl58 hpc hxi hgetD cwD hR hfk
        generalize (crashL f s.sure s.waits k).length = N at *
        go_simp
      have hl62 : ∀ W, Fr (· = D) wa W → (Instr.loadAt 9 (.pointer (some ⟨pg, x.1, none⟩))).run Try.prog W = .ok (.string ⟨p.toArray⟩) W := fun W hW => by
        have hc : W.cell? ⟨pg, x.1, none⟩ = some (.string ⟨p.toArray⟩) := (World.cell?_of_block (a := ⟨pg, x.1, none⟩) ((hW.block pg (by omega) hpD.2).trans (hba.block pg hpglt))).trans hpc
        go_simp
      have hl50 : ∀ W, Fr (· = D) wa W → (Instr.loadAt 3 (.pointer (some ⟨wr.heap.size, 0, none⟩))).run Try.prog W = .ok (.int .i64 (x.1 : Int)) W := fun W hW => by
        have hc : W.cell? ⟨wr.heap.size, 0, none⟩ = some (.int .i64 (x.1 : Int)) := by rw [cell_of_row W _ _ _ _ _ ((hW.block _ (by omega) hDt).trans hra)]; rfl
        go_simp
      have hl52 : ∀ W, Fr (· = D) wa W → (Instr.loadAt 9 (.pointer (some ⟨wr.heap.size, 1, none⟩))).run Try.prog W = .ok (.string ⟨x.2.toArray⟩) W := fun W hW => by
        have hc : W.cell? ⟨wr.heap.size, 1, none⟩ = some (.string ⟨x.2.toArray⟩) := by rw [cell_of_row W _ _ _ _ _ ((hW.block _ (by omega) hDt).trans hra)]; rfl
        go_simp
      have hST : ∀ m, m ≤ 64 → ∀ W, (Instr.sliceAt 9 (.string ⟨x.2.toArray⟩) none (some (.int .i64 (m : Nat))) none).run Try.prog W = .ok (.string ⟨(x.2.take m).toArray⟩) W := fun m hm W => str_to W _ Try.underlying9 x.2 m (by have := hxw.2; omega)
      have hSF : ∀ m, m ≤ 64 → ∀ W, (Instr.sliceAt 9 (.string ⟨p.toArray⟩) (some (.int .i64 (m : Nat))) none none).run Try.prog W = .ok (.string ⟨(p.drop m).toArray⟩) W := fun m hm W => str_from W _ Try.underlying9 p m (by omega)
      have hlen : ∀ m, m ≤ 64 → (x.2.take m ++ p.drop m).length = 64 := fun m hm => by have := hxw.2; simp; omega
      have hl64 : x.2.length ≤ 64 := by have := hxw.2; omega
      have hkk : (k : Int) < (s.waits.length : Int) := by omega
      have FD := Lib.hid (Fr.of_below (· = D) hbd)
      have FA := Lib.hid (Fr.of_below (· = D) hba)
      have SET := Lib.hid hset
      have L58 := Lib.hid hl58
      have IX := Lib.hid hix
      have L62 := Lib.hid hl62
      have L50 := Lib.hid hl50
      have L52 := Lib.hid hl52
      have HSTR := Lib.hid hST
      have HSF := Lib.hid hSF
      have HLEN := Lib.hid hlen
      have HLAY := Lib.hid hlay
      have HFK := Lib.hid hfk
      have HMK := Lib.hid hmk
      have HX64 := Lib.hid hl64
      have HPL := Lib.hid hpl
      obtain ⟨ka, kc, rfl, hkc⟩ := hva
      have HKC := Lib.hid hkc
      have hk1000 : k ≤ 1000 := by omega
      clear hset hl58 hix hl62 hl50 hl52 hST hSF hlen hlay hfk hmk hl64 hpl hx hrd hba hsa hra hbd hxw hxi hgetD hpD hpglt hDlt hbxa hpc hkc cwD c0 hR
      generalize (crashL f s.sure s.waits k).length = N at *
      by_cases hkn : k < keep.length
      · obtain ⟨kg, ko, rfl, _, hkc⟩ := HKC.out k hkn
        have hget : keep.getD k false = keep[k] := by simp [List.getD, hkn]
        have hkni : (k : Int) < (keep.length : Int) := by omega
        cases hkb : keep[k]
        · rw [hkb] at hkc hget
          clear hkb
          clear HKC
          by_cases ht : (k : Int) = torn
          · have htb : ((k : Int) == torn) = true := by rw [beq_iff_eq]; exact ht
            by_cases ha0 : at' < 0
            · have HM : Hid (0 ≤ 64) := Lib.hid (by omega)
              have HFM : Hid (f k = 0) := Lib.hid (by rw [HF.out]; unfold outl; rw [if_pos ht]; omega)
              clear ht
              go_wp2_with fail
              clear kb0 kb1 kb2 c1 hc1 hc2 hwa
              refine wp_region_held_drew (S := Fr (· = D) wa) (by kernel_rfl) FD.out (fun _ => ?_)
              refine anyH_take 0 (some 48) (.pointer (some ⟨D, 0, none⟩)) rfl rfl (by kernel_rfl) (by kernel_rfl) (by kernel_rfl) (fun _ _ _ h => h) rfl (fun _ _ => rfl) FD.out ?_
              simp only [Act.put, List.setIfInBounds_toArray, List.set_cons_zero, List.set_cons_succ]
              refine anyH_take 1 (some 49) (.pointer (some ⟨wr.heap.size, 0, none⟩)) rfl rfl (by kernel_rfl) (by kernel_rfl) (by kernel_rfl) (fun _ _ _ h => h) rfl (fun _ _ => by kernel_rfl) FD.out ?_
              simp only [Act.put, List.setIfInBounds_toArray, List.set_cons_zero, List.set_cons_succ]
              refine anyH_take 2 (some 50) (.int .i64 (x.1 : Int)) rfl rfl (by kernel_rfl) (by kernel_rfl) (by kernel_rfl) (fun _ _ _ h => h) rfl (fun W hW => ex_load 3 (.tmp 49) rfl _ _ rfl (L50.out W hW)) FD.out ?_
              simp only [Act.put, List.setIfInBounds_toArray, List.set_cons_zero, List.set_cons_succ]
              refine anyH_take 3 (some 51) (.pointer (some ⟨wr.heap.size, 1, none⟩)) rfl rfl (by kernel_rfl) (by kernel_rfl) (by kernel_rfl) (fun _ _ _ h => h) rfl (fun _ _ => by kernel_rfl) FD.out ?_
              simp only [Act.put, List.setIfInBounds_toArray, List.set_cons_zero, List.set_cons_succ]
              refine anyH_take 4 (some 52) (.string ⟨x.2.toArray⟩) rfl rfl (by kernel_rfl) (by kernel_rfl) (by kernel_rfl) (fun _ _ _ h => h) rfl (fun W hW => ex_load 9 (.tmp 51) rfl _ _ rfl (L52.out W hW)) FD.out ?_
              simp only [Act.put, List.setIfInBounds_toArray, List.set_cons_zero, List.set_cons_succ]
              refine anyH_take 5 (some 53) (.int .i64 (0)) rfl rfl (by kernel_rfl) (by kernel_rfl) (by kernel_rfl) (fun _ _ _ h => h) rfl (fun _ _ => rfl) FD.out ?_
              simp only [Act.put, List.setIfInBounds_toArray, List.set_cons_zero, List.set_cons_succ]
              refine anyH_take 6 (some 54) (.string ⟨(x.2.take 0).toArray⟩) rfl rfl (by kernel_rfl) (by kernel_rfl) (by kernel_rfl) (fun _ _ _ h => h) rfl (fun W _ => ex_sliceTo 9 (.tmp 52) (.tmp 53) rfl _ _ _ rfl rfl (HSTR.out 0 HM.out W)) FD.out ?_
              simp only [Act.put, List.setIfInBounds_toArray, List.set_cons_zero, List.set_cons_succ]
              refine anyH_take 7 (some 55) (.pointer (some ⟨D, 0, none⟩)) rfl rfl (by kernel_rfl) (by kernel_rfl) (by kernel_rfl) (fun _ _ _ h => h) rfl (fun _ _ => rfl) FD.out ?_
              simp only [Act.put, List.setIfInBounds_toArray, List.set_cons_zero, List.set_cons_succ]
              refine anyH_take 8 (some 56) (.pointer (some ⟨D, 0, none⟩)) rfl rfl (by kernel_rfl) (by kernel_rfl) (by kernel_rfl) (fun _ _ _ h => h) rfl (fun _ _ => rfl) FD.out ?_
              simp only [Act.put, List.setIfInBounds_toArray, List.set_cons_zero, List.set_cons_succ]
              refine anyH_take 9 (some 57) (.pointer (some ⟨D, 0, none⟩)) rfl rfl (by kernel_rfl) (by kernel_rfl) (by kernel_rfl) (fun _ _ _ h => h) rfl (fun _ _ => by kernel_rfl) FD.out ?_
              simp only [Act.put, List.setIfInBounds_toArray, List.set_cons_zero, List.set_cons_succ]
              refine anyH_take 11 (some 59) (.pointer (some ⟨wr.heap.size, 0, none⟩)) rfl rfl (by kernel_rfl) (by kernel_rfl) (by kernel_rfl) (fun _ _ _ h => h) rfl (fun _ _ => by kernel_rfl) FD.out ?_
              simp only [Act.put, List.setIfInBounds_toArray, List.set_cons_zero, List.set_cons_succ]
              refine anyH_take 12 (some 60) (.int .i64 (x.1 : Int)) rfl rfl (by kernel_rfl) (by kernel_rfl) (by kernel_rfl) (fun _ _ _ h => h) rfl (fun W hW => ex_load 3 (.tmp 59) rfl _ _ rfl (L50.out W hW)) FD.out ?_
              simp only [Act.put, List.setIfInBounds_toArray, List.set_cons_zero, List.set_cons_succ]
              refine anyH_take 15 (some 63) (.int .i64 (0)) rfl rfl (by kernel_rfl) (by kernel_rfl) (by kernel_rfl) (fun _ _ _ h => h) rfl (fun _ _ => rfl) FD.out ?_
              simp only [Act.put, List.setIfInBounds_toArray, List.set_cons_zero, List.set_cons_succ]
              refine anyH_one 10 (by kernel_rfl) rfl rfl (fun K hK => ?_)
              refine wp_runs (some 58) rfl (ex_load 70 (.tmp 57) rfl _ _ rfl L58.out) (hK _ _ FD.out ?_)
              clear hK K
              simp only [Act.put, List.setIfInBounds_toArray, List.set_cons_zero, List.set_cons_succ]
              refine anyH_take 13 (some 61) (.pointer (some ⟨pg, x.1, none⟩)) rfl rfl (by kernel_rfl) (by kernel_rfl) (by kernel_rfl) (fun _ _ _ h => h) rfl (fun W _ => ex_index 70 (.tmp 58) (.tmp 60) rfl _ _ _ rfl rfl (IX.out W)) FD.out ?_
              simp only [Act.put, List.setIfInBounds_toArray, List.set_cons_zero, List.set_cons_succ]
              refine anyH_take 14 (some 62) (.string ⟨p.toArray⟩) rfl rfl (by kernel_rfl) (by kernel_rfl) (by kernel_rfl) (fun _ _ _ h => h) rfl (fun W hW => ex_load 9 (.tmp 61) rfl _ _ rfl (L62.out W hW)) FD.out ?_
              simp only [Act.put, List.setIfInBounds_toArray, List.set_cons_zero, List.set_cons_succ]
              refine anyH_take 16 (some 64) (.string ⟨(p.drop 0).toArray⟩) rfl rfl (by kernel_rfl) (by kernel_rfl) (by kernel_rfl) (fun _ _ _ h => h) rfl (fun W _ => ex_sliceFrom 9 (.tmp 62) (.tmp 63) rfl _ _ _ rfl rfl (HSF.out 0 HM.out W)) FD.out ?_
              simp only [Act.put, List.setIfInBounds_toArray, List.set_cons_zero, List.set_cons_succ]
              refine anyH_take 17 (some 65) (.string ⟨(x.2.take 0 ++ p.drop 0).toArray⟩) rfl rfl (by kernel_rfl) (by kernel_rfl) (by kernel_rfl) (fun _ _ _ h => h) rfl (fun W _ => ex_addS 9 9 (.tmp 54) (.tmp 64) rfl (x.2.take 0) (p.drop 0) rfl rfl (by have := HX64.out; rw [List.length_take]; omega) (by have := HPL.out; rw [List.length_drop]; omega)) FD.out ?_
              simp only [Act.put, List.setIfInBounds_toArray, List.set_cons_zero, List.set_cons_succ]
              refine anyH_one 18 (by kernel_rfl) rfl rfl (fun K hK => ?_)
              refine wp_calls (some 66) rfl 40 _ (ex_call3 40 (.tmp 48) (.tmp 50) (.tmp 65) _ rfl _ _ _ rfl rfl rfl (fun _ _ => rfl)) (.tuple #[]) _ (SET.out _ (HLEN.out 0 HM.out)) (fun W2 hR2 => hK _ _ (by obtain ⟨_, _, _, _, hf2, _⟩ := hR2; exact FD.out.trans hf2 (fun _ _ h => h) (fun _ _ h => h)) ?_)
              clear hK K
              simp only [Act.put, List.setIfInBounds_toArray, List.set_cons_zero, List.set_cons_succ]
              have hN : Hid (RNow O w1 D { s with sure := crashL f s.sure s.waits (k + 1) } W2) := by
                rw [HLAY.out, HFM.out]
                exact RNow.step HFK.out HMK.out (FA.out.trans FD.out (fun _ _ h => h) (fun _ _ h => h)) hR2
              refine wpAnyH_done (by kernel_rfl) ?_ _
              clear SET L58 IX L62 L50 L52 HSTR HSF HLAY hR2 HFK HMK FD FA
              go_wp2
              go_roundw
              case rel => exact ⟨k + 1, by go_num, by omega, hN⟩
              case measure => simp [intOf]; omega
            · by_cases ha1 : 64 < at'
              · have HM : Hid (64 ≤ 64) := Lib.hid (by omega)
                have HFM : Hid (f k = 64) := Lib.hid (by rw [HF.out]; unfold outl; rw [if_pos ht]; omega)
                clear ht
                go_wp2_with fail
                clear kb0 kb1 kb2 c1 hc1 hc2 hwa
                refine wp_region_held_drew (S := Fr (· = D) wa) (by kernel_rfl) FD.out (fun _ => ?_)
                refine anyH_take 0 (some 48) (.pointer (some ⟨D, 0, none⟩)) rfl rfl (by kernel_rfl) (by kernel_rfl) (by kernel_rfl) (fun _ _ _ h => h) rfl (fun _ _ => rfl) FD.out ?_
                simp only [Act.put, List.setIfInBounds_toArray, List.set_cons_zero, List.set_cons_succ]
                refine anyH_take 1 (some 49) (.pointer (some ⟨wr.heap.size, 0, none⟩)) rfl rfl (by kernel_rfl) (by kernel_rfl) (by kernel_rfl) (fun _ _ _ h => h) rfl (fun _ _ => by kernel_rfl) FD.out ?_
                simp only [Act.put, List.setIfInBounds_toArray, List.set_cons_zero, List.set_cons_succ]
                refine anyH_take 2 (some 50) (.int .i64 (x.1 : Int)) rfl rfl (by kernel_rfl) (by kernel_rfl) (by kernel_rfl) (fun _ _ _ h => h) rfl (fun W hW => ex_load 3 (.tmp 49) rfl _ _ rfl (L50.out W hW)) FD.out ?_
                simp only [Act.put, List.setIfInBounds_toArray, List.set_cons_zero, List.set_cons_succ]
                refine anyH_take 3 (some 51) (.pointer (some ⟨wr.heap.size, 1, none⟩)) rfl rfl (by kernel_rfl) (by kernel_rfl) (by kernel_rfl) (fun _ _ _ h => h) rfl (fun _ _ => by kernel_rfl) FD.out ?_
                simp only [Act.put, List.setIfInBounds_toArray, List.set_cons_zero, List.set_cons_succ]
                refine anyH_take 4 (some 52) (.string ⟨x.2.toArray⟩) rfl rfl (by kernel_rfl) (by kernel_rfl) (by kernel_rfl) (fun _ _ _ h => h) rfl (fun W hW => ex_load 9 (.tmp 51) rfl _ _ rfl (L52.out W hW)) FD.out ?_
                simp only [Act.put, List.setIfInBounds_toArray, List.set_cons_zero, List.set_cons_succ]
                refine anyH_take 5 (some 53) (.int .i64 (64)) rfl rfl (by kernel_rfl) (by kernel_rfl) (by kernel_rfl) (fun _ _ _ h => h) rfl (fun _ _ => rfl) FD.out ?_
                simp only [Act.put, List.setIfInBounds_toArray, List.set_cons_zero, List.set_cons_succ]
                refine anyH_take 6 (some 54) (.string ⟨(x.2.take 64).toArray⟩) rfl rfl (by kernel_rfl) (by kernel_rfl) (by kernel_rfl) (fun _ _ _ h => h) rfl (fun W _ => ex_sliceTo 9 (.tmp 52) (.tmp 53) rfl _ _ _ rfl rfl (HSTR.out 64 HM.out W)) FD.out ?_
                simp only [Act.put, List.setIfInBounds_toArray, List.set_cons_zero, List.set_cons_succ]
                refine anyH_take 7 (some 55) (.pointer (some ⟨D, 0, none⟩)) rfl rfl (by kernel_rfl) (by kernel_rfl) (by kernel_rfl) (fun _ _ _ h => h) rfl (fun _ _ => rfl) FD.out ?_
                simp only [Act.put, List.setIfInBounds_toArray, List.set_cons_zero, List.set_cons_succ]
                refine anyH_take 8 (some 56) (.pointer (some ⟨D, 0, none⟩)) rfl rfl (by kernel_rfl) (by kernel_rfl) (by kernel_rfl) (fun _ _ _ h => h) rfl (fun _ _ => rfl) FD.out ?_
                simp only [Act.put, List.setIfInBounds_toArray, List.set_cons_zero, List.set_cons_succ]
                refine anyH_take 9 (some 57) (.pointer (some ⟨D, 0, none⟩)) rfl rfl (by kernel_rfl) (by kernel_rfl) (by kernel_rfl) (fun _ _ _ h => h) rfl (fun _ _ => by kernel_rfl) FD.out ?_
                simp only [Act.put, List.setIfInBounds_toArray, List.set_cons_zero, List.set_cons_succ]
                refine anyH_take 11 (some 59) (.pointer (some ⟨wr.heap.size, 0, none⟩)) rfl rfl (by kernel_rfl) (by kernel_rfl) (by kernel_rfl) (fun _ _ _ h => h) rfl (fun _ _ => by kernel_rfl) FD.out ?_
                simp only [Act.put, List.setIfInBounds_toArray, List.set_cons_zero, List.set_cons_succ]
                refine anyH_take 12 (some 60) (.int .i64 (x.1 : Int)) rfl rfl (by kernel_rfl) (by kernel_rfl) (by kernel_rfl) (fun _ _ _ h => h) rfl (fun W hW => ex_load 3 (.tmp 59) rfl _ _ rfl (L50.out W hW)) FD.out ?_
                simp only [Act.put, List.setIfInBounds_toArray, List.set_cons_zero, List.set_cons_succ]
                refine anyH_take 15 (some 63) (.int .i64 (64)) rfl rfl (by kernel_rfl) (by kernel_rfl) (by kernel_rfl) (fun _ _ _ h => h) rfl (fun _ _ => rfl) FD.out ?_
                simp only [Act.put, List.setIfInBounds_toArray, List.set_cons_zero, List.set_cons_succ]
                refine anyH_one 10 (by kernel_rfl) rfl rfl (fun K hK => ?_)
                refine wp_runs (some 58) rfl (ex_load 70 (.tmp 57) rfl _ _ rfl L58.out) (hK _ _ FD.out ?_)
                clear hK K
                simp only [Act.put, List.setIfInBounds_toArray, List.set_cons_zero, List.set_cons_succ]
                refine anyH_take 13 (some 61) (.pointer (some ⟨pg, x.1, none⟩)) rfl rfl (by kernel_rfl) (by kernel_rfl) (by kernel_rfl) (fun _ _ _ h => h) rfl (fun W _ => ex_index 70 (.tmp 58) (.tmp 60) rfl _ _ _ rfl rfl (IX.out W)) FD.out ?_
                simp only [Act.put, List.setIfInBounds_toArray, List.set_cons_zero, List.set_cons_succ]
                refine anyH_take 14 (some 62) (.string ⟨p.toArray⟩) rfl rfl (by kernel_rfl) (by kernel_rfl) (by kernel_rfl) (fun _ _ _ h => h) rfl (fun W hW => ex_load 9 (.tmp 61) rfl _ _ rfl (L62.out W hW)) FD.out ?_
                simp only [Act.put, List.setIfInBounds_toArray, List.set_cons_zero, List.set_cons_succ]
                refine anyH_take 16 (some 64) (.string ⟨(p.drop 64).toArray⟩) rfl rfl (by kernel_rfl) (by kernel_rfl) (by kernel_rfl) (fun _ _ _ h => h) rfl (fun W _ => ex_sliceFrom 9 (.tmp 62) (.tmp 63) rfl _ _ _ rfl rfl (HSF.out 64 HM.out W)) FD.out ?_
                simp only [Act.put, List.setIfInBounds_toArray, List.set_cons_zero, List.set_cons_succ]
                refine anyH_take 17 (some 65) (.string ⟨(x.2.take 64 ++ p.drop 64).toArray⟩) rfl rfl (by kernel_rfl) (by kernel_rfl) (by kernel_rfl) (fun _ _ _ h => h) rfl (fun W _ => ex_addS 9 9 (.tmp 54) (.tmp 64) rfl (x.2.take 64) (p.drop 64) rfl rfl (by have := HX64.out; rw [List.length_take]; omega) (by have := HPL.out; rw [List.length_drop]; omega)) FD.out ?_
                simp only [Act.put, List.setIfInBounds_toArray, List.set_cons_zero, List.set_cons_succ]
                refine anyH_one 18 (by kernel_rfl) rfl rfl (fun K hK => ?_)
                refine wp_calls (some 66) rfl 40 _ (ex_call3 40 (.tmp 48) (.tmp 50) (.tmp 65) _ rfl _ _ _ rfl rfl rfl (fun _ _ => rfl)) (.tuple #[]) _ (SET.out _ (HLEN.out 64 HM.out)) (fun W2 hR2 => hK _ _ (by obtain ⟨_, _, _, _, hf2, _⟩ := hR2; exact FD.out.trans hf2 (fun _ _ h => h) (fun _ _ h => h)) ?_)
                clear hK K
                simp only [Act.put, List.setIfInBounds_toArray, List.set_cons_zero, List.set_cons_succ]
                have hN : Hid (RNow O w1 D { s with sure := crashL f s.sure s.waits (k + 1) } W2) := by
                  rw [HLAY.out, HFM.out]
                  exact RNow.step HFK.out HMK.out (FA.out.trans FD.out (fun _ _ h => h) (fun _ _ h => h)) hR2
                refine wpAnyH_done (by kernel_rfl) ?_ _
                clear SET L58 IX L62 L50 L52 HSTR HSF HLAY hR2 HFK HMK FD FA
                go_wp2
                go_roundw
                case rel => exact ⟨k + 1, by go_num, by omega, hN⟩
                case measure => simp [intOf]; omega
              · obtain ⟨a, rfl⟩ : ∃ a : Nat, at' = (a : Int) := ⟨at'.toNat, by omega⟩
                have HM : Hid (a ≤ 64) := Lib.hid (by omega)
                have HFM : Hid (f k = a) := Lib.hid (by rw [HF.out]; unfold outl; rw [if_pos ht]; omega)
                clear ht
                go_wp2_with fail
                clear kb0 kb1 kb2 c1 hc1 hc2 hwa
                refine wp_region_held_drew (S := Fr (· = D) wa) (by kernel_rfl) FD.out (fun _ => ?_)
                refine anyH_take 0 (some 48) (.pointer (some ⟨D, 0, none⟩)) rfl rfl (by kernel_rfl) (by kernel_rfl) (by kernel_rfl) (fun _ _ _ h => h) rfl (fun _ _ => rfl) FD.out ?_
                simp only [Act.put, List.setIfInBounds_toArray, List.set_cons_zero, List.set_cons_succ]
                refine anyH_take 1 (some 49) (.pointer (some ⟨wr.heap.size, 0, none⟩)) rfl rfl (by kernel_rfl) (by kernel_rfl) (by kernel_rfl) (fun _ _ _ h => h) rfl (fun _ _ => by kernel_rfl) FD.out ?_
                simp only [Act.put, List.setIfInBounds_toArray, List.set_cons_zero, List.set_cons_succ]
                refine anyH_take 2 (some 50) (.int .i64 (x.1 : Int)) rfl rfl (by kernel_rfl) (by kernel_rfl) (by kernel_rfl) (fun _ _ _ h => h) rfl (fun W hW => ex_load 3 (.tmp 49) rfl _ _ rfl (L50.out W hW)) FD.out ?_
                simp only [Act.put, List.setIfInBounds_toArray, List.set_cons_zero, List.set_cons_succ]
                refine anyH_take 3 (some 51) (.pointer (some ⟨wr.heap.size, 1, none⟩)) rfl rfl (by kernel_rfl) (by kernel_rfl) (by kernel_rfl) (fun _ _ _ h => h) rfl (fun _ _ => by kernel_rfl) FD.out ?_
                simp only [Act.put, List.setIfInBounds_toArray, List.set_cons_zero, List.set_cons_succ]
                refine anyH_take 4 (some 52) (.string ⟨x.2.toArray⟩) rfl rfl (by kernel_rfl) (by kernel_rfl) (by kernel_rfl) (fun _ _ _ h => h) rfl (fun W hW => ex_load 9 (.tmp 51) rfl _ _ rfl (L52.out W hW)) FD.out ?_
                simp only [Act.put, List.setIfInBounds_toArray, List.set_cons_zero, List.set_cons_succ]
                refine anyH_take 5 (some 53) (.int .i64 ((a : Int))) rfl rfl (by kernel_rfl) (by kernel_rfl) (by kernel_rfl) (fun _ _ _ h => h) rfl (fun _ _ => rfl) FD.out ?_
                simp only [Act.put, List.setIfInBounds_toArray, List.set_cons_zero, List.set_cons_succ]
                refine anyH_take 6 (some 54) (.string ⟨(x.2.take a).toArray⟩) rfl rfl (by kernel_rfl) (by kernel_rfl) (by kernel_rfl) (fun _ _ _ h => h) rfl (fun W _ => ex_sliceTo 9 (.tmp 52) (.tmp 53) rfl _ _ _ rfl rfl (HSTR.out a HM.out W)) FD.out ?_
                simp only [Act.put, List.setIfInBounds_toArray, List.set_cons_zero, List.set_cons_succ]
                refine anyH_take 7 (some 55) (.pointer (some ⟨D, 0, none⟩)) rfl rfl (by kernel_rfl) (by kernel_rfl) (by kernel_rfl) (fun _ _ _ h => h) rfl (fun _ _ => rfl) FD.out ?_
                simp only [Act.put, List.setIfInBounds_toArray, List.set_cons_zero, List.set_cons_succ]
                refine anyH_take 8 (some 56) (.pointer (some ⟨D, 0, none⟩)) rfl rfl (by kernel_rfl) (by kernel_rfl) (by kernel_rfl) (fun _ _ _ h => h) rfl (fun _ _ => rfl) FD.out ?_
                simp only [Act.put, List.setIfInBounds_toArray, List.set_cons_zero, List.set_cons_succ]
                refine anyH_take 9 (some 57) (.pointer (some ⟨D, 0, none⟩)) rfl rfl (by kernel_rfl) (by kernel_rfl) (by kernel_rfl) (fun _ _ _ h => h) rfl (fun _ _ => by kernel_rfl) FD.out ?_
                simp only [Act.put, List.setIfInBounds_toArray, List.set_cons_zero, List.set_cons_succ]
                refine anyH_take 11 (some 59) (.pointer (some ⟨wr.heap.size, 0, none⟩)) rfl rfl (by kernel_rfl) (by kernel_rfl) (by kernel_rfl) (fun _ _ _ h => h) rfl (fun _ _ => by kernel_rfl) FD.out ?_
                simp only [Act.put, List.setIfInBounds_toArray, List.set_cons_zero, List.set_cons_succ]
                refine anyH_take 12 (some 60) (.int .i64 (x.1 : Int)) rfl rfl (by kernel_rfl) (by kernel_rfl) (by kernel_rfl) (fun _ _ _ h => h) rfl (fun W hW => ex_load 3 (.tmp 59) rfl _ _ rfl (L50.out W hW)) FD.out ?_
                simp only [Act.put, List.setIfInBounds_toArray, List.set_cons_zero, List.set_cons_succ]
                refine anyH_take 15 (some 63) (.int .i64 ((a : Int))) rfl rfl (by kernel_rfl) (by kernel_rfl) (by kernel_rfl) (fun _ _ _ h => h) rfl (fun _ _ => rfl) FD.out ?_
                simp only [Act.put, List.setIfInBounds_toArray, List.set_cons_zero, List.set_cons_succ]
                refine anyH_one 10 (by kernel_rfl) rfl rfl (fun K hK => ?_)
                refine wp_runs (some 58) rfl (ex_load 70 (.tmp 57) rfl _ _ rfl L58.out) (hK _ _ FD.out ?_)
                clear hK K
                simp only [Act.put, List.setIfInBounds_toArray, List.set_cons_zero, List.set_cons_succ]
                refine anyH_take 13 (some 61) (.pointer (some ⟨pg, x.1, none⟩)) rfl rfl (by kernel_rfl) (by kernel_rfl) (by kernel_rfl) (fun _ _ _ h => h) rfl (fun W _ => ex_index 70 (.tmp 58) (.tmp 60) rfl _ _ _ rfl rfl (IX.out W)) FD.out ?_
                simp only [Act.put, List.setIfInBounds_toArray, List.set_cons_zero, List.set_cons_succ]
                refine anyH_take 14 (some 62) (.string ⟨p.toArray⟩) rfl rfl (by kernel_rfl) (by kernel_rfl) (by kernel_rfl) (fun _ _ _ h => h) rfl (fun W hW => ex_load 9 (.tmp 61) rfl _ _ rfl (L62.out W hW)) FD.out ?_
                simp only [Act.put, List.setIfInBounds_toArray, List.set_cons_zero, List.set_cons_succ]
                refine anyH_take 16 (some 64) (.string ⟨(p.drop a).toArray⟩) rfl rfl (by kernel_rfl) (by kernel_rfl) (by kernel_rfl) (fun _ _ _ h => h) rfl (fun W _ => ex_sliceFrom 9 (.tmp 62) (.tmp 63) rfl _ _ _ rfl rfl (HSF.out a HM.out W)) FD.out ?_
                simp only [Act.put, List.setIfInBounds_toArray, List.set_cons_zero, List.set_cons_succ]
                refine anyH_take 17 (some 65) (.string ⟨(x.2.take a ++ p.drop a).toArray⟩) rfl rfl (by kernel_rfl) (by kernel_rfl) (by kernel_rfl) (fun _ _ _ h => h) rfl (fun W _ => ex_addS 9 9 (.tmp 54) (.tmp 64) rfl (x.2.take a) (p.drop a) rfl rfl (by have := HX64.out; rw [List.length_take]; omega) (by have := HPL.out; rw [List.length_drop]; omega)) FD.out ?_
                simp only [Act.put, List.setIfInBounds_toArray, List.set_cons_zero, List.set_cons_succ]
                refine anyH_one 18 (by kernel_rfl) rfl rfl (fun K hK => ?_)
                refine wp_calls (some 66) rfl 40 _ (ex_call3 40 (.tmp 48) (.tmp 50) (.tmp 65) _ rfl _ _ _ rfl rfl rfl (fun _ _ => rfl)) (.tuple #[]) _ (SET.out _ (HLEN.out a HM.out)) (fun W2 hR2 => hK _ _ (by obtain ⟨_, _, _, _, hf2, _⟩ := hR2; exact FD.out.trans hf2 (fun _ _ h => h) (fun _ _ h => h)) ?_)
                clear hK K
                simp only [Act.put, List.setIfInBounds_toArray, List.set_cons_zero, List.set_cons_succ]
                have hN : Hid (RNow O w1 D { s with sure := crashL f s.sure s.waits (k + 1) } W2) := by
                  rw [HLAY.out, HFM.out]
                  exact RNow.step HFK.out HMK.out (FA.out.trans FD.out (fun _ _ h => h) (fun _ _ h => h)) hR2
                refine wpAnyH_done (by kernel_rfl) ?_ _
                clear SET L58 IX L62 L50 L52 HSTR HSF HLAY hR2 HFK HMK FD FA
                go_wp2
                go_roundw
                case rel => exact ⟨k + 1, by go_num, by omega, hN⟩
                case measure => simp [intOf]; omega
          · have htb : ((k : Int) == torn) = false := by rw [beq_eq_false_iff_ne]; exact ht
            have HM : Hid (0 ≤ 64) := Lib.hid (by omega)
            have HFM : Hid (f k = 0) := Lib.hid (by rw [HF.out]; unfold outl; rw [if_neg ht, hget, if_neg (by simp)])
            clear ht
            go_wp2_with fail
            clear kb0 kb1 kb2 c1 hc1 hc2 hwa
            refine wp_region_held_drew (S := Fr (· = D) wa) (by kernel_rfl) FD.out (fun _ => ?_)
            refine anyH_take 0 (some 48) (.pointer (some ⟨D, 0, none⟩)) rfl rfl (by kernel_rfl) (by kernel_rfl) (by kernel_rfl) (fun _ _ _ h => h) rfl (fun _ _ => rfl) FD.out ?_
            simp only [Act.put, List.setIfInBounds_toArray, List.set_cons_zero, List.set_cons_succ]
            refine anyH_take 1 (some 49) (.pointer (some ⟨wr.heap.size, 0, none⟩)) rfl rfl (by kernel_rfl) (by kernel_rfl) (by kernel_rfl) (fun _ _ _ h => h) rfl (fun _ _ => by kernel_rfl) FD.out ?_
            simp only [Act.put, List.setIfInBounds_toArray, List.set_cons_zero, List.set_cons_succ]
            refine anyH_take 2 (some 50) (.int .i64 (x.1 : Int)) rfl rfl (by kernel_rfl) (by kernel_rfl) (by kernel_rfl) (fun _ _ _ h => h) rfl (fun W hW => ex_load 3 (.tmp 49) rfl _ _ rfl (L50.out W hW)) FD.out ?_
            simp only [Act.put, List.setIfInBounds_toArray, List.set_cons_zero, List.set_cons_succ]
            refine anyH_take 3 (some 51) (.pointer (some ⟨wr.heap.size, 1, none⟩)) rfl rfl (by kernel_rfl) (by kernel_rfl) (by kernel_rfl) (fun _ _ _ h => h) rfl (fun _ _ => by kernel_rfl) FD.out ?_
            simp only [Act.put, List.setIfInBounds_toArray, List.set_cons_zero, List.set_cons_succ]
            refine anyH_take 4 (some 52) (.string ⟨x.2.toArray⟩) rfl rfl (by kernel_rfl) (by kernel_rfl) (by kernel_rfl) (fun _ _ _ h => h) rfl (fun W hW => ex_load 9 (.tmp 51) rfl _ _ rfl (L52.out W hW)) FD.out ?_
            simp only [Act.put, List.setIfInBounds_toArray, List.set_cons_zero, List.set_cons_succ]
            refine anyH_take 5 (some 53) (.int .i64 (0)) rfl rfl (by kernel_rfl) (by kernel_rfl) (by kernel_rfl) (fun _ _ _ h => h) rfl (fun _ _ => rfl) FD.out ?_
            simp only [Act.put, List.setIfInBounds_toArray, List.set_cons_zero, List.set_cons_succ]
            refine anyH_take 6 (some 54) (.string ⟨(x.2.take 0).toArray⟩) rfl rfl (by kernel_rfl) (by kernel_rfl) (by kernel_rfl) (fun _ _ _ h => h) rfl (fun W _ => ex_sliceTo 9 (.tmp 52) (.tmp 53) rfl _ _ _ rfl rfl (HSTR.out 0 HM.out W)) FD.out ?_
            simp only [Act.put, List.setIfInBounds_toArray, List.set_cons_zero, List.set_cons_succ]
            refine anyH_take 7 (some 55) (.pointer (some ⟨D, 0, none⟩)) rfl rfl (by kernel_rfl) (by kernel_rfl) (by kernel_rfl) (fun _ _ _ h => h) rfl (fun _ _ => rfl) FD.out ?_
            simp only [Act.put, List.setIfInBounds_toArray, List.set_cons_zero, List.set_cons_succ]
            refine anyH_take 8 (some 56) (.pointer (some ⟨D, 0, none⟩)) rfl rfl (by kernel_rfl) (by kernel_rfl) (by kernel_rfl) (fun _ _ _ h => h) rfl (fun _ _ => rfl) FD.out ?_
            simp only [Act.put, List.setIfInBounds_toArray, List.set_cons_zero, List.set_cons_succ]
            refine anyH_take 9 (some 57) (.pointer (some ⟨D, 0, none⟩)) rfl rfl (by kernel_rfl) (by kernel_rfl) (by kernel_rfl) (fun _ _ _ h => h) rfl (fun _ _ => by kernel_rfl) FD.out ?_
            simp only [Act.put, List.setIfInBounds_toArray, List.set_cons_zero, List.set_cons_succ]
            refine anyH_take 11 (some 59) (.pointer (some ⟨wr.heap.size, 0, none⟩)) rfl rfl (by kernel_rfl) (by kernel_rfl) (by kernel_rfl) (fun _ _ _ h => h) rfl (fun _ _ => by kernel_rfl) FD.out ?_
            simp only [Act.put, List.setIfInBounds_toArray, List.set_cons_zero, List.set_cons_succ]
            refine anyH_take 12 (some 60) (.int .i64 (x.1 : Int)) rfl rfl (by kernel_rfl) (by kernel_rfl) (by kernel_rfl) (fun _ _ _ h => h) rfl (fun W hW => ex_load 3 (.tmp 59) rfl _ _ rfl (L50.out W hW)) FD.out ?_
            simp only [Act.put, List.setIfInBounds_toArray, List.set_cons_zero, List.set_cons_succ]
            refine anyH_take 15 (some 63) (.int .i64 (0)) rfl rfl (by kernel_rfl) (by kernel_rfl) (by kernel_rfl) (fun _ _ _ h => h) rfl (fun _ _ => rfl) FD.out ?_
            simp only [Act.put, List.setIfInBounds_toArray, List.set_cons_zero, List.set_cons_succ]
            refine anyH_one 10 (by kernel_rfl) rfl rfl (fun K hK => ?_)
            refine wp_runs (some 58) rfl (ex_load 70 (.tmp 57) rfl _ _ rfl L58.out) (hK _ _ FD.out ?_)
            clear hK K
            simp only [Act.put, List.setIfInBounds_toArray, List.set_cons_zero, List.set_cons_succ]
            refine anyH_take 13 (some 61) (.pointer (some ⟨pg, x.1, none⟩)) rfl rfl (by kernel_rfl) (by kernel_rfl) (by kernel_rfl) (fun _ _ _ h => h) rfl (fun W _ => ex_index 70 (.tmp 58) (.tmp 60) rfl _ _ _ rfl rfl (IX.out W)) FD.out ?_
            simp only [Act.put, List.setIfInBounds_toArray, List.set_cons_zero, List.set_cons_succ]
            refine anyH_take 14 (some 62) (.string ⟨p.toArray⟩) rfl rfl (by kernel_rfl) (by kernel_rfl) (by kernel_rfl) (fun _ _ _ h => h) rfl (fun W hW => ex_load 9 (.tmp 61) rfl _ _ rfl (L62.out W hW)) FD.out ?_
            simp only [Act.put, List.setIfInBounds_toArray, List.set_cons_zero, List.set_cons_succ]
            refine anyH_take 16 (some 64) (.string ⟨(p.drop 0).toArray⟩) rfl rfl (by kernel_rfl) (by kernel_rfl) (by kernel_rfl) (fun _ _ _ h => h) rfl (fun W _ => ex_sliceFrom 9 (.tmp 62) (.tmp 63) rfl _ _ _ rfl rfl (HSF.out 0 HM.out W)) FD.out ?_
            simp only [Act.put, List.setIfInBounds_toArray, List.set_cons_zero, List.set_cons_succ]
            refine anyH_take 17 (some 65) (.string ⟨(x.2.take 0 ++ p.drop 0).toArray⟩) rfl rfl (by kernel_rfl) (by kernel_rfl) (by kernel_rfl) (fun _ _ _ h => h) rfl (fun W _ => ex_addS 9 9 (.tmp 54) (.tmp 64) rfl (x.2.take 0) (p.drop 0) rfl rfl (by have := HX64.out; rw [List.length_take]; omega) (by have := HPL.out; rw [List.length_drop]; omega)) FD.out ?_
            simp only [Act.put, List.setIfInBounds_toArray, List.set_cons_zero, List.set_cons_succ]
            refine anyH_one 18 (by kernel_rfl) rfl rfl (fun K hK => ?_)
            refine wp_calls (some 66) rfl 40 _ (ex_call3 40 (.tmp 48) (.tmp 50) (.tmp 65) _ rfl _ _ _ rfl rfl rfl (fun _ _ => rfl)) (.tuple #[]) _ (SET.out _ (HLEN.out 0 HM.out)) (fun W2 hR2 => hK _ _ (by obtain ⟨_, _, _, _, hf2, _⟩ := hR2; exact FD.out.trans hf2 (fun _ _ h => h) (fun _ _ h => h)) ?_)
            clear hK K
            simp only [Act.put, List.setIfInBounds_toArray, List.set_cons_zero, List.set_cons_succ]
            have hN : Hid (RNow O w1 D { s with sure := crashL f s.sure s.waits (k + 1) } W2) := by
              rw [HLAY.out, HFM.out]
              exact RNow.step HFK.out HMK.out (FA.out.trans FD.out (fun _ _ h => h) (fun _ _ h => h)) hR2
            refine wpAnyH_done (by kernel_rfl) ?_ _
            clear SET L58 IX L62 L50 L52 HSTR HSF HLAY hR2 HFK HMK FD FA
            go_wp2
            go_roundw
            case rel => exact ⟨k + 1, by go_num, by omega, hN⟩
            case measure => simp [intOf]; omega
        · rw [hkb] at hkc hget
          clear hkb
          clear HKC
          by_cases ht : (k : Int) = torn
          · have htb : ((k : Int) == torn) = true := by rw [beq_iff_eq]; exact ht
            by_cases ha0 : at' < 0
            · have HM : Hid (0 ≤ 64) := Lib.hid (by omega)
              have HFM : Hid (f k = 0) := Lib.hid (by rw [HF.out]; unfold outl; rw [if_pos ht]; omega)
              clear ht
              go_wp2_with fail
              clear kb0 kb1 kb2 c1 hc1 hc2 hwa
              refine wp_region_held_drew (S := Fr (· = D) wa) (by kernel_rfl) FD.out (fun _ => ?_)
              refine anyH_take 0 (some 48) (.pointer (some ⟨D, 0, none⟩)) rfl rfl (by kernel_rfl) (by kernel_rfl) (by kernel_rfl) (fun _ _ _ h => h) rfl (fun _ _ => rfl) FD.out ?_
              simp only [Act.put, List.setIfInBounds_toArray, List.set_cons_zero, List.set_cons_succ]
              refine anyH_take 1 (some 49) (.pointer (some ⟨wr.heap.size, 0, none⟩)) rfl rfl (by kernel_rfl) (by kernel_rfl) (by kernel_rfl) (fun _ _ _ h => h) rfl (fun _ _ => by kernel_rfl) FD.out ?_
              simp only [Act.put, List.setIfInBounds_toArray, List.set_cons_zero, List.set_cons_succ]
              refine anyH_take 2 (some 50) (.int .i64 (x.1 : Int)) rfl rfl (by kernel_rfl) (by kernel_rfl) (by kernel_rfl) (fun _ _ _ h => h) rfl (fun W hW => ex_load 3 (.tmp 49) rfl _ _ rfl (L50.out W hW)) FD.out ?_
              simp only [Act.put, List.setIfInBounds_toArray, List.set_cons_zero, List.set_cons_succ]
              refine anyH_take 3 (some 51) (.pointer (some ⟨wr.heap.size, 1, none⟩)) rfl rfl (by kernel_rfl) (by kernel_rfl) (by kernel_rfl) (fun _ _ _ h => h) rfl (fun _ _ => by kernel_rfl) FD.out ?_
              simp only [Act.put, List.setIfInBounds_toArray, List.set_cons_zero, List.set_cons_succ]
              refine anyH_take 4 (some 52) (.string ⟨x.2.toArray⟩) rfl rfl (by kernel_rfl) (by kernel_rfl) (by kernel_rfl) (fun _ _ _ h => h) rfl (fun W hW => ex_load 9 (.tmp 51) rfl _ _ rfl (L52.out W hW)) FD.out ?_
              simp only [Act.put, List.setIfInBounds_toArray, List.set_cons_zero, List.set_cons_succ]
              refine anyH_take 5 (some 53) (.int .i64 (0)) rfl rfl (by kernel_rfl) (by kernel_rfl) (by kernel_rfl) (fun _ _ _ h => h) rfl (fun _ _ => rfl) FD.out ?_
              simp only [Act.put, List.setIfInBounds_toArray, List.set_cons_zero, List.set_cons_succ]
              refine anyH_take 6 (some 54) (.string ⟨(x.2.take 0).toArray⟩) rfl rfl (by kernel_rfl) (by kernel_rfl) (by kernel_rfl) (fun _ _ _ h => h) rfl (fun W _ => ex_sliceTo 9 (.tmp 52) (.tmp 53) rfl _ _ _ rfl rfl (HSTR.out 0 HM.out W)) FD.out ?_
              simp only [Act.put, List.setIfInBounds_toArray, List.set_cons_zero, List.set_cons_succ]
              refine anyH_take 7 (some 55) (.pointer (some ⟨D, 0, none⟩)) rfl rfl (by kernel_rfl) (by kernel_rfl) (by kernel_rfl) (fun _ _ _ h => h) rfl (fun _ _ => rfl) FD.out ?_
              simp only [Act.put, List.setIfInBounds_toArray, List.set_cons_zero, List.set_cons_succ]
              refine anyH_take 8 (some 56) (.pointer (some ⟨D, 0, none⟩)) rfl rfl (by kernel_rfl) (by kernel_rfl) (by kernel_rfl) (fun _ _ _ h => h) rfl (fun _ _ => rfl) FD.out ?_
              simp only [Act.put, List.setIfInBounds_toArray, List.set_cons_zero, List.set_cons_succ]
              refine anyH_take 9 (some 57) (.pointer (some ⟨D, 0, none⟩)) rfl rfl (by kernel_rfl) (by kernel_rfl) (by kernel_rfl) (fun _ _ _ h => h) rfl (fun _ _ => by kernel_rfl) FD.out ?_
              simp only [Act.put, List.setIfInBounds_toArray, List.set_cons_zero, List.set_cons_succ]
              refine anyH_take 11 (some 59) (.pointer (some ⟨wr.heap.size, 0, none⟩)) rfl rfl (by kernel_rfl) (by kernel_rfl) (by kernel_rfl) (fun _ _ _ h => h) rfl (fun _ _ => by kernel_rfl) FD.out ?_
              simp only [Act.put, List.setIfInBounds_toArray, List.set_cons_zero, List.set_cons_succ]
              refine anyH_take 12 (some 60) (.int .i64 (x.1 : Int)) rfl rfl (by kernel_rfl) (by kernel_rfl) (by kernel_rfl) (fun _ _ _ h => h) rfl (fun W hW => ex_load 3 (.tmp 59) rfl _ _ rfl (L50.out W hW)) FD.out ?_
              simp only [Act.put, List.setIfInBounds_toArray, List.set_cons_zero, List.set_cons_succ]
              refine anyH_take 15 (some 63) (.int .i64 (0)) rfl rfl (by kernel_rfl) (by kernel_rfl) (by kernel_rfl) (fun _ _ _ h => h) rfl (fun _ _ => rfl) FD.out ?_
              simp only [Act.put, List.setIfInBounds_toArray, List.set_cons_zero, List.set_cons_succ]
              refine anyH_one 10 (by kernel_rfl) rfl rfl (fun K hK => ?_)
              refine wp_runs (some 58) rfl (ex_load 70 (.tmp 57) rfl _ _ rfl L58.out) (hK _ _ FD.out ?_)
              clear hK K
              simp only [Act.put, List.setIfInBounds_toArray, List.set_cons_zero, List.set_cons_succ]
              refine anyH_take 13 (some 61) (.pointer (some ⟨pg, x.1, none⟩)) rfl rfl (by kernel_rfl) (by kernel_rfl) (by kernel_rfl) (fun _ _ _ h => h) rfl (fun W _ => ex_index 70 (.tmp 58) (.tmp 60) rfl _ _ _ rfl rfl (IX.out W)) FD.out ?_
              simp only [Act.put, List.setIfInBounds_toArray, List.set_cons_zero, List.set_cons_succ]
              refine anyH_take 14 (some 62) (.string ⟨p.toArray⟩) rfl rfl (by kernel_rfl) (by kernel_rfl) (by kernel_rfl) (fun _ _ _ h => h) rfl (fun W hW => ex_load 9 (.tmp 61) rfl _ _ rfl (L62.out W hW)) FD.out ?_
              simp only [Act.put, List.setIfInBounds_toArray, List.set_cons_zero, List.set_cons_succ]
              refine anyH_take 16 (some 64) (.string ⟨(p.drop 0).toArray⟩) rfl rfl (by kernel_rfl) (by kernel_rfl) (by kernel_rfl) (fun _ _ _ h => h) rfl (fun W _ => ex_sliceFrom 9 (.tmp 62) (.tmp 63) rfl _ _ _ rfl rfl (HSF.out 0 HM.out W)) FD.out ?_
              simp only [Act.put, List.setIfInBounds_toArray, List.set_cons_zero, List.set_cons_succ]
              refine anyH_take 17 (some 65) (.string ⟨(x.2.take 0 ++ p.drop 0).toArray⟩) rfl rfl (by kernel_rfl) (by kernel_rfl) (by kernel_rfl) (fun _ _ _ h => h) rfl (fun W _ => ex_addS 9 9 (.tmp 54) (.tmp 64) rfl (x.2.take 0) (p.drop 0) rfl rfl (by have := HX64.out; rw [List.length_take]; omega) (by have := HPL.out; rw [List.length_drop]; omega)) FD.out ?_
              simp only [Act.put, List.setIfInBounds_toArray, List.set_cons_zero, List.set_cons_succ]
              refine anyH_one 18 (by kernel_rfl) rfl rfl (fun K hK => ?_)
              refine wp_calls (some 66) rfl 40 _ (ex_call3 40 (.tmp 48) (.tmp 50) (.tmp 65) _ rfl _ _ _ rfl rfl rfl (fun _ _ => rfl)) (.tuple #[]) _ (SET.out _ (HLEN.out 0 HM.out)) (fun W2 hR2 => hK _ _ (by obtain ⟨_, _, _, _, hf2, _⟩ := hR2; exact FD.out.trans hf2 (fun _ _ h => h) (fun _ _ h => h)) ?_)
              clear hK K
              simp only [Act.put, List.setIfInBounds_toArray, List.set_cons_zero, List.set_cons_succ]
              have hN : Hid (RNow O w1 D { s with sure := crashL f s.sure s.waits (k + 1) } W2) := by
                rw [HLAY.out, HFM.out]
                exact RNow.step HFK.out HMK.out (FA.out.trans FD.out (fun _ _ h => h) (fun _ _ h => h)) hR2
              refine wpAnyH_done (by kernel_rfl) ?_ _
              clear SET L58 IX L62 L50 L52 HSTR HSF HLAY hR2 HFK HMK FD FA
              go_wp2
              go_roundw
              case rel => exact ⟨k + 1, by go_num, by omega, hN⟩
              case measure => simp [intOf]; omega
            · by_cases ha1 : 64 < at'
              · have HM : Hid (64 ≤ 64) := Lib.hid (by omega)
                have HFM : Hid (f k = 64) := Lib.hid (by rw [HF.out]; unfold outl; rw [if_pos ht]; omega)
                clear ht
                go_wp2_with fail
                clear kb0 kb1 kb2 c1 hc1 hc2 hwa
                refine wp_region_held_drew (S := Fr (· = D) wa) (by kernel_rfl) FD.out (fun _ => ?_)
                refine anyH_take 0 (some 48) (.pointer (some ⟨D, 0, none⟩)) rfl rfl (by kernel_rfl) (by kernel_rfl) (by kernel_rfl) (fun _ _ _ h => h) rfl (fun _ _ => rfl) FD.out ?_
                simp only [Act.put, List.setIfInBounds_toArray, List.set_cons_zero, List.set_cons_succ]
                refine anyH_take 1 (some 49) (.pointer (some ⟨wr.heap.size, 0, none⟩)) rfl rfl (by kernel_rfl) (by kernel_rfl) (by kernel_rfl) (fun _ _ _ h => h) rfl (fun _ _ => by kernel_rfl) FD.out ?_
                simp only [Act.put, List.setIfInBounds_toArray, List.set_cons_zero, List.set_cons_succ]
                refine anyH_take 2 (some 50) (.int .i64 (x.1 : Int)) rfl rfl (by kernel_rfl) (by kernel_rfl) (by kernel_rfl) (fun _ _ _ h => h) rfl (fun W hW => ex_load 3 (.tmp 49) rfl _ _ rfl (L50.out W hW)) FD.out ?_
                simp only [Act.put, List.setIfInBounds_toArray, List.set_cons_zero, List.set_cons_succ]
                refine anyH_take 3 (some 51) (.pointer (some ⟨wr.heap.size, 1, none⟩)) rfl rfl (by kernel_rfl) (by kernel_rfl) (by kernel_rfl) (fun _ _ _ h => h) rfl (fun _ _ => by kernel_rfl) FD.out ?_
                simp only [Act.put, List.setIfInBounds_toArray, List.set_cons_zero, List.set_cons_succ]
                refine anyH_take 4 (some 52) (.string ⟨x.2.toArray⟩) rfl rfl (by kernel_rfl) (by kernel_rfl) (by kernel_rfl) (fun _ _ _ h => h) rfl (fun W hW => ex_load 9 (.tmp 51) rfl _ _ rfl (L52.out W hW)) FD.out ?_
                simp only [Act.put, List.setIfInBounds_toArray, List.set_cons_zero, List.set_cons_succ]
                refine anyH_take 5 (some 53) (.int .i64 (64)) rfl rfl (by kernel_rfl) (by kernel_rfl) (by kernel_rfl) (fun _ _ _ h => h) rfl (fun _ _ => rfl) FD.out ?_
                simp only [Act.put, List.setIfInBounds_toArray, List.set_cons_zero, List.set_cons_succ]
                refine anyH_take 6 (some 54) (.string ⟨(x.2.take 64).toArray⟩) rfl rfl (by kernel_rfl) (by kernel_rfl) (by kernel_rfl) (fun _ _ _ h => h) rfl (fun W _ => ex_sliceTo 9 (.tmp 52) (.tmp 53) rfl _ _ _ rfl rfl (HSTR.out 64 HM.out W)) FD.out ?_
                simp only [Act.put, List.setIfInBounds_toArray, List.set_cons_zero, List.set_cons_succ]
                refine anyH_take 7 (some 55) (.pointer (some ⟨D, 0, none⟩)) rfl rfl (by kernel_rfl) (by kernel_rfl) (by kernel_rfl) (fun _ _ _ h => h) rfl (fun _ _ => rfl) FD.out ?_
                simp only [Act.put, List.setIfInBounds_toArray, List.set_cons_zero, List.set_cons_succ]
                refine anyH_take 8 (some 56) (.pointer (some ⟨D, 0, none⟩)) rfl rfl (by kernel_rfl) (by kernel_rfl) (by kernel_rfl) (fun _ _ _ h => h) rfl (fun _ _ => rfl) FD.out ?_
                simp only [Act.put, List.setIfInBounds_toArray, List.set_cons_zero, List.set_cons_succ]
                refine anyH_take 9 (some 57) (.pointer (some ⟨D, 0, none⟩)) rfl rfl (by kernel_rfl) (by kernel_rfl) (by kernel_rfl) (fun _ _ _ h => h) rfl (fun _ _ => by kernel_rfl) FD.out ?_
                simp only [Act.put, List.setIfInBounds_toArray, List.set_cons_zero, List.set_cons_succ]
                refine anyH_take 11 (some 59) (.pointer (some ⟨wr.heap.size, 0, none⟩)) rfl rfl (by kernel_rfl) (by kernel_rfl) (by kernel_rfl) (fun _ _ _ h => h) rfl (fun _ _ => by kernel_rfl) FD.out ?_
                simp only [Act.put, List.setIfInBounds_toArray, List.set_cons_zero, List.set_cons_succ]
                refine anyH_take 12 (some 60) (.int .i64 (x.1 : Int)) rfl rfl (by kernel_rfl) (by kernel_rfl) (by kernel_rfl) (fun _ _ _ h => h) rfl (fun W hW => ex_load 3 (.tmp 59) rfl _ _ rfl (L50.out W hW)) FD.out ?_
                simp only [Act.put, List.setIfInBounds_toArray, List.set_cons_zero, List.set_cons_succ]
                refine anyH_take 15 (some 63) (.int .i64 (64)) rfl rfl (by kernel_rfl) (by kernel_rfl) (by kernel_rfl) (fun _ _ _ h => h) rfl (fun _ _ => rfl) FD.out ?_
                simp only [Act.put, List.setIfInBounds_toArray, List.set_cons_zero, List.set_cons_succ]
                refine anyH_one 10 (by kernel_rfl) rfl rfl (fun K hK => ?_)
                refine wp_runs (some 58) rfl (ex_load 70 (.tmp 57) rfl _ _ rfl L58.out) (hK _ _ FD.out ?_)
                clear hK K
                simp only [Act.put, List.setIfInBounds_toArray, List.set_cons_zero, List.set_cons_succ]
                refine anyH_take 13 (some 61) (.pointer (some ⟨pg, x.1, none⟩)) rfl rfl (by kernel_rfl) (by kernel_rfl) (by kernel_rfl) (fun _ _ _ h => h) rfl (fun W _ => ex_index 70 (.tmp 58) (.tmp 60) rfl _ _ _ rfl rfl (IX.out W)) FD.out ?_
                simp only [Act.put, List.setIfInBounds_toArray, List.set_cons_zero, List.set_cons_succ]
                refine anyH_take 14 (some 62) (.string ⟨p.toArray⟩) rfl rfl (by kernel_rfl) (by kernel_rfl) (by kernel_rfl) (fun _ _ _ h => h) rfl (fun W hW => ex_load 9 (.tmp 61) rfl _ _ rfl (L62.out W hW)) FD.out ?_
                simp only [Act.put, List.setIfInBounds_toArray, List.set_cons_zero, List.set_cons_succ]
                refine anyH_take 16 (some 64) (.string ⟨(p.drop 64).toArray⟩) rfl rfl (by kernel_rfl) (by kernel_rfl) (by kernel_rfl) (fun _ _ _ h => h) rfl (fun W _ => ex_sliceFrom 9 (.tmp 62) (.tmp 63) rfl _ _ _ rfl rfl (HSF.out 64 HM.out W)) FD.out ?_
                simp only [Act.put, List.setIfInBounds_toArray, List.set_cons_zero, List.set_cons_succ]
                refine anyH_take 17 (some 65) (.string ⟨(x.2.take 64 ++ p.drop 64).toArray⟩) rfl rfl (by kernel_rfl) (by kernel_rfl) (by kernel_rfl) (fun _ _ _ h => h) rfl (fun W _ => ex_addS 9 9 (.tmp 54) (.tmp 64) rfl (x.2.take 64) (p.drop 64) rfl rfl (by have := HX64.out; rw [List.length_take]; omega) (by have := HPL.out; rw [List.length_drop]; omega)) FD.out ?_
                simp only [Act.put, List.setIfInBounds_toArray, List.set_cons_zero, List.set_cons_succ]
                refine anyH_one 18 (by kernel_rfl) rfl rfl (fun K hK => ?_)
                refine wp_calls (some 66) rfl 40 _ (ex_call3 40 (.tmp 48) (.tmp 50) (.tmp 65) _ rfl _ _ _ rfl rfl rfl (fun _ _ => rfl)) (.tuple #[]) _ (SET.out _ (HLEN.out 64 HM.out)) (fun W2 hR2 => hK _ _ (by obtain ⟨_, _, _, _, hf2, _⟩ := hR2; exact FD.out.trans hf2 (fun _ _ h => h) (fun _ _ h => h)) ?_)
                clear hK K
                simp only [Act.put, List.setIfInBounds_toArray, List.set_cons_zero, List.set_cons_succ]
                have hN : Hid (RNow O w1 D { s with sure := crashL f s.sure s.waits (k + 1) } W2) := by
                  rw [HLAY.out, HFM.out]
                  exact RNow.step HFK.out HMK.out (FA.out.trans FD.out (fun _ _ h => h) (fun _ _ h => h)) hR2
                refine wpAnyH_done (by kernel_rfl) ?_ _
                clear SET L58 IX L62 L50 L52 HSTR HSF HLAY hR2 HFK HMK FD FA
                go_wp2
                go_roundw
                case rel => exact ⟨k + 1, by go_num, by omega, hN⟩
                case measure => simp [intOf]; omega
              · obtain ⟨a, rfl⟩ : ∃ a : Nat, at' = (a : Int) := ⟨at'.toNat, by omega⟩
                have HM : Hid (a ≤ 64) := Lib.hid (by omega)
                have HFM : Hid (f k = a) := Lib.hid (by rw [HF.out]; unfold outl; rw [if_pos ht]; omega)
                clear ht
                go_wp2_with fail
                clear kb0 kb1 kb2 c1 hc1 hc2 hwa
                refine wp_region_held_drew (S := Fr (· = D) wa) (by kernel_rfl) FD.out (fun _ => ?_)
                refine anyH_take 0 (some 48) (.pointer (some ⟨D, 0, none⟩)) rfl rfl (by kernel_rfl) (by kernel_rfl) (by kernel_rfl) (fun _ _ _ h => h) rfl (fun _ _ => rfl) FD.out ?_
                simp only [Act.put, List.setIfInBounds_toArray, List.set_cons_zero, List.set_cons_succ]
                refine anyH_take 1 (some 49) (.pointer (some ⟨wr.heap.size, 0, none⟩)) rfl rfl (by kernel_rfl) (by kernel_rfl) (by kernel_rfl) (fun _ _ _ h => h) rfl (fun _ _ => by kernel_rfl) FD.out ?_
                simp only [Act.put, List.setIfInBounds_toArray, List.set_cons_zero, List.set_cons_succ]
                refine anyH_take 2 (some 50) (.int .i64 (x.1 : Int)) rfl rfl (by kernel_rfl) (by kernel_rfl) (by kernel_rfl) (fun _ _ _ h => h) rfl (fun W hW => ex_load 3 (.tmp 49) rfl _ _ rfl (L50.out W hW)) FD.out ?_
                simp only [Act.put, List.setIfInBounds_toArray, List.set_cons_zero, List.set_cons_succ]
                refine anyH_take 3 (some 51) (.pointer (some ⟨wr.heap.size, 1, none⟩)) rfl rfl (by kernel_rfl) (by kernel_rfl) (by kernel_rfl) (fun _ _ _ h => h) rfl (fun _ _ => by kernel_rfl) FD.out ?_
                simp only [Act.put, List.setIfInBounds_toArray, List.set_cons_zero, List.set_cons_succ]
                refine anyH_take 4 (some 52) (.string ⟨x.2.toArray⟩) rfl rfl (by kernel_rfl) (by kernel_rfl) (by kernel_rfl) (fun _ _ _ h => h) rfl (fun W hW => ex_load 9 (.tmp 51) rfl _ _ rfl (L52.out W hW)) FD.out ?_
                simp only [Act.put, List.setIfInBounds_toArray, List.set_cons_zero, List.set_cons_succ]
                refine anyH_take 5 (some 53) (.int .i64 ((a : Int))) rfl rfl (by kernel_rfl) (by kernel_rfl) (by kernel_rfl) (fun _ _ _ h => h) rfl (fun _ _ => rfl) FD.out ?_
                simp only [Act.put, List.setIfInBounds_toArray, List.set_cons_zero, List.set_cons_succ]
                refine anyH_take 6 (some 54) (.string ⟨(x.2.take a).toArray⟩) rfl rfl (by kernel_rfl) (by kernel_rfl) (by kernel_rfl) (fun _ _ _ h => h) rfl (fun W _ => ex_sliceTo 9 (.tmp 52) (.tmp 53) rfl _ _ _ rfl rfl (HSTR.out a HM.out W)) FD.out ?_
                simp only [Act.put, List.setIfInBounds_toArray, List.set_cons_zero, List.set_cons_succ]
                refine anyH_take 7 (some 55) (.pointer (some ⟨D, 0, none⟩)) rfl rfl (by kernel_rfl) (by kernel_rfl) (by kernel_rfl) (fun _ _ _ h => h) rfl (fun _ _ => rfl) FD.out ?_
                simp only [Act.put, List.setIfInBounds_toArray, List.set_cons_zero, List.set_cons_succ]
                refine anyH_take 8 (some 56) (.pointer (some ⟨D, 0, none⟩)) rfl rfl (by kernel_rfl) (by kernel_rfl) (by kernel_rfl) (fun _ _ _ h => h) rfl (fun _ _ => rfl) FD.out ?_
                simp only [Act.put, List.setIfInBounds_toArray, List.set_cons_zero, List.set_cons_succ]
                refine anyH_take 9 (some 57) (.pointer (some ⟨D, 0, none⟩)) rfl rfl (by kernel_rfl) (by kernel_rfl) (by kernel_rfl) (fun _ _ _ h => h) rfl (fun _ _ => by kernel_rfl) FD.out ?_
                simp only [Act.put, List.setIfInBounds_toArray, List.set_cons_zero, List.set_cons_succ]
                refine anyH_take 11 (some 59) (.pointer (some ⟨wr.heap.size, 0, none⟩)) rfl rfl (by kernel_rfl) (by kernel_rfl) (by kernel_rfl) (fun _ _ _ h => h) rfl (fun _ _ => by kernel_rfl) FD.out ?_
                simp only [Act.put, List.setIfInBounds_toArray, List.set_cons_zero, List.set_cons_succ]
                refine anyH_take 12 (some 60) (.int .i64 (x.1 : Int)) rfl rfl (by kernel_rfl) (by kernel_rfl) (by kernel_rfl) (fun _ _ _ h => h) rfl (fun W hW => ex_load 3 (.tmp 59) rfl _ _ rfl (L50.out W hW)) FD.out ?_
                simp only [Act.put, List.setIfInBounds_toArray, List.set_cons_zero, List.set_cons_succ]
                refine anyH_take 15 (some 63) (.int .i64 ((a : Int))) rfl rfl (by kernel_rfl) (by kernel_rfl) (by kernel_rfl) (fun _ _ _ h => h) rfl (fun _ _ => rfl) FD.out ?_
                simp only [Act.put, List.setIfInBounds_toArray, List.set_cons_zero, List.set_cons_succ]
                refine anyH_one 10 (by kernel_rfl) rfl rfl (fun K hK => ?_)
                refine wp_runs (some 58) rfl (ex_load 70 (.tmp 57) rfl _ _ rfl L58.out) (hK _ _ FD.out ?_)
                clear hK K
                simp only [Act.put, List.setIfInBounds_toArray, List.set_cons_zero, List.set_cons_succ]
                refine anyH_take 13 (some 61) (.pointer (some ⟨pg, x.1, none⟩)) rfl rfl (by kernel_rfl) (by kernel_rfl) (by kernel_rfl) (fun _ _ _ h => h) rfl (fun W _ => ex_index 70 (.tmp 58) (.tmp 60) rfl _ _ _ rfl rfl (IX.out W)) FD.out ?_
                simp only [Act.put, List.setIfInBounds_toArray, List.set_cons_zero, List.set_cons_succ]
                refine anyH_take 14 (some 62) (.string ⟨p.toArray⟩) rfl rfl (by kernel_rfl) (by kernel_rfl) (by kernel_rfl) (fun _ _ _ h => h) rfl (fun W hW => ex_load 9 (.tmp 61) rfl _ _ rfl (L62.out W hW)) FD.out ?_
                simp only [Act.put, List.setIfInBounds_toArray, List.set_cons_zero, List.set_cons_succ]
                refine anyH_take 16 (some 64) (.string ⟨(p.drop a).toArray⟩) rfl rfl (by kernel_rfl) (by kernel_rfl) (by kernel_rfl) (fun _ _ _ h => h) rfl (fun W _ => ex_sliceFrom 9 (.tmp 62) (.tmp 63) rfl _ _ _ rfl rfl (HSF.out a HM.out W)) FD.out ?_
                simp only [Act.put, List.setIfInBounds_toArray, List.set_cons_zero, List.set_cons_succ]
                refine anyH_take 17 (some 65) (.string ⟨(x.2.take a ++ p.drop a).toArray⟩) rfl rfl (by kernel_rfl) (by kernel_rfl) (by kernel_rfl) (fun _ _ _ h => h) rfl (fun W _ => ex_addS 9 9 (.tmp 54) (.tmp 64) rfl (x.2.take a) (p.drop a) rfl rfl (by have := HX64.out; rw [List.length_take]; omega) (by have := HPL.out; rw [List.length_drop]; omega)) FD.out ?_
                simp only [Act.put, List.setIfInBounds_toArray, List.set_cons_zero, List.set_cons_succ]
                refine anyH_one 18 (by kernel_rfl) rfl rfl (fun K hK => ?_)
                refine wp_calls (some 66) rfl 40 _ (ex_call3 40 (.tmp 48) (.tmp 50) (.tmp 65) _ rfl _ _ _ rfl rfl rfl (fun _ _ => rfl)) (.tuple #[]) _ (SET.out _ (HLEN.out a HM.out)) (fun W2 hR2 => hK _ _ (by obtain ⟨_, _, _, _, hf2, _⟩ := hR2; exact FD.out.trans hf2 (fun _ _ h => h) (fun _ _ h => h)) ?_)
                clear hK K
                simp only [Act.put, List.setIfInBounds_toArray, List.set_cons_zero, List.set_cons_succ]
                have hN : Hid (RNow O w1 D { s with sure := crashL f s.sure s.waits (k + 1) } W2) := by
                  rw [HLAY.out, HFM.out]
                  exact RNow.step HFK.out HMK.out (FA.out.trans FD.out (fun _ _ h => h) (fun _ _ h => h)) hR2
                refine wpAnyH_done (by kernel_rfl) ?_ _
                clear SET L58 IX L62 L50 L52 HSTR HSF HLAY hR2 HFK HMK FD FA
                go_wp2
                go_roundw
                case rel => exact ⟨k + 1, by go_num, by omega, hN⟩
                case measure => simp [intOf]; omega
          · have htb : ((k : Int) == torn) = false := by rw [beq_eq_false_iff_ne]; exact ht
            have HM : Hid (64 ≤ 64) := Lib.hid (by omega)
            have HFM : Hid (f k = 64) := Lib.hid (by rw [HF.out]; unfold outl; rw [if_neg ht, hget, if_pos rfl])
            clear ht
            go_wp2_with fail
            clear kb0 kb1 kb2 c1 hc1 hc2 hwa
            refine wp_region_held_drew (S := Fr (· = D) wa) (by kernel_rfl) FD.out (fun _ => ?_)
            refine anyH_take 0 (some 48) (.pointer (some ⟨D, 0, none⟩)) rfl rfl (by kernel_rfl) (by kernel_rfl) (by kernel_rfl) (fun _ _ _ h => h) rfl (fun _ _ => rfl) FD.out ?_
            simp only [Act.put, List.setIfInBounds_toArray, List.set_cons_zero, List.set_cons_succ]
            refine anyH_take 1 (some 49) (.pointer (some ⟨wr.heap.size, 0, none⟩)) rfl rfl (by kernel_rfl) (by kernel_rfl) (by kernel_rfl) (fun _ _ _ h => h) rfl (fun _ _ => by kernel_rfl) FD.out ?_
            simp only [Act.put, List.setIfInBounds_toArray, List.set_cons_zero, List.set_cons_succ]
            refine anyH_take 2 (some 50) (.int .i64 (x.1 : Int)) rfl rfl (by kernel_rfl) (by kernel_rfl) (by kernel_rfl) (fun _ _ _ h => h) rfl (fun W hW => ex_load 3 (.tmp 49) rfl _ _ rfl (L50.out W hW)) FD.out ?_
            simp only [Act.put, List.setIfInBounds_toArray, List.set_cons_zero, List.set_cons_succ]
            refine anyH_take 3 (some 51) (.pointer (some ⟨wr.heap.size, 1, none⟩)) rfl rfl (by kernel_rfl) (by kernel_rfl) (by kernel_rfl) (fun _ _ _ h => h) rfl (fun _ _ => by kernel_rfl) FD.out ?_
            simp only [Act.put, List.setIfInBounds_toArray, List.set_cons_zero, List.set_cons_succ]
            refine anyH_take 4 (some 52) (.string ⟨x.2.toArray⟩) rfl rfl (by kernel_rfl) (by kernel_rfl) (by kernel_rfl) (fun _ _ _ h => h) rfl (fun W hW => ex_load 9 (.tmp 51) rfl _ _ rfl (L52.out W hW)) FD.out ?_
            simp only [Act.put, List.setIfInBounds_toArray, List.set_cons_zero, List.set_cons_succ]
            refine anyH_take 5 (some 53) (.int .i64 (64)) rfl rfl (by kernel_rfl) (by kernel_rfl) (by kernel_rfl) (fun _ _ _ h => h) rfl (fun _ _ => rfl) FD.out ?_
            simp only [Act.put, List.setIfInBounds_toArray, List.set_cons_zero, List.set_cons_succ]
            refine anyH_take 6 (some 54) (.string ⟨(x.2.take 64).toArray⟩) rfl rfl (by kernel_rfl) (by kernel_rfl) (by kernel_rfl) (fun _ _ _ h => h) rfl (fun W _ => ex_sliceTo 9 (.tmp 52) (.tmp 53) rfl _ _ _ rfl rfl (HSTR.out 64 HM.out W)) FD.out ?_
            simp only [Act.put, List.setIfInBounds_toArray, List.set_cons_zero, List.set_cons_succ]
            refine anyH_take 7 (some 55) (.pointer (some ⟨D, 0, none⟩)) rfl rfl (by kernel_rfl) (by kernel_rfl) (by kernel_rfl) (fun _ _ _ h => h) rfl (fun _ _ => rfl) FD.out ?_
            simp only [Act.put, List.setIfInBounds_toArray, List.set_cons_zero, List.set_cons_succ]
            refine anyH_take 8 (some 56) (.pointer (some ⟨D, 0, none⟩)) rfl rfl (by kernel_rfl) (by kernel_rfl) (by kernel_rfl) (fun _ _ _ h => h) rfl (fun _ _ => rfl) FD.out ?_
            simp only [Act.put, List.setIfInBounds_toArray, List.set_cons_zero, List.set_cons_succ]
            refine anyH_take 9 (some 57) (.pointer (some ⟨D, 0, none⟩)) rfl rfl (by kernel_rfl) (by kernel_rfl) (by kernel_rfl) (fun _ _ _ h => h) rfl (fun _ _ => by kernel_rfl) FD.out ?_
            simp only [Act.put, List.setIfInBounds_toArray, List.set_cons_zero, List.set_cons_succ]
            refine anyH_take 11 (some 59) (.pointer (some ⟨wr.heap.size, 0, none⟩)) rfl rfl (by kernel_rfl) (by kernel_rfl) (by kernel_rfl) (fun _ _ _ h => h) rfl (fun _ _ => by kernel_rfl) FD.out ?_
            simp only [Act.put, List.setIfInBounds_toArray, List.set_cons_zero, List.set_cons_succ]
            refine anyH_take 12 (some 60) (.int .i64 (x.1 : Int)) rfl rfl (by kernel_rfl) (by kernel_rfl) (by kernel_rfl) (fun _ _ _ h => h) rfl (fun W hW => ex_load 3 (.tmp 59) rfl _ _ rfl (L50.out W hW)) FD.out ?_
            simp only [Act.put, List.setIfInBounds_toArray, List.set_cons_zero, List.set_cons_succ]
            refine anyH_take 15 (some 63) (.int .i64 (64)) rfl rfl (by kernel_rfl) (by kernel_rfl) (by kernel_rfl) (fun _ _ _ h => h) rfl (fun _ _ => rfl) FD.out ?_
            simp only [Act.put, List.setIfInBounds_toArray, List.set_cons_zero, List.set_cons_succ]
            refine anyH_one 10 (by kernel_rfl) rfl rfl (fun K hK => ?_)
            refine wp_runs (some 58) rfl (ex_load 70 (.tmp 57) rfl _ _ rfl L58.out) (hK _ _ FD.out ?_)
            clear hK K
            simp only [Act.put, List.setIfInBounds_toArray, List.set_cons_zero, List.set_cons_succ]
            refine anyH_take 13 (some 61) (.pointer (some ⟨pg, x.1, none⟩)) rfl rfl (by kernel_rfl) (by kernel_rfl) (by kernel_rfl) (fun _ _ _ h => h) rfl (fun W _ => ex_index 70 (.tmp 58) (.tmp 60) rfl _ _ _ rfl rfl (IX.out W)) FD.out ?_
            simp only [Act.put, List.setIfInBounds_toArray, List.set_cons_zero, List.set_cons_succ]
            refine anyH_take 14 (some 62) (.string ⟨p.toArray⟩) rfl rfl (by kernel_rfl) (by kernel_rfl) (by kernel_rfl) (fun _ _ _ h => h) rfl (fun W hW => ex_load 9 (.tmp 61) rfl _ _ rfl (L62.out W hW)) FD.out ?_
            simp only [Act.put, List.setIfInBounds_toArray, List.set_cons_zero, List.set_cons_succ]
            refine anyH_take 16 (some 64) (.string ⟨(p.drop 64).toArray⟩) rfl rfl (by kernel_rfl) (by kernel_rfl) (by kernel_rfl) (fun _ _ _ h => h) rfl (fun W _ => ex_sliceFrom 9 (.tmp 62) (.tmp 63) rfl _ _ _ rfl rfl (HSF.out 64 HM.out W)) FD.out ?_
            simp only [Act.put, List.setIfInBounds_toArray, List.set_cons_zero, List.set_cons_succ]
            refine anyH_take 17 (some 65) (.string ⟨(x.2.take 64 ++ p.drop 64).toArray⟩) rfl rfl (by kernel_rfl) (by kernel_rfl) (by kernel_rfl) (fun _ _ _ h => h) rfl (fun W _ => ex_addS 9 9 (.tmp 54) (.tmp 64) rfl (x.2.take 64) (p.drop 64) rfl rfl (by have := HX64.out; rw [List.length_take]; omega) (by have := HPL.out; rw [List.length_drop]; omega)) FD.out ?_
            simp only [Act.put, List.setIfInBounds_toArray, List.set_cons_zero, List.set_cons_succ]
            refine anyH_one 18 (by kernel_rfl) rfl rfl (fun K hK => ?_)
            refine wp_calls (some 66) rfl 40 _ (ex_call3 40 (.tmp 48) (.tmp 50) (.tmp 65) _ rfl _ _ _ rfl rfl rfl (fun _ _ => rfl)) (.tuple #[]) _ (SET.out _ (HLEN.out 64 HM.out)) (fun W2 hR2 => hK _ _ (by obtain ⟨_, _, _, _, hf2, _⟩ := hR2; exact FD.out.trans hf2 (fun _ _ h => h) (fun _ _ h => h)) ?_)
            clear hK K
            simp only [Act.put, List.setIfInBounds_toArray, List.set_cons_zero, List.set_cons_succ]
            have hN : Hid (RNow O w1 D { s with sure := crashL f s.sure s.waits (k + 1) } W2) := by
              rw [HLAY.out, HFM.out]
              exact RNow.step HFK.out HMK.out (FA.out.trans FD.out (fun _ _ h => h) (fun _ _ h => h)) hR2
            refine wpAnyH_done (by kernel_rfl) ?_ _
            clear SET L58 IX L62 L50 L52 HSTR HSF HLAY hR2 HFK HMK FD FA
            go_wp2
            go_roundw
            case rel => exact ⟨k + 1, by go_num, by omega, hN⟩
            case measure => simp [intOf]; omega
      · have hget : keep.getD k false = false := by simp [List.getD, hkn]
        have hkni : ¬ (k : Int) < (keep.length : Int) := by omega
        clear HKC
        by_cases ht : (k : Int) = torn
        · have htb : ((k : Int) == torn) = true := by rw [beq_iff_eq]; exact ht
          by_cases ha0 : at' < 0
          · have HM : Hid (0 ≤ 64) := Lib.hid (by omega)
            have HFM : Hid (f k = 0) := Lib.hid (by rw [HF.out]; unfold outl; rw [if_pos ht]; omega)
            clear ht
            go_wp2_with fail
            clear kb0 kb1 kb2 c1 hc1 hc2 hwa
            refine wp_region_held_drew (S := Fr (· = D) wa) (by kernel_rfl) FD.out (fun _ => ?_)
            refine anyH_take 0 (some 48) (.pointer (some ⟨D, 0, none⟩)) rfl rfl (by kernel_rfl) (by kernel_rfl) (by kernel_rfl) (fun _ _ _ h => h) rfl (fun _ _ => rfl) FD.out ?_
            simp only [Act.put, List.setIfInBounds_toArray, List.set_cons_zero, List.set_cons_succ]
            refine anyH_take 1 (some 49) (.pointer (some ⟨wr.heap.size, 0, none⟩)) rfl rfl (by kernel_rfl) (by kernel_rfl) (by kernel_rfl) (fun _ _ _ h => h) rfl (fun _ _ => by kernel_rfl) FD.out ?_
            simp only [Act.put, List.setIfInBounds_toArray, List.set_cons_zero, List.set_cons_succ]
            refine anyH_take 2 (some 50) (.int .i64 (x.1 : Int)) rfl rfl (by kernel_rfl) (by kernel_rfl) (by kernel_rfl) (fun _ _ _ h => h) rfl (fun W hW => ex_load 3 (.tmp 49) rfl _ _ rfl (L50.out W hW)) FD.out ?_
            simp only [Act.put, List.setIfInBounds_toArray, List.set_cons_zero, List.set_cons_succ]
            refine anyH_take 3 (some 51) (.pointer (some ⟨wr.heap.size, 1, none⟩)) rfl rfl (by kernel_rfl) (by kernel_rfl) (by kernel_rfl) (fun _ _ _ h => h) rfl (fun _ _ => by kernel_rfl) FD.out ?_
            simp only [Act.put, List.setIfInBounds_toArray, List.set_cons_zero, List.set_cons_succ]
            refine anyH_take 4 (some 52) (.string ⟨x.2.toArray⟩) rfl rfl (by kernel_rfl) (by kernel_rfl) (by kernel_rfl) (fun _ _ _ h => h) rfl (fun W hW => ex_load 9 (.tmp 51) rfl _ _ rfl (L52.out W hW)) FD.out ?_
            simp only [Act.put, List.setIfInBounds_toArray, List.set_cons_zero, List.set_cons_succ]
            refine anyH_take 5 (some 53) (.int .i64 (0)) rfl rfl (by kernel_rfl) (by kernel_rfl) (by kernel_rfl) (fun _ _ _ h => h) rfl (fun _ _ => rfl) FD.out ?_
            simp only [Act.put, List.setIfInBounds_toArray, List.set_cons_zero, List.set_cons_succ]
            refine anyH_take 6 (some 54) (.string ⟨(x.2.take 0).toArray⟩) rfl rfl (by kernel_rfl) (by kernel_rfl) (by kernel_rfl) (fun _ _ _ h => h) rfl (fun W _ => ex_sliceTo 9 (.tmp 52) (.tmp 53) rfl _ _ _ rfl rfl (HSTR.out 0 HM.out W)) FD.out ?_
            simp only [Act.put, List.setIfInBounds_toArray, List.set_cons_zero, List.set_cons_succ]
            refine anyH_take 7 (some 55) (.pointer (some ⟨D, 0, none⟩)) rfl rfl (by kernel_rfl) (by kernel_rfl) (by kernel_rfl) (fun _ _ _ h => h) rfl (fun _ _ => rfl) FD.out ?_
            simp only [Act.put, List.setIfInBounds_toArray, List.set_cons_zero, List.set_cons_succ]
            refine anyH_take 8 (some 56) (.pointer (some ⟨D, 0, none⟩)) rfl rfl (by kernel_rfl) (by kernel_rfl) (by kernel_rfl) (fun _ _ _ h => h) rfl (fun _ _ => rfl) FD.out ?_
            simp only [Act.put, List.setIfInBounds_toArray, List.set_cons_zero, List.set_cons_succ]
            refine anyH_take 9 (some 57) (.pointer (some ⟨D, 0, none⟩)) rfl rfl (by kernel_rfl) (by kernel_rfl) (by kernel_rfl) (fun _ _ _ h => h) rfl (fun _ _ => by kernel_rfl) FD.out ?_
            simp only [Act.put, List.setIfInBounds_toArray, List.set_cons_zero, List.set_cons_succ]
            refine anyH_take 11 (some 59) (.pointer (some ⟨wr.heap.size, 0, none⟩)) rfl rfl (by kernel_rfl) (by kernel_rfl) (by kernel_rfl) (fun _ _ _ h => h) rfl (fun _ _ => by kernel_rfl) FD.out ?_
            simp only [Act.put, List.setIfInBounds_toArray, List.set_cons_zero, List.set_cons_succ]
            refine anyH_take 12 (some 60) (.int .i64 (x.1 : Int)) rfl rfl (by kernel_rfl) (by kernel_rfl) (by kernel_rfl) (fun _ _ _ h => h) rfl (fun W hW => ex_load 3 (.tmp 59) rfl _ _ rfl (L50.out W hW)) FD.out ?_
            simp only [Act.put, List.setIfInBounds_toArray, List.set_cons_zero, List.set_cons_succ]
            refine anyH_take 15 (some 63) (.int .i64 (0)) rfl rfl (by kernel_rfl) (by kernel_rfl) (by kernel_rfl) (fun _ _ _ h => h) rfl (fun _ _ => rfl) FD.out ?_
            simp only [Act.put, List.setIfInBounds_toArray, List.set_cons_zero, List.set_cons_succ]
            refine anyH_one 10 (by kernel_rfl) rfl rfl (fun K hK => ?_)
            refine wp_runs (some 58) rfl (ex_load 70 (.tmp 57) rfl _ _ rfl L58.out) (hK _ _ FD.out ?_)
            clear hK K
            simp only [Act.put, List.setIfInBounds_toArray, List.set_cons_zero, List.set_cons_succ]
            refine anyH_take 13 (some 61) (.pointer (some ⟨pg, x.1, none⟩)) rfl rfl (by kernel_rfl) (by kernel_rfl) (by kernel_rfl) (fun _ _ _ h => h) rfl (fun W _ => ex_index 70 (.tmp 58) (.tmp 60) rfl _ _ _ rfl rfl (IX.out W)) FD.out ?_
            simp only [Act.put, List.setIfInBounds_toArray, List.set_cons_zero, List.set_cons_succ]
            refine anyH_take 14 (some 62) (.string ⟨p.toArray⟩) rfl rfl (by kernel_rfl) (by kernel_rfl) (by kernel_rfl) (fun _ _ _ h => h) rfl (fun W hW => ex_load 9 (.tmp 61) rfl _ _ rfl (L62.out W hW)) FD.out ?_
            simp only [Act.put, List.setIfInBounds_toArray, List.set_cons_zero, List.set_cons_succ]
            refine anyH_take 16 (some 64) (.string ⟨(p.drop 0).toArray⟩) rfl rfl (by kernel_rfl) (by kernel_rfl) (by kernel_rfl) (fun _ _ _ h => h) rfl (fun W _ => ex_sliceFrom 9 (.tmp 62) (.tmp 63) rfl _ _ _ rfl rfl (HSF.out 0 HM.out W)) FD.out ?_
            simp only [Act.put, List.setIfInBounds_toArray, List.set_cons_zero, List.set_cons_succ]
            refine anyH_take 17 (some 65) (.string ⟨(x.2.take 0 ++ p.drop 0).toArray⟩) rfl rfl (by kernel_rfl) (by kernel_rfl) (by kernel_rfl) (fun _ _ _ h => h) rfl (fun W _ => ex_addS 9 9 (.tmp 54) (.tmp 64) rfl (x.2.take 0) (p.drop 0) rfl rfl (by have := HX64.out; rw [List.length_take]; omega) (by have := HPL.out; rw [List.length_drop]; omega)) FD.out ?_
            simp only [Act.put, List.setIfInBounds_toArray, List.set_cons_zero, List.set_cons_succ]
            refine anyH_one 18 (by kernel_rfl) rfl rfl (fun K hK => ?_)
            refine wp_calls (some 66) rfl 40 _ (ex_call3 40 (.tmp 48) (.tmp 50) (.tmp 65) _ rfl _ _ _ rfl rfl rfl (fun _ _ => rfl)) (.tuple #[]) _ (SET.out _ (HLEN.out 0 HM.out)) (fun W2 hR2 => hK _ _ (by obtain ⟨_, _, _, _, hf2, _⟩ := hR2; exact FD.out.trans hf2 (fun _ _ h => h) (fun _ _ h => h)) ?_)
            clear hK K
            simp only [Act.put, List.setIfInBounds_toArray, List.set_cons_zero, List.set_cons_succ]
            have hN : Hid (RNow O w1 D { s with sure := crashL f s.sure s.waits (k + 1) } W2) := by
              rw [HLAY.out, HFM.out]
              exact RNow.step HFK.out HMK.out (FA.out.trans FD.out (fun _ _ h => h) (fun _ _ h => h)) hR2
            refine wpAnyH_done (by kernel_rfl) ?_ _
            clear SET L58 IX L62 L50 L52 HSTR HSF HLAY hR2 HFK HMK FD FA
            go_wp2
            go_roundw
            case rel => exact ⟨k + 1, by go_num, by omega, hN⟩
            case measure => simp [intOf]; omega
          · by_cases ha1 : 64 < at'
            · have HM : Hid (64 ≤ 64) := Lib.hid (by omega)
              have HFM : Hid (f k = 64) := Lib.hid (by rw [HF.out]; unfold outl; rw [if_pos ht]; omega)
              clear ht
              go_wp2_with fail
              clear kb0 kb1 kb2 c1 hc1 hc2 hwa
              refine wp_region_held_drew (S := Fr (· = D) wa) (by kernel_rfl) FD.out (fun _ => ?_)
              refine anyH_take 0 (some 48) (.pointer (some ⟨D, 0, none⟩)) rfl rfl (by kernel_rfl) (by kernel_rfl) (by kernel_rfl) (fun _ _ _ h => h) rfl (fun _ _ => rfl) FD.out ?_
              simp only [Act.put, List.setIfInBounds_toArray, List.set_cons_zero, List.set_cons_succ]
              refine anyH_take 1 (some 49) (.pointer (some ⟨wr.heap.size, 0, none⟩)) rfl rfl (by kernel_rfl) (by kernel_rfl) (by kernel_rfl) (fun _ _ _ h => h) rfl (fun _ _ => by kernel_rfl) FD.out ?_
              simp only [Act.put, List.setIfInBounds_toArray, List.set_cons_zero, List.set_cons_succ]
              refine anyH_take 2 (some 50) (.int .i64 (x.1 : Int)) rfl rfl (by kernel_rfl) (by kernel_rfl) (by kernel_rfl) (fun _ _ _ h => h) rfl (fun W hW => ex_load 3 (.tmp 49) rfl _ _ rfl (L50.out W hW)) FD.out ?_
              simp only [Act.put, List.setIfInBounds_toArray, List.set_cons_zero, List.set_cons_succ]
              refine anyH_take 3 (some 51) (.pointer (some ⟨wr.heap.size, 1, none⟩)) rfl rfl (by kernel_rfl) (by kernel_rfl) (by kernel_rfl) (fun _ _ _ h => h) rfl (fun _ _ => by kernel_rfl) FD.out ?_
              simp only [Act.put, List.setIfInBounds_toArray, List.set_cons_zero, List.set_cons_succ]
              refine anyH_take 4 (some 52) (.string ⟨x.2.toArray⟩) rfl rfl (by kernel_rfl) (by kernel_rfl) (by kernel_rfl) (fun _ _ _ h => h) rfl (fun W hW => ex_load 9 (.tmp 51) rfl _ _ rfl (L52.out W hW)) FD.out ?_
              simp only [Act.put, List.setIfInBounds_toArray, List.set_cons_zero, List.set_cons_succ]
              refine anyH_take 5 (some 53) (.int .i64 (64)) rfl rfl (by kernel_rfl) (by kernel_rfl) (by kernel_rfl) (fun _ _ _ h => h) rfl (fun _ _ => rfl) FD.out ?_
              simp only [Act.put, List.setIfInBounds_toArray, List.set_cons_zero, List.set_cons_succ]
              refine anyH_take 6 (some 54) (.string ⟨(x.2.take 64).toArray⟩) rfl rfl (by kernel_rfl) (by kernel_rfl) (by kernel_rfl) (fun _ _ _ h => h) rfl (fun W _ => ex_sliceTo 9 (.tmp 52) (.tmp 53) rfl _ _ _ rfl rfl (HSTR.out 64 HM.out W)) FD.out ?_
              simp only [Act.put, List.setIfInBounds_toArray, List.set_cons_zero, List.set_cons_succ]
              refine anyH_take 7 (some 55) (.pointer (some ⟨D, 0, none⟩)) rfl rfl (by kernel_rfl) (by kernel_rfl) (by kernel_rfl) (fun _ _ _ h => h) rfl (fun _ _ => rfl) FD.out ?_
              simp only [Act.put, List.setIfInBounds_toArray, List.set_cons_zero, List.set_cons_succ]
              refine anyH_take 8 (some 56) (.pointer (some ⟨D, 0, none⟩)) rfl rfl (by kernel_rfl) (by kernel_rfl) (by kernel_rfl) (fun _ _ _ h => h) rfl (fun _ _ => rfl) FD.out ?_
              simp only [Act.put, List.setIfInBounds_toArray, List.set_cons_zero, List.set_cons_succ]
              refine anyH_take 9 (some 57) (.pointer (some ⟨D, 0, none⟩)) rfl rfl (by kernel_rfl) (by kernel_rfl) (by kernel_rfl) (fun _ _ _ h => h) rfl (fun _ _ => by kernel_rfl) FD.out ?_
              simp only [Act.put, List.setIfInBounds_toArray, List.set_cons_zero, List.set_cons_succ]
              refine anyH_take 11 (some 59) (.pointer (some ⟨wr.heap.size, 0, none⟩)) rfl rfl (by kernel_rfl) (by kernel_rfl) (by kernel_rfl) (fun _ _ _ h => h) rfl (fun _ _ => by kernel_rfl) FD.out ?_
              simp only [Act.put, List.setIfInBounds_toArray, List.set_cons_zero, List.set_cons_succ]
              refine anyH_take 12 (some 60) (.int .i64 (x.1 : Int)) rfl rfl (by kernel_rfl) (by kernel_rfl) (by kernel_rfl) (fun _ _ _ h => h) rfl (fun W hW => ex_load 3 (.tmp 59) rfl _ _ rfl (L50.out W hW)) FD.out ?_
              simp only [Act.put, List.setIfInBounds_toArray, List.set_cons_zero, List.set_cons_succ]
              refine anyH_take 15 (some 63) (.int .i64 (64)) rfl rfl (by kernel_rfl) (by kernel_rfl) (by kernel_rfl) (fun _ _ _ h => h) rfl (fun _ _ => rfl) FD.out ?_
              simp only [Act.put, List.setIfInBounds_toArray, List.set_cons_zero, List.set_cons_succ]
              refine anyH_one 10 (by kernel_rfl) rfl rfl (fun K hK => ?_)
              refine wp_runs (some 58) rfl (ex_load 70 (.tmp 57) rfl _ _ rfl L58.out) (hK _ _ FD.out ?_)
              clear hK K
              simp only [Act.put, List.setIfInBounds_toArray, List.set_cons_zero, List.set_cons_succ]
              refine anyH_take 13 (some 61) (.pointer (some ⟨pg, x.1, none⟩)) rfl rfl (by kernel_rfl) (by kernel_rfl) (by kernel_rfl) (fun _ _ _ h => h) rfl (fun W _ => ex_index 70 (.tmp 58) (.tmp 60) rfl _ _ _ rfl rfl (IX.out W)) FD.out ?_
              simp only [Act.put, List.setIfInBounds_toArray, List.set_cons_zero, List.set_cons_succ]
              refine anyH_take 14 (some 62) (.string ⟨p.toArray⟩) rfl rfl (by kernel_rfl) (by kernel_rfl) (by kernel_rfl) (fun _ _ _ h => h) rfl (fun W hW => ex_load 9 (.tmp 61) rfl _ _ rfl (L62.out W hW)) FD.out ?_
              simp only [Act.put, List.setIfInBounds_toArray, List.set_cons_zero, List.set_cons_succ]
              refine anyH_take 16 (some 64) (.string ⟨(p.drop 64).toArray⟩) rfl rfl (by kernel_rfl) (by kernel_rfl) (by kernel_rfl) (fun _ _ _ h => h) rfl (fun W _ => ex_sliceFrom 9 (.tmp 62) (.tmp 63) rfl _ _ _ rfl rfl (HSF.out 64 HM.out W)) FD.out ?_
              simp only [Act.put, List.setIfInBounds_toArray, List.set_cons_zero, List.set_cons_succ]
              refine anyH_take 17 (some 65) (.string ⟨(x.2.take 64 ++ p.drop 64).toArray⟩) rfl rfl (by kernel_rfl) (by kernel_rfl) (by kernel_rfl) (fun _ _ _ h => h) rfl (fun W _ => ex_addS 9 9 (.tmp 54) (.tmp 64) rfl (x.2.take 64) (p.drop 64) rfl rfl (by have := HX64.out; rw [List.length_take]; omega) (by have := HPL.out; rw [List.length_drop]; omega)) FD.out ?_
              simp only [Act.put, List.setIfInBounds_toArray, List.set_cons_zero, List.set_cons_succ]
              refine anyH_one 18 (by kernel_rfl) rfl rfl (fun K hK => ?_)
              refine wp_calls (some 66) rfl 40 _ (ex_call3 40 (.tmp 48) (.tmp 50) (.tmp 65) _ rfl _ _ _ rfl rfl rfl (fun _ _ => rfl)) (.tuple #[]) _ (SET.out _ (HLEN.out 64 HM.out)) (fun W2 hR2 => hK _ _ (by obtain ⟨_, _, _, _, hf2, _⟩ := hR2; exact FD.out.trans hf2 (fun _ _ h => h) (fun _ _ h => h)) ?_)
              clear hK K
              simp only [Act.put, List.setIfInBounds_toArray, List.set_cons_zero, List.set_cons_succ]
              have hN : Hid (RNow O w1 D { s with sure := crashL f s.sure s.waits (k + 1) } W2) := by
                rw [HLAY.out, HFM.out]
                exact RNow.step HFK.out HMK.out (FA.out.trans FD.out (fun _ _ h => h) (fun _ _ h => h)) hR2
              refine wpAnyH_done (by kernel_rfl) ?_ _
              clear SET L58 IX L62 L50 L52 HSTR HSF HLAY hR2 HFK HMK FD FA
              go_wp2
              go_roundw
              case rel => exact ⟨k + 1, by go_num, by omega, hN⟩
              case measure => simp [intOf]; omega
            · obtain ⟨a, rfl⟩ : ∃ a : Nat, at' = (a : Int) := ⟨at'.toNat, by omega⟩
              have HM : Hid (a ≤ 64) := Lib.hid (by omega)
              have HFM : Hid (f k = a) := Lib.hid (by rw [HF.out]; unfold outl; rw [if_pos ht]; omega)
              clear ht
              go_wp2_with fail
              clear kb0 kb1 kb2 c1 hc1 hc2 hwa
              refine wp_region_held_drew (S := Fr (· = D) wa) (by kernel_rfl) FD.out (fun _ => ?_)
              refine anyH_take 0 (some 48) (.pointer (some ⟨D, 0, none⟩)) rfl rfl (by kernel_rfl) (by kernel_rfl) (by kernel_rfl) (fun _ _ _ h => h) rfl (fun _ _ => rfl) FD.out ?_
              simp only [Act.put, List.setIfInBounds_toArray, List.set_cons_zero, List.set_cons_succ]
              refine anyH_take 1 (some 49) (.pointer (some ⟨wr.heap.size, 0, none⟩)) rfl rfl (by kernel_rfl) (by kernel_rfl) (by kernel_rfl) (fun _ _ _ h => h) rfl (fun _ _ => by kernel_rfl) FD.out ?_
              simp only [Act.put, List.setIfInBounds_toArray, List.set_cons_zero, List.set_cons_succ]
              refine anyH_take 2 (some 50) (.int .i64 (x.1 : Int)) rfl rfl (by kernel_rfl) (by kernel_rfl) (by kernel_rfl) (fun _ _ _ h => h) rfl (fun W hW => ex_load 3 (.tmp 49) rfl _ _ rfl (L50.out W hW)) FD.out ?_
              simp only [Act.put, List.setIfInBounds_toArray, List.set_cons_zero, List.set_cons_succ]
              refine anyH_take 3 (some 51) (.pointer (some ⟨wr.heap.size, 1, none⟩)) rfl rfl (by kernel_rfl) (by kernel_rfl) (by kernel_rfl) (fun _ _ _ h => h) rfl (fun _ _ => by kernel_rfl) FD.out ?_
              simp only [Act.put, List.setIfInBounds_toArray, List.set_cons_zero, List.set_cons_succ]
              refine anyH_take 4 (some 52) (.string ⟨x.2.toArray⟩) rfl rfl (by kernel_rfl) (by kernel_rfl) (by kernel_rfl) (fun _ _ _ h => h) rfl (fun W hW => ex_load 9 (.tmp 51) rfl _ _ rfl (L52.out W hW)) FD.out ?_
              simp only [Act.put, List.setIfInBounds_toArray, List.set_cons_zero, List.set_cons_succ]
              refine anyH_take 5 (some 53) (.int .i64 ((a : Int))) rfl rfl (by kernel_rfl) (by kernel_rfl) (by kernel_rfl) (fun _ _ _ h => h) rfl (fun _ _ => rfl) FD.out ?_
              simp only [Act.put, List.setIfInBounds_toArray, List.set_cons_zero, List.set_cons_succ]
              refine anyH_take 6 (some 54) (.string ⟨(x.2.take a).toArray⟩) rfl rfl (by kernel_rfl) (by kernel_rfl) (by kernel_rfl) (fun _ _ _ h => h) rfl (fun W _ => ex_sliceTo 9 (.tmp 52) (.tmp 53) rfl _ _ _ rfl rfl (HSTR.out a HM.out W)) FD.out ?_
              simp only [Act.put, List.setIfInBounds_toArray, List.set_cons_zero, List.set_cons_succ]
              refine anyH_take 7 (some 55) (.pointer (some ⟨D, 0, none⟩)) rfl rfl (by kernel_rfl) (by kernel_rfl) (by kernel_rfl) (fun _ _ _ h => h) rfl (fun _ _ => rfl) FD.out ?_
              simp only [Act.put, List.setIfInBounds_toArray, List.set_cons_zero, List.set_cons_succ]
              refine anyH_take 8 (some 56) (.pointer (some ⟨D, 0, none⟩)) rfl rfl (by kernel_rfl) (by kernel_rfl) (by kernel_rfl) (fun _ _ _ h => h) rfl (fun _ _ => rfl) FD.out ?_
              simp only [Act.put, List.setIfInBounds_toArray, List.set_cons_zero, List.set_cons_succ]
              refine anyH_take 9 (some 57) (.pointer (some ⟨D, 0, none⟩)) rfl rfl (by kernel_rfl) (by kernel_rfl) (by kernel_rfl) (fun _ _ _ h => h) rfl (fun _ _ => by kernel_rfl) FD.out ?_
              simp only [Act.put, List.setIfInBounds_toArray, List.set_cons_zero, List.set_cons_succ]
              refine anyH_take 11 (some 59) (.pointer (some ⟨wr.heap.size, 0, none⟩)) rfl rfl (by kernel_rfl) (by kernel_rfl) (by kernel_rfl) (fun _ _ _ h => h) rfl (fun _ _ => by kernel_rfl) FD.out ?_
              simp only [Act.put, List.setIfInBounds_toArray, List.set_cons_zero, List.set_cons_succ]
              refine anyH_take 12 (some 60) (.int .i64 (x.1 : Int)) rfl rfl (by kernel_rfl) (by kernel_rfl) (by kernel_rfl) (fun _ _ _ h => h) rfl (fun W hW => ex_load 3 (.tmp 59) rfl _ _ rfl (L50.out W hW)) FD.out ?_
              simp only [Act.put, List.setIfInBounds_toArray, List.set_cons_zero, List.set_cons_succ]
              refine anyH_take 15 (some 63) (.int .i64 ((a : Int))) rfl rfl (by kernel_rfl) (by kernel_rfl) (by kernel_rfl) (fun _ _ _ h => h) rfl (fun _ _ => rfl) FD.out ?_
              simp only [Act.put, List.setIfInBounds_toArray, List.set_cons_zero, List.set_cons_succ]
              refine anyH_one 10 (by kernel_rfl) rfl rfl (fun K hK => ?_)
              refine wp_runs (some 58) rfl (ex_load 70 (.tmp 57) rfl _ _ rfl L58.out) (hK _ _ FD.out ?_)
              clear hK K
              simp only [Act.put, List.setIfInBounds_toArray, List.set_cons_zero, List.set_cons_succ]
              refine anyH_take 13 (some 61) (.pointer (some ⟨pg, x.1, none⟩)) rfl rfl (by kernel_rfl) (by kernel_rfl) (by kernel_rfl) (fun _ _ _ h => h) rfl (fun W _ => ex_index 70 (.tmp 58) (.tmp 60) rfl _ _ _ rfl rfl (IX.out W)) FD.out ?_
              simp only [Act.put, List.setIfInBounds_toArray, List.set_cons_zero, List.set_cons_succ]
              refine anyH_take 14 (some 62) (.string ⟨p.toArray⟩) rfl rfl (by kernel_rfl) (by kernel_rfl) (by kernel_rfl) (fun _ _ _ h => h) rfl (fun W hW => ex_load 9 (.tmp 61) rfl _ _ rfl (L62.out W hW)) FD.out ?_
              simp only [Act.put, List.setIfInBounds_toArray, List.set_cons_zero, List.set_cons_succ]
              refine anyH_take 16 (some 64) (.string ⟨(p.drop a).toArray⟩) rfl rfl (by kernel_rfl) (by kernel_rfl) (by kernel_rfl) (fun _ _ _ h => h) rfl (fun W _ => ex_sliceFrom 9 (.tmp 62) (.tmp 63) rfl _ _ _ rfl rfl (HSF.out a HM.out W)) FD.out ?_
              simp only [Act.put, List.setIfInBounds_toArray, List.set_cons_zero, List.set_cons_succ]
              refine anyH_take 17 (some 65) (.string ⟨(x.2.take a ++ p.drop a).toArray⟩) rfl rfl (by kernel_rfl) (by kernel_rfl) (by kernel_rfl) (fun _ _ _ h => h) rfl (fun W _ => ex_addS 9 9 (.tmp 54) (.tmp 64) rfl (x.2.take a) (p.drop a) rfl rfl (by have := HX64.out; rw [List.length_take]; omega) (by have := HPL.out; rw [List.length_drop]; omega)) FD.out ?_
              simp only [Act.put, List.setIfInBounds_toArray, List.set_cons_zero, List.set_cons_succ]
              refine anyH_one 18 (by kernel_rfl) rfl rfl (fun K hK => ?_)
              refine wp_calls (some 66) rfl 40 _ (ex_call3 40 (.tmp 48) (.tmp 50) (.tmp 65) _ rfl _ _ _ rfl rfl rfl (fun _ _ => rfl)) (.tuple #[]) _ (SET.out _ (HLEN.out a HM.out)) (fun W2 hR2 => hK _ _ (by obtain ⟨_, _, _, _, hf2, _⟩ := hR2; exact FD.out.trans hf2 (fun _ _ h => h) (fun _ _ h => h)) ?_)
              clear hK K
              simp only [Act.put, List.setIfInBounds_toArray, List.set_cons_zero, List.set_cons_succ]
              have hN : Hid (RNow O w1 D { s with sure := crashL f s.sure s.waits (k + 1) } W2) := by
                rw [HLAY.out, HFM.out]
                exact RNow.step HFK.out HMK.out (FA.out.trans FD.out (fun _ _ h => h) (fun _ _ h => h)) hR2
              refine wpAnyH_done (by kernel_rfl) ?_ _
              clear SET L58 IX L62 L50 L52 HSTR HSF HLAY hR2 HFK HMK FD FA
              go_wp2
              go_roundw
              case rel => exact ⟨k + 1, by go_num, by omega, hN⟩
              case measure => simp [intOf]; omega
        · have htb : ((k : Int) == torn) = false := by rw [beq_eq_false_iff_ne]; exact ht
          have HM : Hid (0 ≤ 64) := Lib.hid (by omega)
          have HFM : Hid (f k = 0) := Lib.hid (by rw [HF.out]; unfold outl; rw [if_neg ht, hget, if_neg (by simp)])
          clear ht
          go_wp2_with fail
          clear kb0 kb1 kb2 c1 hc1 hc2 hwa
          refine wp_region_held_drew (S := Fr (· = D) wa) (by kernel_rfl) FD.out (fun _ => ?_)
          refine anyH_take 0 (some 48) (.pointer (some ⟨D, 0, none⟩)) rfl rfl (by kernel_rfl) (by kernel_rfl) (by kernel_rfl) (fun _ _ _ h => h) rfl (fun _ _ => rfl) FD.out ?_
          simp only [Act.put, List.setIfInBounds_toArray, List.set_cons_zero, List.set_cons_succ]
          refine anyH_take 1 (some 49) (.pointer (some ⟨wr.heap.size, 0, none⟩)) rfl rfl (by kernel_rfl) (by kernel_rfl) (by kernel_rfl) (fun _ _ _ h => h) rfl (fun _ _ => by kernel_rfl) FD.out ?_
          simp only [Act.put, List.setIfInBounds_toArray, List.set_cons_zero, List.set_cons_succ]
          refine anyH_take 2 (some 50) (.int .i64 (x.1 : Int)) rfl rfl (by kernel_rfl) (by kernel_rfl) (by kernel_rfl) (fun _ _ _ h => h) rfl (fun W hW => ex_load 3 (.tmp 49) rfl _ _ rfl (L50.out W hW)) FD.out ?_
          simp only [Act.put, List.setIfInBounds_toArray, List.set_cons_zero, List.set_cons_succ]
          refine anyH_take 3 (some 51) (.pointer (some ⟨wr.heap.size, 1, none⟩)) rfl rfl (by kernel_rfl) (by kernel_rfl) (by kernel_rfl) (fun _ _ _ h => h) rfl (fun _ _ => by kernel_rfl) FD.out ?_
          simp only [Act.put, List.setIfInBounds_toArray, List.set_cons_zero, List.set_cons_succ]
          refine anyH_take 4 (some 52) (.string ⟨x.2.toArray⟩) rfl rfl (by kernel_rfl) (by kernel_rfl) (by kernel_rfl) (fun _ _ _ h => h) rfl (fun W hW => ex_load 9 (.tmp 51) rfl _ _ rfl (L52.out W hW)) FD.out ?_
          simp only [Act.put, List.setIfInBounds_toArray, List.set_cons_zero, List.set_cons_succ]
          refine anyH_take 5 (some 53) (.int .i64 (0)) rfl rfl (by kernel_rfl) (by kernel_rfl) (by kernel_rfl) (fun _ _ _ h => h) rfl (fun _ _ => rfl) FD.out ?_
          simp only [Act.put, List.setIfInBounds_toArray, List.set_cons_zero, List.set_cons_succ]
          refine anyH_take 6 (some 54) (.string ⟨(x.2.take 0).toArray⟩) rfl rfl (by kernel_rfl) (by kernel_rfl) (by kernel_rfl) (fun _ _ _ h => h) rfl (fun W _ => ex_sliceTo 9 (.tmp 52) (.tmp 53) rfl _ _ _ rfl rfl (HSTR.out 0 HM.out W)) FD.out ?_
          simp only [Act.put, List.setIfInBounds_toArray, List.set_cons_zero, List.set_cons_succ]
          refine anyH_take 7 (some 55) (.pointer (some ⟨D, 0, none⟩)) rfl rfl (by kernel_rfl) (by kernel_rfl) (by kernel_rfl) (fun _ _ _ h => h) rfl (fun _ _ => rfl) FD.out ?_
          simp only [Act.put, List.setIfInBounds_toArray, List.set_cons_zero, List.set_cons_succ]
          refine anyH_take 8 (some 56) (.pointer (some ⟨D, 0, none⟩)) rfl rfl (by kernel_rfl) (by kernel_rfl) (by kernel_rfl) (fun _ _ _ h => h) rfl (fun _ _ => rfl) FD.out ?_
          simp only [Act.put, List.setIfInBounds_toArray, List.set_cons_zero, List.set_cons_succ]
          refine anyH_take 9 (some 57) (.pointer (some ⟨D, 0, none⟩)) rfl rfl (by kernel_rfl) (by kernel_rfl) (by kernel_rfl) (fun _ _ _ h => h) rfl (fun _ _ => by kernel_rfl) FD.out ?_
          simp only [Act.put, List.setIfInBounds_toArray, List.set_cons_zero, List.set_cons_succ]
          refine anyH_take 11 (some 59) (.pointer (some ⟨wr.heap.size, 0, none⟩)) rfl rfl (by kernel_rfl) (by kernel_rfl) (by kernel_rfl) (fun _ _ _ h => h) rfl (fun _ _ => by kernel_rfl) FD.out ?_
          simp only [Act.put, List.setIfInBounds_toArray, List.set_cons_zero, List.set_cons_succ]
          refine anyH_take 12 (some 60) (.int .i64 (x.1 : Int)) rfl rfl (by kernel_rfl) (by kernel_rfl) (by kernel_rfl) (fun _ _ _ h => h) rfl (fun W hW => ex_load 3 (.tmp 59) rfl _ _ rfl (L50.out W hW)) FD.out ?_
          simp only [Act.put, List.setIfInBounds_toArray, List.set_cons_zero, List.set_cons_succ]
          refine anyH_take 15 (some 63) (.int .i64 (0)) rfl rfl (by kernel_rfl) (by kernel_rfl) (by kernel_rfl) (fun _ _ _ h => h) rfl (fun _ _ => rfl) FD.out ?_
          simp only [Act.put, List.setIfInBounds_toArray, List.set_cons_zero, List.set_cons_succ]
          refine anyH_one 10 (by kernel_rfl) rfl rfl (fun K hK => ?_)
          refine wp_runs (some 58) rfl (ex_load 70 (.tmp 57) rfl _ _ rfl L58.out) (hK _ _ FD.out ?_)
          clear hK K
          simp only [Act.put, List.setIfInBounds_toArray, List.set_cons_zero, List.set_cons_succ]
          refine anyH_take 13 (some 61) (.pointer (some ⟨pg, x.1, none⟩)) rfl rfl (by kernel_rfl) (by kernel_rfl) (by kernel_rfl) (fun _ _ _ h => h) rfl (fun W _ => ex_index 70 (.tmp 58) (.tmp 60) rfl _ _ _ rfl rfl (IX.out W)) FD.out ?_
          simp only [Act.put, List.setIfInBounds_toArray, List.set_cons_zero, List.set_cons_succ]
          refine anyH_take 14 (some 62) (.string ⟨p.toArray⟩) rfl rfl (by kernel_rfl) (by kernel_rfl) (by kernel_rfl) (fun _ _ _ h => h) rfl (fun W hW => ex_load 9 (.tmp 61) rfl _ _ rfl (L62.out W hW)) FD.out ?_
          simp only [Act.put, List.setIfInBounds_toArray, List.set_cons_zero, List.set_cons_succ]
          refine anyH_take 16 (some 64) (.string ⟨(p.drop 0).toArray⟩) rfl rfl (by kernel_rfl) (by kernel_rfl) (by kernel_rfl) (fun _ _ _ h => h) rfl (fun W _ => ex_sliceFrom 9 (.tmp 62) (.tmp 63) rfl _ _ _ rfl rfl (HSF.out 0 HM.out W)) FD.out ?_
          simp only [Act.put, List.setIfInBounds_toArray, List.set_cons_zero, List.set_cons_succ]
          refine anyH_take 17 (some 65) (.string ⟨(x.2.take 0 ++ p.drop 0).toArray⟩) rfl rfl (by kernel_rfl) (by kernel_rfl) (by kernel_rfl) (fun _ _ _ h => h) rfl (fun W _ => ex_addS 9 9 (.tmp 54) (.tmp 64) rfl (x.2.take 0) (p.drop 0) rfl rfl (by have := HX64.out; rw [List.length_take]; omega) (by have := HPL.out; rw [List.length_drop]; omega)) FD.out ?_
          simp only [Act.put, List.setIfInBounds_toArray, List.set_cons_zero, List.set_cons_succ]
          refine anyH_one 18 (by kernel_rfl) rfl rfl (fun K hK => ?_)
          refine wp_calls (some 66) rfl 40 _ (ex_call3 40 (.tmp 48) (.tmp 50) (.tmp 65) _ rfl _ _ _ rfl rfl rfl (fun _ _ => rfl)) (.tuple #[]) _ (SET.out _ (HLEN.out 0 HM.out)) (fun W2 hR2 => hK _ _ (by obtain ⟨_, _, _, _, hf2, _⟩ := hR2; exact FD.out.trans hf2 (fun _ _ h => h) (fun _ _ h => h)) ?_)
          clear hK K
          simp only [Act.put, List.setIfInBounds_toArray, List.set_cons_zero, List.set_cons_succ]
          have hN : Hid (RNow O w1 D { s with sure := crashL f s.sure s.waits (k + 1) } W2) := by
            rw [HLAY.out, HFM.out]
            exact RNow.step HFK.out HMK.out (FA.out.trans FD.out (fun _ _ h => h) (fun _ _ h => h)) hR2
          refine wpAnyH_done (by kernel_rfl) ?_ _
          clear SET L58 IX L62 L50 L52 HSTR HSF HLAY hR2 HFK HMK FD FA
          go_wp2
          go_roundw
          case rel => exact ⟨k + 1, by go_num, by omega, hN⟩
          case measure => simp [intOf]; omega
    · have hnk : ¬ (k : Int) < (s.waits.length : Int) := by omega
      have d1 := hrd.c1
      have d2 := hrd.c2
      have d3 := hrd.c3
      have d4 := hrd.c4
      have f1 := hrd.free 1
      have f2 := hrd.free 2
      have f3 := hrd.free 3
      have f4 := hrd.free 4
      simp only at d1 d2 d3 d4
      have hage := HA.out
      have hfin : Hid (RNow O w D { sure := crashL f s.sure s.waits s.waits.length, waits := [], cut := 0, down := false, age := s.age + 1 } ((((wr.setCell ⟨D, 1, none⟩ (.slice none 0 0)).setCell ⟨D, 3, none⟩ (.int .i64 0)).setCell ⟨D, 2, none⟩ (.bool false)).setCell ⟨D, 4, none⟩ (.int .i64 ((s.age : Int) + 1)))) := by
        have := hR.out.then (fun O' pv lv h => h.crashed (by simpa using hage))
        rw [show k = s.waits.length by omega] at this
        exact RNow.of HB1.out rfl this
      clear hrd hfk hmk hR c1
      go_wp2
      go_ret
      exact ⟨rfl, hfin.out⟩
end Go.Proofs.Ytohmofhpbmhhjaa

