/- Disk: DiskTorn, the good way. -/
import Derived.Test.YtohmofhpbmhhjaaD16
namespace Go.Proofs.Ytohmofhpbmhhjaa
open Go Go.RowKit

/-- The disk, and blocks E that are none of its own. -/
def HasE (E : Nat → Prop) (w0 w : World) (D S c : Nat) (s : St) : Prop := ∃ O wv, Dsk O w D S c wv s ∧ (∀ k, O k → w0.heap.size ≤ k ∧ ¬ E k) ∧ Below w0.heap.size w0 w
theorem Has.apart {w0 w w' : World} {D S c : Nat} {s : St} (H : Has w0 w D S c s) (hb : Below w.heap.size w w') (E : Nat → Prop) (hE : ∀ k, E k → w.heap.size ≤ k) : HasE E w0 w' D S c s := by
  obtain ⟨O, wv, h, hO, hB⟩ := H
  exact ⟨O, wv, h.below hb, fun k hk => ⟨hO k hk, fun e => by have := hE k e; have := h.lt k hk; omega⟩, hB.trans (hb.mono hB.size)⟩
theorem HasE.has {E : Nat → Prop} {w0 w : World} {D S c : Nat} {s : St} (H : HasE E w0 w D S c s) : Has w0 w D S c s := by
  obtain ⟨O, wv, h, hO, hB⟩ := H
  exact ⟨O, wv, h, fun k hk => (hO k hk).1, hB⟩
theorem hasE_crash {E : Nat → Prop} {w0 w : World} {D S c : Nat} {s : St} (H : HasE E w0 w D S c s) (hE : ∀ k, E k → k < w.heap.size) (ha : s.age + 1 ≤ 1000) (kv : Value) (keep : List Bool) (torn at' : Int) (hv : Bools w kv keep) (hvo : ∀ g, kv.ownBlock = some g → keep ≠ [] → g < w0.heap.size) (hkl : keep.length ≤ 9223372036854775807) :
    Calls Try.prog 14 #[.pointer (some ⟨D, 0, none⟩), .agg #[kv, .int .i64 torn, .int .i64 at']] w fun e w' => e = .returned (.int .i64 0) ∧ Has w0 w' D S c (s.crashed keep torn at') ∧ (∀ k, E k → w'.heap[k]? = w.heap[k]?) ∧ w.heap.size ≤ w'.heap.size := by
  obtain ⟨O, wv, h, hO, hB⟩ := H
  exact (crash_any h ha kv keep torn at' hv (fun g hg hne => ⟨by have := hvo g hg hne; have := hB.size; omega, fun e => by have := hvo g hg hne; have := (hO g e).1; omega⟩) hkl).mono fun e w' ⟨h1, h2⟩ => ⟨h1, Has.now (fun k hk => (hO k hk).1) hB h2, (fun k hk => by
    obtain ⟨_, _, _, hf, _⟩ := h2
    exact hf.block k (hE k hk) (fun e => (hO k e).2 hk)), by obtain ⟨_, _, _, hf, _⟩ := h2; exact hf.size⟩
section
variable {P : Program}
theorem ex_convert {o : Oper} {a : Act} {w : World} (s d : TypeId) (x : Operand) (ho : o.op = .convert s d x) (xv v : Value) (hx : a.eval x = xv) (hr : (convert s d xv).run P w = .ok v w) : (execOp a.eval o).run P w = .ok (.value v) w := by
  unfold execOp
  simp only [ho, hx, Sem.run_bind, hr, Result.andThen_ok]
  rfl
theorem ex_sliceFrom {o : Oper} {a : Act} {w : World} (t : TypeId) (x y : Operand) (ho : o.op = .slice t x (some y) none none) (p k v : Value) (hx : a.eval x = p) (hy : a.eval y = k) (hr : (Instr.sliceAt t p (some k) none none).run P w = .ok v w) : (execOp a.eval o).run P w = .ok (.value v) w := by
  unfold execOp
  simp only [ho, hx, hy, Option.map_none, Option.map_some, Sem.run_bind, hr, Result.andThen_ok]
  rfl
theorem ex_addS {o : Oper} {a : Act} {w : World} (t u : TypeId) (x y : Operand) (ho : o.op = .binOp .add t x y u) (p q : List UInt8) (hx : a.eval x = .string ⟨p.toArray⟩) (hy : a.eval y = .string ⟨q.toArray⟩) (hp : (p.length : Int) ≤ 8388608) (hq : (q.length : Int) ≤ 8388608) :
    (execOp a.eval o).run P w = .ok (.value (.string ⟨(p ++ q).toArray⟩)) w := by
  unfold execOp
  simp [ho, hx, hy, eqGuard, binOp_string_add, Sem.run_bind, run_string_add_lists w p q hp hq]
theorem ex_eqlS {o : Oper} {a : Act} {w : World} (t u : TypeId) (x y : Operand) (ho : o.op = .binOp .eql t x y u) (p q : List UInt8) (hx : a.eval x = .string ⟨p.toArray⟩) (hy : a.eval y = .string ⟨q.toArray⟩) :
    (execOp a.eval o).run P w = .ok (.value (.bool (p == q))) w := by
  unfold execOp
  simp [ho, hx, hy, eqGuard, binOp_string_eql, Sem.run_bind]
theorem run_sliceAt_is {t : TypeId} (ht : P.underlying t = some (.slice (P.elem t))) (w : World) (x : Value) (lo hi mx : Option Value) : (Instr.sliceAt t x lo hi mx).run P w = (Instr.slice t x lo hi mx).run P w := by
  simp [Instr.sliceAt, Sem.run_bind, run_underlying ht]
end
theorem mix_at (a b : List UInt8) (ha : a.length = 64) (hb : b.length = 64) (m : Nat) (hm : m ≤ 64) : (b.take m ++ a.drop m).length = 64 := by simp; omega
set_option maxHeartbeats 4000000 in
theorem torn_good (u v : Value) (p q : List UInt8) (kv : Value) (keep : List Bool) (torn at' : Int) (w : World) (hu : Byt w u p) (hv : Byt w v q) (hk : Bools w kv keep) (hko : ∀ g, kv.ownBlock = some g → keep ≠ [] → g < w.heap.size) (hkl : keep.length ≤ 9223372036854775807) (hp : p.length ≤ 64) (hq : q.length ≤ 64) :
    Calls Try.prog 5 #[u, v, .agg #[kv, .int .i64 torn, .int .i64 at']] w fun e w' => e = .returned (.bool true) ∧ Below w.heap.size w w' := by
  have hult := hu.lt
  have hvlt := hv.lt
  obtain ⟨s1, s2, s3, s4, e1, e2, e3, e4, e5, e6, e7, e8, e9, e10, e11, e12, e13⟩ := torn_facts p q hp hq keep torn at'
  have hm := outl_le keep torn at' 0
  have hpa := pad_len hp
  have hpb := pad_len hq
  generalize outl keep torn at' 0 = m at *
  generalize pad p = a at *
  generalize pad q = b at *
  have hb1 : Below w.heap.size w (w.alloc (.cells #[kv, .int .i64 torn, .int .i64 at'] 32)) := (Below.refl _ w).alloc (Nat.le_refl _) _
  obtain ⟨wb, hwb⟩ : ∃ wb, w.alloc (.cells #[kv, .int .i64 torn, .int .i64 at'] 32) = wb := ⟨_, rfl⟩
  have hbx : wb.heap[w.heap.size]? = some (.cells #[kv, .int .i64 torn, .int .i64 at'] 32) := by rw [← hwb]; exact heap_alloc_last w _
  have hszb : wb.heap.size = w.heap.size + 1 := by rw [← hwb]; simp
  rw [hwb] at hb1
  have hnew : Calls Try.prog 10 #[.int .i64 1] wb fun e w' => e = .returned (.tuple #[.pointer (some ⟨wb.heap.size + 1, 0, none⟩), .int .i64 0]) ∧ Has wb w' (wb.heap.size + 1) wb.heap.size 1 (St.new 1) := has_new 1 wb wb (Below.refl _ _) (by decide) (by decide)
  have hub := hu.below hb1
  have hvb := hv.below hb1
  have hkb := hk.below hb1
  have hpl : ¬ 64 < (p.length : Int) := by omega
  have hql : ¬ 64 < (q.length : Int) := by omega
  obtain ⟨ua, uc, rfl, _⟩ := hu.shape
  obtain ⟨va, vc, rfl, _⟩ := hv.shape
  have HN := Lib.hid hnew
  have HB1 := Lib.hid hb1
  have HBX := Lib.hid hbx
  have HSZ := Lib.hid hszb
  have HU := Lib.hid hub
  have HV := Lib.hid hvb
  have HK := Lib.hid hkb
  have HKO := Lib.hid hko
  have HUL := Lib.hid hult
  have HVL := Lib.hid hvlt
  have E1 := Lib.hid e1
  have E2 := Lib.hid e2
  have E3 := Lib.hid e3
  have E4 := Lib.hid e4
  have E5 := Lib.hid e5
  have E6 := Lib.hid e6
  have E7 := Lib.hid e7
  have E8 := Lib.hid e8
  have E9 := Lib.hid e9
  have E10 := Lib.hid e10
  have E11 := Lib.hid e11
  have E12 := Lib.hid e12
  have E13 := Lib.hid e13
  have HPA := Lib.hid hpa
  have HPB := Lib.hid hpb
  clear hnew hb1 hbx hszb hub hvb hkb hko hult hvlt e1 e2 e3 e4 e5 e6 e7 e8 e9 e10 e11 e12 e13 hpa hpb hu hv hk hp hq
  go_enter Try.func5, Try.ntmps5
  go_wp2_with fail
  refine HN.out.mono ?_
  rintro e w1 ⟨rfl, h1⟩
  clear hwb
  generalize wb.heap.size + 1 = D at *
  have hw1 := has_write h1 0 (.slice ua p.length uc) p (HU.out.below (h1.bel)).z (fun g hg _ => by have := HUL.out g hg; have := HSZ.out; omega) (by simp [St.new])
  rw [E1.out] at hw1
  have HW1 := Lib.hid hw1
  have H1 := Lib.hid h1.bel
  clear hw1 h1 HN
  go_wp2_with fail
  refine HW1.out.mono ?_
  rintro e w2 ⟨rfl, h2⟩
  have hf2 := has_flush h2
  rw [E2.out] at hf2
  have HF2 := Lib.hid hf2
  clear hf2 h2 HW1
  go_wp2_with fail
  refine HF2.out.mono ?_
  rintro e w3 ⟨rfl, h3⟩
  have hw3 := has_write h3 0 (.slice va q.length vc) q (HV.out.below h3.bel).z (fun g hg _ => by have := HVL.out g hg; have := HSZ.out; omega) (by rw [E3.out]; decide)
  rw [E4.out] at hw3
  have HW3 := Lib.hid hw3
  clear hw3 h3 HF2
  go_wp2_with fail
  refine HW3.out.mono ?_
  rintro e w4 ⟨rfl, h4⟩
  have hs4 := has_sure h4 0
  have HS4 := Lib.hid hs4
  have H4 := Lib.hid h4
  clear hs4 h4 HW3
  go_wp2_with fail
  refine HS4.out.mono ?_
  intro e w5 hT
  unfold SureR at hT
  rw [if_pos (by rw [E7.out]; decide), show Int.toNat 0 = 0 from rfl, E8.out] at hT
  obtain ⟨ba, rfl, hba, hga, hb5⟩ := hT
  have h5 := H4.out.below hb5
  have hr5 := has_read h5 0
  have HA5 := Lib.hid (told_byt HPA.out hba)
  have HR5 := Lib.hid hr5
  have H5 := Lib.hid h5
  have HB5 := Lib.hid hb5
  have HGA := Lib.hid hga
  clear hba hga hb5 h5 hr5 HS4
  go_wp2_with fail
  refine HR5.out.mono ?_
  intro e w6 hT
  unfold ReadR at hT
  rw [E6.out, if_neg (by simp), if_pos (by rw [E7.out]; decide), show Int.toNat 0 = 0 from rfl, E9.out] at hT
  obtain ⟨bb, rfl, hbb, hgb, hb6⟩ := hT
  have h6e := H4.out.apart ((HB5.out).trans (hb6.mono HB5.out.size)) (fun k => k = ba ∨ k = bb) (fun k hk => by
    have := HGA.out
    have := HB5.out.size
    rcases hk with rfl | rfl <;> omega)
  have h6 := h6e.has
  have HA6 := Lib.hid (HA5.out.below hb6)
  have HB6 := Lib.hid (told_byt HPB.out hbb)
  have hbel6 := h6.bel
  have halt := HA6.out.lt
  have hblt := HB6.out.lt
  have hcr := hasE_crash h6e (fun k hk => by rcases hk with rfl | rfl; exact halt _ rfl; exact hblt _ rfl) (by rw [E5.out]; decide) kv keep torn at' (HK.out.below hbel6) (fun g hg hne => by have := HKO.out g hg hne; have := HSZ.out; omega) hkl
  rw [E10.out] at hcr
  have hl32 : (Instr.loadAt 32 (.pointer (some ⟨w.heap.size, 0, none⟩))).run Try.prog w6 = .ok (.agg #[kv, .int .i64 torn, .int .i64 at']) w6 :=
    run_loadAt_mid w6 w.heap.size 0 32 [kv, .int .i64 torn, .int .i64 at'] _ (fun j v hj => by
      rw [cell_of_row w6 _ _ _ _ _ ((hbel6.block _ (by have := HSZ.out; omega)).trans HBX.out)]
      simpa using hj) Try.underlying32 rfl (by kernel_rfl)
  have HCR := Lib.hid hcr
  have L32 := Lib.hid hl32
  clear hbb hgb hb6 h6 h6e hcr hl32 hbel6 halt hblt HR5 HA5 H5 H4 HB5 HGA
  go_wp2_with (refine wpList_load_known rfl 32 (.tmp 5) rfl _ _ rfl L32.out ?_)
  refine HCR.out.mono ?_
  rintro e w7 ⟨rfl, h7, hE7, h7s⟩
  have HA7 := Lib.hid (HA6.out.kept h7s (fun g hg => by simp [Value.ownBlock] at hg; subst hg; exact hE7 _ (Or.inl rfl)))
  have HB7 := Lib.hid (HB6.out.kept h7s (fun g hg => by simp [Value.ownBlock] at hg; subst hg; exact hE7 _ (Or.inr rfl)))
  have hr7 := has_read h7 0
  have HR7 := Lib.hid hr7
  have H7 := Lib.hid h7
  clear h7 h7s hE7 hr7 HCR L32 HA6 HB6
  go_wp2_with fail
  refine HR7.out.mono ?_
  intro e w8 hT
  unfold ReadR at hT
  rw [E11.out, if_neg (by simp), if_pos (by rw [E12.out]; decide), show Int.toNat 0 = 0 from rfl, E13.out] at hT
  obtain ⟨bg, rfl, hbg, hgg, hb8⟩ := hT
  have HG8 := Lib.hid (told_byt (mix_at a b HPA.out HPB.out m hm) hbg)
  have HA8 := Lib.hid (HA7.out.below hb8)
  have HB8 := Lib.hid (HB7.out.below hb8)
  have HBL := Lib.hid (HB1.out.trans ((H7.out.below hb8).bel.mono HB1.out.size))
  clear hbg hgg hb8 HA7 HB7 H7 HR7
  go_wp2_with fail
  go_loopw [15] (fun kv wr => ∃ k : Nat, kv = .int .i64 (k : Int) ∧ k ≤ m ∧ Hid (Below w8.heap.size w8 wr)) (fun kv _ => 65 - (intOf kv).toNat)
  case atStart => exact ⟨0, rfl, Nat.zero_le _, Below.refl _ _⟩
  case round =>
    obtain ⟨k, rfl, hkm, hB⟩ := hrel
    have hG := HG8.out.below (hB.out.drew)
    have hA := HA8.out.below (hB.out.drew)
    have hBB := HB8.out.below (hB.out.drew)
    have hu29 : Try.prog.underlying 29 = some (.slice (Try.prog.elem 29)) := by kernel_rfl
    have hcG := run_byt_string (P := Try.prog) wr.drew 29 9 5 Try.underlying29 Try.underlying5 Try.underlying9 hG
    have hsz1 : ∀ w, (sizeOf 5).run Try.prog w = .ok 1 w := fun w => by kernel_rfl
    have hsB : (Instr.sliceAt 29 (.slice (some ⟨bb, 0, none⟩) 64 64) none (some (.int .i64 (k : Int))) none).run Try.prog wr.drew = _ := (run_sliceAt_is hu29 wr.drew _ _ _ _).trans (run_cut_to wr.drew 29 5 Try.underlying29 hsz1 (some ⟨bb, 0, none⟩) 64 64 k (by omega))
    have hsA : (Instr.sliceAt 29 (.slice (some ⟨ba, 0, none⟩) 64 64) (some (.int .i64 (k : Int))) none none).run Try.prog wr.drew = _ := (run_sliceAt_is hu29 wr.drew _ _ _ _).trans (run_cut_from wr.drew 29 5 Try.underlying29 hsz1 (some ⟨ba, 0, none⟩) 64 64 k (by omega))
    have hkB := hBB.cut 0 k 64 (by omega) (by omega) (by omega) (by omega)
    have hkA := hA.cut k 64 64 (by omega) (by omega) (by omega) (by omega)
    simp only [Nat.sub_zero] at hkB
    have hcB := run_byt_string (P := Try.prog) wr.drew 29 9 5 Try.underlying29 Try.underlying5 Try.underlying9 hkB
    have hcA := run_byt_string (P := Try.prog) wr.drew 29 9 5 Try.underlying29 Try.underlying5 Try.underlying9 hkA
    have hkk : (k : Int) ≤ 64 := by omega
    have hpa := HPA.out
    have hpb := HPB.out
    have heq : k = m → ((b.take m ++ a.drop m) == ((b.drop 0).take k ++ (a.drop k).take (64 - k))) = true := fun e => by
      subst e
      rw [beq_iff_eq, List.drop_zero]
      congr 1
      exact (List.take_of_length_le (by simp; omega)).symm
    have hl1 : (((b.drop 0).take k).length : Int) ≤ 8388608 := by simp; omega
    have hl2 : (((a.drop k).take (64 - k)).length : Int) ≤ 8388608 := by simp; omega
    generalize b.take m ++ a.drop m = G at *
    generalize (b.drop 0).take k = X at *
    generalize (a.drop k).take (64 - k) = Y at *
    have CG := Lib.hid hcG
    have CB := Lib.hid hcB
    have CA := Lib.hid hcA
    have SB := Lib.hid hsB
    have SA := Lib.hid hsA
    have HEQ := Lib.hid heq
    have HL1 := Lib.hid hl1
    have HL2 := Lib.hid hl2
    have HBD := Lib.hid hB.out.drew
    clear hcG hcB hcA hsB hsA heq hl1 hl2 hG hA hBB hkB hkA hu29 hsz1 hpa hpb hB
    go_wp2_with fail
    refine wp_region_held_drew (S := fun W => W = wr.drew) (by kernel_rfl) rfl (fun _ => ?_)
    refine anyH_take 0 (some 88) (.slice (some ⟨bg, 0, none⟩) 64 64) rfl rfl (by kernel_rfl) (by kernel_rfl) (by kernel_rfl) (fun _ _ _ h => h) rfl (fun w _ => rfl) rfl ?_
    simp only [Act.put, List.setIfInBounds_toArray, List.set_cons_zero, List.set_cons_succ]
    refine anyH_take 1 (some 89) (.string ⟨G.toArray⟩) rfl rfl (by kernel_rfl) (by kernel_rfl) (by kernel_rfl) (fun _ _ _ h => h) rfl (fun w hw => by subst hw; exact ex_convert 29 9 (.tmp 88) rfl _ _ rfl CG.out) rfl ?_
    simp only [Act.put, List.setIfInBounds_toArray, List.set_cons_zero, List.set_cons_succ]
    refine anyH_take 2 (some 90) (.slice (some ⟨bb, 0, none⟩) 64 64) rfl rfl (by kernel_rfl) (by kernel_rfl) (by kernel_rfl) (fun _ _ _ h => h) rfl (fun w _ => rfl) rfl ?_
    simp only [Act.put, List.setIfInBounds_toArray, List.set_cons_zero, List.set_cons_succ]
    refine anyH_take 3 (some 91) (.int .i64 (k : Int)) rfl rfl (by kernel_rfl) (by kernel_rfl) (by kernel_rfl) (fun _ _ _ h => h) rfl (fun w _ => rfl) rfl ?_
    simp only [Act.put, List.setIfInBounds_toArray, List.set_cons_zero, List.set_cons_succ]
    refine anyH_take 4 (some 92) (.slice (cutA (some ⟨bb, 0, none⟩) 0 64) k 64) rfl rfl (by kernel_rfl) (by kernel_rfl) (by kernel_rfl) (fun _ _ _ h => h) rfl (fun w hw => by subst hw; exact ex_sliceTo 29 (.tmp 90) (.tmp 91) rfl _ _ _ rfl rfl SB.out) rfl ?_
    simp only [Act.put, List.setIfInBounds_toArray, List.set_cons_zero, List.set_cons_succ]
    refine anyH_take 5 (some 93) (.string ⟨X.toArray⟩) rfl rfl (by kernel_rfl) (by kernel_rfl) (by kernel_rfl) (fun _ _ _ h => h) rfl (fun w hw => by subst hw; exact ex_convert 29 9 (.tmp 92) rfl _ _ rfl CB.out) rfl ?_
    simp only [Act.put, List.setIfInBounds_toArray, List.set_cons_zero, List.set_cons_succ]
    refine anyH_take 6 (some 94) (.slice (some ⟨ba, 0, none⟩) 64 64) rfl rfl (by kernel_rfl) (by kernel_rfl) (by kernel_rfl) (fun _ _ _ h => h) rfl (fun w _ => rfl) rfl ?_
    simp only [Act.put, List.setIfInBounds_toArray, List.set_cons_zero, List.set_cons_succ]
    refine anyH_take 7 (some 95) (.int .i64 (k : Int)) rfl rfl (by kernel_rfl) (by kernel_rfl) (by kernel_rfl) (fun _ _ _ h => h) rfl (fun w _ => rfl) rfl ?_
    simp only [Act.put, List.setIfInBounds_toArray, List.set_cons_zero, List.set_cons_succ]
    refine anyH_take 8 (some 96) (.slice (cutA (some ⟨ba, 0, none⟩) k 64) (64 - k) (64 - k)) rfl rfl (by kernel_rfl) (by kernel_rfl) (by kernel_rfl) (fun _ _ _ h => h) rfl (fun w hw => by subst hw; exact ex_sliceFrom 29 (.tmp 94) (.tmp 95) rfl _ _ _ rfl rfl SA.out) rfl ?_
    simp only [Act.put, List.setIfInBounds_toArray, List.set_cons_zero, List.set_cons_succ]
    refine anyH_take 9 (some 97) (.string ⟨Y.toArray⟩) rfl rfl (by kernel_rfl) (by kernel_rfl) (by kernel_rfl) (fun _ _ _ h => h) rfl (fun w hw => by subst hw; exact ex_convert 29 9 (.tmp 96) rfl _ _ rfl CA.out) rfl ?_
    simp only [Act.put, List.setIfInBounds_toArray, List.set_cons_zero, List.set_cons_succ]
    refine anyH_take 10 (some 98) (.string ⟨(X ++ Y).toArray⟩) rfl rfl (by kernel_rfl) (by kernel_rfl) (by kernel_rfl) (fun _ _ _ h => h) rfl (fun w hw => ex_addS 9 9 (.tmp 93) (.tmp 97) rfl X Y rfl rfl HL1.out HL2.out) rfl ?_
    simp only [Act.put, List.setIfInBounds_toArray, List.set_cons_zero, List.set_cons_succ]
    refine anyH_take 11 (some 99) (.bool (G == X ++ Y)) rfl rfl (by kernel_rfl) (by kernel_rfl) (by kernel_rfl) (fun _ _ _ h => h) rfl (fun w hw => ex_eqlS 9 9 (.tmp 89) (.tmp 98) rfl G (X ++ Y) rfl rfl) rfl ?_
    simp only [Act.put, List.setIfInBounds_toArray, List.set_cons_zero, List.set_cons_succ]
    refine wpAnyH_done (by kernel_rfl) ?_ _
    clear CG CB CA SB SA HL1 HL2
    cases hgx : (G == X ++ Y)
    · have hne : k ≠ m := fun e => by rw [HEQ.out e] at hgx; cases hgx
      clear hgx
      go_wp2
      go_roundw
      case rel => exact ⟨k + 1, by go_num, by omega, HBD.out⟩
      case measure => simp [intOf]; omega
    · clear hgx
      go_wp2_with fail
      refine (live_any _).mono ?_
      rintro e w9 ⟨rfl, b9⟩
      have HB9 := Lib.hid ((HBL.out.trans (HBD.out.mono HBL.out.size)).trans (b9.mono (HBL.out.trans (HBD.out.mono HBL.out.size)).size))
      clear b9
      go_wp2
      go_ret
      exact ⟨rfl, HB9.out⟩
end Go.Proofs.Ytohmofhpbmhhjaa
