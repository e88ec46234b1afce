/- Bag: a nil bag; a Fork beside the bag itself; BagForks. -/
import Derived.Test.YtdcpdeiljabkaaaN18
namespace Go.Proofs.Ytdcpdeiljabkaaa
open Go Go.RowKit

theorem take_nil (i : Int) (keep : Bool) (w : World) : Calls Try.prog 11 #[.pointer none, .int .i64 i, .bool keep] w fun e w' => e = .returned (.tuple #[.agg #[.int .i64 0, .int .i64 0, .slice none 0 0], .int .i64 1]) ∧ Below w.heap.size w w' := by
  obtain ⟨W0, hW0⟩ : ∃ W0, w.alloc (.cells #[.int .i64 0, .int .i64 0, .slice none 0 0] 34) = W0 := ⟨_, rfl⟩
  have hb0 : Below w.heap.size w W0 := by rw [← hW0]; exact (Below.refl _ w).alloc (Nat.le_refl _) _
  have hrow : W0.heap[w.heap.size]? = some (.cells #[.int .i64 0, .int .i64 0, .slice none 0 0] 34 (0, 0)) := by rw [← hW0]; exact heap_alloc_new w _
  obtain ⟨W1, hW1⟩ : ∃ W1, W0.setRow w.heap.size #[.int .i64 0, .int .i64 0, .slice none 0 0] = W1 := ⟨_, rfl⟩
  have hrow1 : W1.heap[w.heap.size]? = some (.cells #[.int .i64 0, .int .i64 0, .slice none 0 0] 34 (0, 0)) := by rw [← hW1]; exact setRow_heap _ _ _ _ _ _ hrow
  have hf1 : Fr (fun k => w.heap.size ≤ k) W0 W1 := by
    rw [← hW1]
    exact ⟨rfl, rfl, rfl, by rw [setRow_size]; exact Nat.le_refl _, fun k hk hn => setRow_other _ _ _ _ (fun e => hn (by omega))⟩
  have HE := Lib.hid (hb0.trans (hf1.below hb0.size (fun k e => e)))
  have HW0 := Lib.hid hW0
  have HW1 := Lib.hid hW1
  have HR0 := Lib.hid hrow
  have HR1 := Lib.hid hrow1
  have HZ : Hid ((Try.prog.info? 34).map (·.size) = some (#[.int .i64 0, .int .i64 0, .slice none 0 0] : Array Value).size) := Lib.hid (infoU3 _ rfl)
  have HZ2 := Lib.hid (cellsU3 0 0 (.slice none 0 0) ⟨_, _, _, rfl⟩)
  clear hb0 hrow hW0 hW1 hrow1 hf1
  go_enter Try.func11, Try.ntmps11
  go_wp2_with (first
    | rw [HW0.out]
    | (refine wpList_store_row rfl 34 _ _ rfl w.heap.size _ rfl rfl 34 _ HR0.out HZ.out rfl HZ2.out ?_; rw [HW1.out]))
  exact bodyPost_ret (v := .tuple #[.agg #[.int .i64 0, .int .i64 0, .slice none 0 0], .int .i64 1]) (by have c0 : W1.cell? ⟨w.heap.size, 0, none⟩ = some (.int .i64 0) := cell_of_row _ _ _ _ _ _ HR1.out; have c1 : W1.cell? ⟨w.heap.size, 1, none⟩ = some (.int .i64 0) := cell_of_row _ _ _ _ _ _ HR1.out; have c2 : W1.cell? ⟨w.heap.size, 2, none⟩ = some (.slice none 0 0) := cell_of_row _ _ _ _ _ _ HR1.out; simp [results, Try.results11, go_sem, c0, c1, c2]) rfl ⟨rfl, HE.out⟩
theorem len_nil (w : World) : Calls Try.prog 13 #[.pointer none] w fun e w' => e = .returned (.int .i64 0) ∧ w = w' := by
  go_enter Try.func13, Try.ntmps13
  go_wp2
  go_ret
  exact ⟨rfl, rfl⟩
theorem lost_nil (w : World) : Calls Try.prog 14 #[.pointer none] w fun e w' => e = .returned (.int .i64 0) ∧ w = w' := by
  go_enter Try.func14, Try.ntmps14
  go_wp2
  go_ret
  exact ⟨rfl, rfl⟩
theorem lose_nil (i : Int) (w : World) : Calls Try.prog 12 #[.pointer none, .int .i64 i] w fun e w' => e = .returned (.int .i64 1) ∧ w = w' := by
  go_enter Try.func12, Try.ntmps12
  go_wp2
  go_ret
  exact ⟨rfl, rfl⟩
theorem fork_nil (w : World) : Calls Try.prog 17 #[.pointer none] w fun e w' => e = .returned (.pointer none) ∧ w = w' := by
  go_enter Try.func17, Try.ntmps17
  go_wp2
  go_ret
  exact ⟨rfl, rfl⟩
theorem add_nil (x : Und) (pv : Value) (hp : ∃ a n c, pv = .slice a n c) (w : World) : Calls Try.prog 10 #[.pointer none, .agg #[.int .i64 x.src, .int .i64 x.dst, pv]] w fun e w' => e = .returned (.int .i64 1) ∧ Below w.heap.size w w' := by
  obtain ⟨a, n, c, rfl⟩ := hp
  have HE := Lib.hid ((Below.refl _ w).alloc (Nat.le_refl _) (.cells #[.int .i64 x.src, .int .i64 x.dst, .slice a n c] 34))
  go_enter Try.func10, Try.ntmps10
  go_wp2
  go_ret
  exact ⟨rfl, HE.out⟩
theorem first_nil (t : Int) (w : World) : Calls Try.prog 21 #[.pointer none, .int .i64 t] w fun e w' => e = .returned (.tuple #[.int .i64 0, .bool false]) ∧ w = w' := by
  have HL := Lib.hid (len_nil w)
  go_enter Try.func21, Try.ntmps21
  go_wp2_with fail
  refine HL.out.mono ?_
  rintro e w1 ⟨rfl, rfl⟩
  clear HL
  go_wp2_with fail
  go_loop [9] (fun iv => iv = .int .i64 0) (fun _ => 0)
  case atStart => rfl
  case round =>
    obtain rfl := hrel
    go_wp2
    go_ret2
    exact ⟨rfl, rfl⟩
/-- The blocks of a pair. -/
def PairB (p q : Nat) (sv : Value) (ps : List UV) (av tv : Value) (k : Nat) : Prop := k = p ∨ HasU sv ps k ∨ k = q ∨ av.ownBlock = some k ∨ tv.ownBlock = some k
theorem fork_two {N : Nat} {w0 w1 w2 w3 : World} {p q s q' : Nat} {b : Bg} {c : Nat} {sv : Value} {ps : List UV} {av : Value} {us : List UV} {tv : Value} {ts : List Bool} (H : TwoM (fun _ => False) (fun _ => False) N w0 w1 p q b b c sv ps av us tv ts) {sv' : Value} {ps' : List UV}
    (h1 : BagAt w1.heap.size w2 s b sv' ps') (b2 : Below w1.heap.size w1 w2) (hq : w2.heap.size = q') (h2 : RK N w3 q' b c av us tv ts) (b3 : Below w2.heap.size w2 w3) :
    Two (PairB p q sv ps av tv) (fun _ => False) N w0 w3 s q' b b c ∧ ∀ (w' : World) (b' r' : Bg) (c' : Nat), Two (PairB p q sv ps av tv) (fun _ => False) N w0 w' s q' b' r' c' → Same2 (PairB p q sv ps av tv) w3 w' → Two (fun _ => False) (fun _ => False) N w0 w' p q b b c := by
  have hns := H.ns
  have hs2 := b2.size
  have hs3 := b3.size
  have hb13 := b2.trans (b3.mono hs2)
  have hlow : ∀ k, PairB p q sv ps av tv k → k < w1.heap.size := fun k hk => by
    rcases hk with hk | hk | hk | hk | hk
    · exact H.blk k (Or.inl hk)
    · exact H.blk k (Or.inr hk)
    · exact H.rblk k (Or.inl hk)
    · exact H.rblk k (Or.inr (Or.inl (Or.inl hk)))
    · exact H.rblk k (Or.inr (Or.inr hk))
  have hhi : ∀ k, (k = s ∨ HasU sv' ps' k) → w1.heap.size ≤ k ∧ k < w2.heap.size := fun k hk => by
    rcases hk with rfl | hk
    · exact ⟨h1.base, h1.lt⟩
    · exact h1.us.has k hk
  have hB : BagAt N w2 s b sv' ps' := ⟨h1.row, h1.us.down hns, h1.eq, h1.ne, Nat.le_trans hns h1.base⟩
  refine ⟨⟨sv', ps', av, us, tv, ts, hB.below b3, h2, fun g hg => ?_, fun g hg => ?_, fun g e => e.elim, H.bel.trans (hb13.mono hns), H.fit, H.byt⟩, fun w' b' r' c' H' hS => ?_⟩
  · obtain ⟨g1, g2⟩ := hhi g hg
    refine ⟨by omega, fun e => ?_, fun e => ?_⟩
    · have := hlow g (Or.inr (Or.inr (Or.inr (Or.inl e)))); omega
    · have := hlow g (Or.inr (Or.inr (Or.inr (Or.inr e)))); omega
  · have := hlow g hg
    refine ⟨by omega, fun e => ?_, fun e => ?_, by omega⟩
    · have := (hhi g (Or.inl e)).1; omega
    · have := (hhi g (Or.inr e)).1; omega
  · have hbel := H'.bel
    obtain ⟨_, _, _, _, _, _, M'⟩ := H'
    have hql := M'.ref.rb.lt
    have hst : ∀ g, PairB p q sv ps av tv g → w'.heap[g]? = w1.heap[g]? := fun g hg => (hS g hg).trans (hb13.block g (hlow g hg))
    refine ⟨sv, ps, av, us, tv, ts, H.bag.kept (by omega) (fun g hg => hst g (by rcases hg with hg | hg; exact Or.inl hg; exact Or.inr (Or.inl hg))), ⟨H.ref.rb.kept (by omega) (fun g hg => ?_), H.ref.cur, H.ref.low, H.ref.cnt⟩, H.ap, fun g e => e.elim, fun g e => e.elim, hbel, H.fit, H.byt⟩
    rcases hg with hg | (hg | ⟨x, hx, hne, hg⟩) | hg
    · exact hst g (Or.inr (Or.inr (Or.inl hg)))
    · exact hst g (Or.inr (Or.inr (Or.inr (Or.inl hg))))
    · have hgl := H.ref.low x hx hne g hg
      exact (hbel.block g hgl).trans (H.bel.block g hgl).symm
    · exact hst g (Or.inr (Or.inr (Or.inr (Or.inr hg))))
set_option maxHeartbeats 16000000 in
set_option maxRecDepth 100000 in
theorem walk_forks (v1 v2 : Value) (l more : List Cl) (u : Und) (bv : Value) (w : World) (h1 : Cls w v1 l) (h2 : Cls w v2 more) (hB1 : ∀ d ∈ l, d.i ≤ 9223372036854775807 ∧ d.x.bytes.length ≤ 140737488351232) (hB2 : ∀ d ∈ more, d.i ≤ 9223372036854775807 ∧ d.x.bytes.length ≤ 140737488351232) (hbv : ∃ a n c, bv = .slice a n c) :
    Calls Try.prog 6 #[v1, v2, .agg #[.int .i64 u.src, .int .i64 u.dst, bv]] w fun e w' => e = .returned (.bool true) ∧ Below w.heap.size w w' := by
  obtain ⟨ba, bn, bc, rfl⟩ := hbv
  obtain ⟨wb, hwb⟩ : ∃ wb, w.alloc (.cells #[.int .i64 u.src, .int .i64 u.dst, .slice ba bn bc] 34) = wb := ⟨_, rfl⟩
  have hb : Below w.heap.size w wb := by rw [← hwb]; exact (Below.refl _ w).alloc (Nat.le_refl _) _
  have hbx : wb.heap[w.heap.size]? = some (.cells #[.int .i64 u.src, .int .i64 u.dst, .slice ba bn bc] 34 (0, 0)) := by rw [← hwb]; exact heap_alloc_new w _
  have hsb : wb.heap.size = w.heap.size + 1 := by rw [← hwb]; simp
  have HP := Lib.hid (play_good 7 v1 l wb (by omega) (by omega) (h1.below hb) hB1)
  rw [show ((7 : Nat) : Int) = 7 from rfl] at HP
  have HM := Lib.hid (h2.below hb)
  obtain ⟨a2, c2, rfl, hl2, _⟩ := id h2
  have HB := Lib.hid hb
  have HBX := Lib.hid hbx
  have HSB := Lib.hid hsb
  clear h1 h2 hB1 hb hbx hsb
  have HB2 := Lib.hid hB2
  clear hB2
  go_enter Try.func6, Try.ntmps6
  go_wp2_with fail
  refine HP.out.mono ?_
  rintro e w1 ⟨q, b, c, rfl, hT, hc⟩
  clear HP hwb
  obtain ⟨sv, ps, av, us, tv, ts, hM⟩ := hT
  obtain ⟨p, hp⟩ : ∃ p, wb.heap.size = p := ⟨_, rfl⟩
  obtain ⟨N, hN⟩ : ∃ N, wb.heap.size = N := ⟨_, rfl⟩
  rw [show TwoM (fun _ => False) (fun _ => False) wb.heap.size wb w1 wb.heap.size q = TwoM (fun _ => False) (fun _ => False) N wb w1 p q by rw [← hp, ← hN]] at hM
  rw [hp]
  have HN := Lib.hid hN
  clear hp hN
  have hf := hM.fit
  have HF := Lib.hid (fork_any N p w1 b sv ps hM.bag (by omega) hM.byt)
  have HFIT : Hid (b.us.length ≤ 48) := Lib.hid (by omega)
  have H1 := Lib.hid hM
  clear hM hf
  go_wp2_with fail
  refine HF.out.mono ?_
  rintro e w2 ⟨s, sv', ps', rfl, hb1, hbl2⟩
  obtain ⟨q', hq'⟩ : ∃ q', w2.heap.size = q' := ⟨_, rfl⟩
  have hrf := rfork_any N q c w2 b av tv us ts (H1.out.ref.below hbl2)
  rw [hq'] at hrf
  have HRF := Lib.hid hrf
  have HB1 := Lib.hid hb1
  have HL2 := Lib.hid hbl2
  have HQ := Lib.hid hq'
  clear hb1 hbl2 hrf HF hq'
  go_wp2_with fail
  refine HRF.out.mono ?_
  rintro e w3 ⟨rfl, hr3, hbl3⟩
  obtain ⟨hT3, hback⟩ := fork_two H1.out HB1.out HL2.out HQ.out hr3 (by rw [HQ.out]; exact hbl3)
  have H0 : Hid (Two (PairB p q sv ps av tv) (fun _ => False) N wb w3 s q' b b c ∧ Same2 (PairB p q sv ps av tv) w3 w3) := Lib.hid ⟨hT3, fun g hg => rfl⟩
  have HBACK := Lib.hid hback
  clear hT3 hback hr3 hbl3 HRF HB1 HL2 HQ H1
  go_wp2_with fail
  go_loopw [12] (fun iv wr => ∃ (k : Nat) (b' : Bg), iv = .int .i64 (k : Int) ∧ k ≤ more.length ∧ k ≤ 100 ∧ Hid (Two (PairB p q sv ps av tv) (fun _ => False) N wb wr s q' b' b' (c + 2 * k) ∧ Same2 (PairB p q sv ps av tv) w3 wr)) (fun iv _ => 100 - (intOf iv).toNat)
  case atStart => exact ⟨0, b, rfl, Nat.zero_le _, Nat.zero_le _, H0⟩
  case round =>
    clear H0
    obtain ⟨k, b', rfl, hk, hk2, hH⟩ := hrel
    by_cases hgo : k < more.length ∧ k < 100
    · obtain ⟨hkl, hk6⟩ := hgo
      have hx := List.getElem?_eq_getElem hkl
      obtain ⟨g, off, bv, hga, hg, hda⟩ := cls_at HM.out hx
      subst hga
      obtain ⟨hib, hbn⟩ := HB2.out _ (List.getElem_mem hkl)
      generalize more[k] = d at *
      have hdo := do_any hH.out.1 d bv hda.b HN.out hbn hib (by omega)
      have hbel := hH.out.1.bel
      have hld : (Instr.loadAt 36 (.pointer (some ⟨g, off + k * 6, none⟩))).run Try.prog wr = .ok (.agg #[.int .i64 d.act, .int .i64 d.x.src, .int .i64 d.x.dst, bv, .int .i64 d.i, .bool d.keep]) wr :=
        run_loadAt_mid wr g (off + k * 6) 36 (clS d bv) _ (fun j u hj => (hbel.cell (p := ⟨g, off + k * 6 + j, none⟩) (by rw [← HN.out]; exact hg)).trans (hda.r j u hj)) Try.underlying36 rfl (by show _ = some 6; kernel_rfl)
      have LD := Lib.hid hld
      have DO := Lib.hid hdo
      have HS := Lib.hid hH.out.2
      have hki : (k : Int) < (more.length : Int) := by omega
      have hki2 : (k : Int) < 100 := by omega
      clear hld hdo hda hbn hx hbel hH hib
      go_wp2_with (refine wpList_load_known rfl 36 (.tmp 50) rfl _ _ rfl LD.out ?_)
      refine DO.out.mono ?_
      rintro e wn ⟨rfl, hn, hs⟩
      have HNx : Hid (Two (PairB p q sv ps av tv) (fun _ => False) N wb wn s q' (b'.did d) (b'.did d) (c + 2 * (k + 1)) ∧ Same2 (PairB p q sv ps av tv) w3 wn) := Lib.hid ⟨hn, fun j hj => (hs j hj).trans (HS.out j hj)⟩
      clear hn hs LD DO HS
      go_wp2
      go_roundw
      case rel => exact ⟨k + 1, b'.did d, by go_num, by omega, by omega, HNx⟩
      case measure => simp [intOf]; omega
    · have hgo' : ¬ (k : Int) < (more.length : Int) ∨ (k : Int) < (more.length : Int) ∧ ¬ (k : Int) < 100 := by omega
      have hX := HBACK.out _ _ _ _ hH.out.1 hH.out.2
      have HX := Lib.hid hX
      have HRL := Lib.hid (two_rlen hX (by omega))
      obtain ⟨n, hn⟩ : ∃ n, b.us.length = n := ⟨_, rfl⟩
      rw [hn] at HRL
      have hn48 : n ≤ 48 := by have := HFIT.out; omega
      clear hgo HBACK HB2 HM hH hX hn
      generalize wr = wl at *
      rcases hgo' with hq | ⟨hq, hq2⟩
      all_goals
        go_wp2_with fail
        refine HRL.out.mono ?_
        rintro e wl2 ⟨rfl, rfl⟩
        clear HRL
        go_wp2_with fail
        go_loopw [14] (fun iv wr => ∃ (k : Nat) (b' : Bg), iv = .int .i64 (k : Int) ∧ k ≤ n ∧ Hid (Two (fun _ => False) (fun _ => False) N wb wr p q b' b' (c + 2 * k))) (fun iv _ => n - (intOf iv).toNat)
        case atStart => exact ⟨0, b, rfl, Nat.zero_le _, HX⟩
        case round =>
          clear HX
          obtain ⟨k, b', rfl, hk, hH⟩ := hrel
          by_cases hgo : k < n
          · have hki : (k : Int) < (n : Int) := by omega
            have hdo := do_any hH.out ⟨1, ⟨0, 0, []⟩, 0, false⟩ (.slice none 0 0) (Byt.nil _).z HN.out (by simp) (by simp) (by omega)
            dsimp only at hdo
            obtain ⟨bz, hbz⟩ : ∃ z, b'.did ⟨1, ⟨0, 0, []⟩, 0, false⟩ = z := ⟨_, rfl⟩
            rw [hbz] at hdo
            have DO := Lib.hid hdo
            clear hdo hH hbz
            go_wp2_with fail
            refine DO.out.mono ?_
            rintro e wn ⟨rfl, hn, -⟩
            have HNx : Hid (Two (fun _ => False) (fun _ => False) N wb wn p q bz bz (c + 2 * (k + 1))) := Lib.hid hn
            clear hn DO
            go_wp2
            go_roundw
            case rel => exact ⟨k + 1, bz, by go_num, by omega, HNx⟩
            case measure => simp [intOf]; omega
          · have hki : ¬ (k : Int) < (n : Int) := by omega
            have hbel := hH.out.bel
            have HW : Hid (Below w.heap.size w wr ∧ wr.heap[w.heap.size]? = some (.cells #[.int .i64 u.src, .int .i64 u.dst, .slice ba bn bc] 34 (0, 0))) := Lib.hid ⟨HB.out.trans (hbel.mono (by have := HN.out; have := HSB.out; omega)), (hbel.block _ (by have := HN.out; have := HSB.out; omega)).trans HBX.out⟩
            clear hH hbel HN HFIT HBX HSB HB
            generalize wr = wz at *
            have c0 : wz.cell? ⟨w.heap.size, 0, none⟩ = some (.int .i64 u.src) := cell_of_row _ _ _ _ _ _ HW.out.2
            have HTN := Lib.hid (take_nil u.src true wz)
            go_wp2_with fail
            refine HTN.out.mono ?_
            rintro e wa ⟨rfl, hba⟩
            obtain ⟨wc, hwc⟩ : ∃ wc, wa.alloc (.cells #[.int .i64 0, .int .i64 0, .slice none 0 0] 34) = wc := ⟨_, rfl⟩
            have hbc : Below wz.heap.size wz wc := by rw [← hwc]; exact hba.alloc hba.size _
            have hrc := (hbc.block _ (Array.getElem?_eq_some_iff.1 HW.out.2).1).trans HW.out.2
            have c1 : (wa.alloc (.cells #[.int .i64 0, .int .i64 0, .slice none 0 0] 34)).cell? ⟨w.heap.size, 1, none⟩ = some (.int .i64 u.dst) := by rw [hwc]; exact cell_of_row _ _ _ _ _ _ hrc
            have HWC := Lib.hid hwc
            have HW2 : Hid (Below w.heap.size w wc) := Lib.hid (HW.out.1.trans (hbc.mono HW.out.1.size))
            have HRC := Lib.hid hrc
            have HFN := Lib.hid (first_nil u.dst wc)
            clear HTN c0 HW hba hbc hrc hwc
            go_wp2_with fail
            rw [HWC.out]
            refine HFN.out.mono ?_
            rintro e wd ⟨rfl, rfl⟩
            have HLV := Lib.hid (live_any wc)
            clear HFN c1 HWC
            go_wp2_with fail
            refine HLV.out.mono ?_
            rintro e we ⟨rfl, hbe⟩
            have hre := (hbe.block _ (Array.getElem?_eq_some_iff.1 HRC.out).1).trans HRC.out
            have HW3 : Hid (Below w.heap.size w we) := Lib.hid (HW2.out.trans (hbe.mono HW2.out.size))
            have HRE := Lib.hid hre
            have HI : Hid ((Try.prog.info? 34).map (·.size) = some (#[.int .i64 u.src, .int .i64 u.dst, .slice ba bn bc] : Array Value).size) := Lib.hid (infoU3 _ rfl)
            have HAN := Lib.hid (add_nil u (.slice ba bn bc) ⟨_, _, _, rfl⟩ we)
            have e0 : we.cell? ⟨w.heap.size, 0, none⟩ = some (.int .i64 u.src) := cell_of_row _ _ _ _ _ _ hre
            have e1 : we.cell? ⟨w.heap.size, 1, none⟩ = some (.int .i64 u.dst) := cell_of_row _ _ _ _ _ _ hre
            have e2 : we.cell? ⟨w.heap.size, 2, none⟩ = some (.slice ba bn bc) := cell_of_row _ _ _ _ _ _ hre
            clear HLV HRC HW2 hbe hre
            go_wp2_with fail
            refine HAN.out.mono ?_
            rintro e wf ⟨rfl, hbf⟩
            have HW4 : Hid (Below w.heap.size w wf) := Lib.hid (HW3.out.trans (hbf.mono HW3.out.size))
            have HLN := Lib.hid (lose_nil 0 wf)
            have HL1 := Lib.hid (len_nil wf)
            have HL2 := Lib.hid (lost_nil wf)
            have HFK := Lib.hid (fork_nil wf)
            clear HAN HRE HI HW3 hbf e0 e1 e2
            go_wp2_with fail
            refine HLN.out.mono ?_
            rintro e wg ⟨rfl, rfl⟩
            go_wp2_with fail
            refine HL1.out.mono ?_
            rintro e wg ⟨rfl, rfl⟩
            go_wp2_with fail
            refine HL2.out.mono ?_
            rintro e wg ⟨rfl, rfl⟩
            go_wp2_with fail
            refine HFK.out.mono ?_
            rintro e wg ⟨rfl, rfl⟩
            clear HLN HL1 HL2 HFK
            go_wp2
            go_ret
            exact ⟨rfl, HW4.out⟩
end Go.Proofs.Ytdcpdeiljabkaaa
