/- Coord: CoordTxs walked. -/
import Derived.Test.YtleghofpabdkhaaY30
import Derived.Test.YtleghofpabdkhaaYO
import Derived.Deep.DeepCutAuto
import Derived.Deep.RegionHeld3
namespace Go.Proofs.Ytleghofpabdkhaa
open Go Go.RowKit

theorem TS.shapes {w W : World} {p : Nat} {c : Cd} {sv lv tv : Value} {ls : List (List UInt8)} {xs : List Txn} (h : TS w W p c sv lv tv ls xs) : (∃ a cp, lv = .slice a ls.length cp) ∧ ∃ a cp, tv = .slice a xs.length cp := by
  obtain ⟨a, cp, e, _⟩ := h.lg.shape
  obtain ⟨b, dp, e2, _⟩ := owns_shape h.tx
  exact ⟨⟨a, cp, e⟩, ⟨b, dp, e2⟩⟩
theorem TS.start {w W : World} {p : Nat} {sv : Value} (hn : CdAt w.heap.size W p ⟨2, 0, 1, []⟩ sv) (hb : Below w.heap.size w W) : TS w W p ⟨2, 0, 1, []⟩ sv (.slice none 0 0) (.slice none 0 0) [] [] :=
  ⟨hb, hn, RecsAt.nil _ _ _, fun g hg => by simp [Value.ownBlock] at hg, TxsAt.nil _ _, fun g hg => by simp [Value.ownBlock] at hg, fun l hl => (by cases hl)⟩

theorem rec_getD {r : Option (List UInt8)} {l : List UInt8} (h : l = r.getD []) (hne : l ≠ []) : r = some l := by
  cases r with
  | none => exact absurd h hne
  | some m => rw [h]; rfl
theorem say_fr {B : Nat} {w w' : World} {p : Nat} {sv : Value} {r : Option (List UInt8)} {er : Int} {c' : Cd} {e : Ending} (h : SayR B w p sv r er c' e w') : Fr (fun k => k = p ∨ sv.ownBlock = some k) w w' := by
  obtain ⟨_, _, _, hf, _⟩ := h
  exact hf
theorem tx_kept {w V W W' : World} {p : Nat} {c : Cd} {sv lv tv : Value} {ls : List (List UInt8)} {xs : List Txn} {gc o : Nat} {a b u0 u1 u2 : Value} (T : TS w W p c sv lv tv ls xs) (hb : Below V.heap.size V W) (hg : gc < w.heap.size) (hf : Fr (fun k => k = p ∨ sv.ownBlock = some k) W W')
    (h0 : W.cell? ⟨gc, o, none⟩ = some a) (h2 : W.cell? ⟨gc, o + 2, none⟩ = some b) (hp : p < V.heap.size) (hs : ∀ g, sv.ownBlock = some g → g < V.heap.size) (x0 : W.cell? ⟨V.heap.size, 0, none⟩ = some u0) (x1 : W.cell? ⟨V.heap.size, 1, none⟩ = some u1) (x2 : W.cell? ⟨V.heap.size, 2, none⟩ = some u2) :
    W'.cell? ⟨gc, o, none⟩ = some a ∧ W'.cell? ⟨gc, o + 2, none⟩ = some b ∧ W'.cell? ⟨V.heap.size, 0, none⟩ = some u0 ∧ W'.cell? ⟨V.heap.size, 1, none⟩ = some u1 ∧ W'.cell? ⟨V.heap.size, 2, none⟩ = some u2 := by
  have hlt := World.block_lt_of_cell? W _ x0
  have hbx : W'.heap[V.heap.size]? = W.heap[V.heap.size]? := hf.block _ hlt (fun e => by
    rcases e with e | e
    · omega
    · have := hs _ e; omega)
  have hgl := World.block_lt_of_cell? W _ h0
  have hbg : W'.heap[gc]? = W.heap[gc]? := hf.block _ hgl (fun e => by
    rcases e with e | e
    · have := T.nd.base; omega
    · have := (World.ownsRow.lt T.nd.us _ e).1; omega)
  exact ⟨(cell_same hbg).trans h0, (cell_same hbg).trans h2, (cell_same hbx).trans x0, (cell_same hbx).trans x1, (cell_same hbx).trans x2⟩
theorem step_k {P : Program} {K : Act → World → Prop} {C : Code} {Q : Exit → Act → World → Prop} {a : Act} {w : World} (h : ∀ a w, C.wp P Q a w → K a w) (k : C.wp P Q a w) : K a w := h a w k
theorem tx_set3 {W : World} {b : Nat} {u0 u1 u2 : Value} (h : W.heap[b]? = some (.cells #[u0, u1, u2] 33 (0, 0))) (x : Txn) : TxAt (((W.setCell ⟨b, 0, none⟩ (.int .i64 x.node)).setCell ⟨b, 1, none⟩ (.int .i64 x.boot)).setCell ⟨b, 2, none⟩ (.int .i64 x.n)) b x := by
  have h1 : (W.setCell ⟨b, 0, none⟩ (.int .i64 x.node)).heap[b]? = some (.cells #[.int .i64 x.node, u1, u2] 33 (0, 0)) := by rw [heap_setCell_same W b 0 _ _ _ h]; rfl
  have h2 : ((W.setCell ⟨b, 0, none⟩ (.int .i64 x.node)).setCell ⟨b, 1, none⟩ (.int .i64 x.boot)).heap[b]? = some (.cells #[.int .i64 x.node, .int .i64 x.boot, u2] 33 (0, 0)) := by rw [heap_setCell_same _ b 1 _ _ _ h1]; rfl
  have h3 : (((W.setCell ⟨b, 0, none⟩ (.int .i64 x.node)).setCell ⟨b, 1, none⟩ (.int .i64 x.boot)).setCell ⟨b, 2, none⟩ (.int .i64 x.n)).heap[b]? = some (.cells #[.int .i64 x.node, .int .i64 x.boot, .int .i64 x.n] 33 (0, 0)) := by rw [heap_setCell_same _ b 2 _ _ _ h2]; rfl
  exact ⟨cell_of_row _ _ _ _ _ _ h3, cell_of_row _ _ _ _ _ _ h3, cell_of_row _ _ _ _ _ _ h3, (Array.getElem?_eq_some_iff.1 h3).1⟩
theorem set3_below {V W : World} (h : Below V.heap.size V W) (x y z : Value) : Below V.heap.size V (((W.setCell ⟨V.heap.size, 0, none⟩ x).setCell ⟨V.heap.size, 1, none⟩ y).setCell ⟨V.heap.size, 2, none⟩ z) := ((h.setCell (p := ⟨V.heap.size, 0, none⟩) (Nat.le_refl _) x).setCell (p := ⟨V.heap.size, 1, none⟩) (Nat.le_refl _) y).setCell (p := ⟨V.heap.size, 2, none⟩) (Nat.le_refl _) z

set_option maxRecDepth 100000 in
set_option maxHeartbeats 16000000 in
theorem walk_txs (w : World) (v av : Value) (l : List Cl) (ab : List UInt8) (hv : Cls w v l) (ha : Byz w av ab) (hal : ab.length ≤ 9223372036854775807) :
    Calls Try.prog 4 #[v, av] w fun e w' => e = .returned (.bool true) ∧ Below w.heap.size w w' := by
  have HV := Lib.hid hv
  have HA := Lib.hid ha
  obtain ⟨va, vc, rfl, hvl, -⟩ := hv
  obtain ⟨aa, ac, rfl⟩ := ha.1
  have HNEW := Lib.hid (fun W => new_any 2 (by decide) (by decide) W)
  clear ha
  go_enter Try.func4, Try.ntmps4
  go_wp2_with fail
  refine (HNEW.out _).mono ?_
  rintro e w1 ⟨rfl, h1, hb1⟩
  have T1 := Lib.hid (TS.start h1 hb1)
  clear h1 hb1
  go_wp2_with fail
  go_loopw [5, 7, 8, 9, 10, 11, 12, 13, 14, 15, 16, 17, 18, 19, 20] (fun x lg tx k i _ _ _ _ _ _ _ _ _ _ wr => ∃ (ii kk p : Nat) (c : Cd) (sv : Value) (la ta : Option Addr) (lc tc : Nat) (ls : List (List UInt8)) (xs : List Txn), x = .pointer (some ⟨p, 0, none⟩) ∧ lg = .slice la ls.length lc ∧ tx = .slice ta xs.length tc ∧ k = .int .i64 (kk : Int) ∧ i = .int .i64 (ii : Int) ∧ ii ≤ l.length ∧ ii ≤ 120 ∧ kk ≤ ii ∧ ls.length ≤ 2 * ii ∧ xs.length ≤ ii ∧ Hid (TS w wr p c sv (.slice la ls.length lc) (.slice ta xs.length tc) ls xs) ∧ Hid (TxsW c ls xs (2 * ii))) (fun _ _ _ _ i _ _ _ _ _ _ _ _ _ _ _ => l.length - (intOf i).toNat)
  case atStart => exact ⟨0, 0, w.heap.size, _, _, none, none, 0, 0, [], [], rfl, rfl, rfl, rfl, rfl, Nat.zero_le _, Nat.zero_le _, Nat.zero_le _, Nat.zero_le _, Nat.zero_le _, T1, Lib.hid TxsW.new⟩
  case round =>
    obtain ⟨ii, kk, p, c, sv, la, ta, lc, tc, ls, xs, rfl, rfl, rfl, rfl, rfl, hil, hi120, hka, hlsl, hxsl, TT, PP⟩ := hrel
    by_cases hcond : ii < l.length ∧ ii < 120
    case neg =>
      have q0 : ¬ ((ii : Int) < (l.length : Int) ∧ (ii : Int) < 120) := fun h => hcond ⟨by omega, by omega⟩
      have HEX := Lib.hid TT.out.ex
      clear TT
      by_cases h1 : ii < l.length
      · have q1 : (ii : Int) < (l.length : Int) := by omega
        have q2 : ¬ (ii : Int) < 120 := by omega
        clear q0
        go_wp2_with fail
        refine (live_true _).mono ?_
        rintro e w9 ⟨rfl, hb9⟩
        go_wp2
        go_ret
        exact ⟨rfl, HEX.out.trans (hb9.mono HEX.out.size)⟩
      · have q1 : ¬ (ii : Int) < (l.length : Int) := by omega
        clear q0
        go_wp2_with fail
        refine (live_true _).mono ?_
        rintro e w9 ⟨rfl, hb9⟩
        go_wp2
        go_ret
        exact ⟨rfl, HEX.out.trans (hb9.mono HEX.out.size)⟩
    case pos =>
      obtain ⟨h1, h2⟩ := hcond
      have q1 : (ii : Int) < (l.length : Int) := by omega
      have q2 : (ii : Int) < 120 := by omega
      have HLB := Lib.hid (And.intro hlsl (And.intro hxsl (And.intro hil (And.intro hi120 hka))))
      clear hil hi120 hlsl hxsl
      go_upto_region 10 with fail
      go_cut [55] from 31 to 212 (fun p55 wx => (∃ b, p55 = .bool b) ∧ wx = wr)
      case first =>
        as_aux_lemma =>
          by_cases hk : kk < ab.length
          · have qk : (kk : Int) < (ab.length : Int) := by omega
            have hby := (HA.out.below TT.out.ex).2 (fun e => by rw [e] at hk; exact absurd hk (Nat.not_lt_zero _))
            obtain ⟨ga, oa, ca, he, -, hga, hcells⟩ := hby.cell (by omega)
            injection he with he1 _ he3
            subst he1; subst he3
            have hcell := hcells kk hk
            have qb := (ab[kk]).toNat_lt
            generalize (ab[kk]).toNat = bb at hcell qb
            clear hcells hby
            go_wp2_with fail
            all_goals (go_meet; exact ⟨⟨_, rfl⟩, rfl⟩)
          · have qk : ¬ (kk : Int) < (ab.length : Int) := by omega
            go_wp2_with fail
            go_meet
            exact ⟨⟨_, rfl⟩, rfl⟩
      case rest =>
        obtain ⟨⟨b, rfl⟩, rfl⟩ := hcut
        obtain ⟨wB, rfl⟩ : ∃ wB, wB = wc := ⟨_, rfl⟩
        go_upto_if 55 with fail
        go_cut [5, 7, 9, 11, 12, 13, 14, 15] from 31 to 212 (fun x5 x7 x9 x11 x12 x13 x14 x15 wx => ∃ (k2 p2 : Nat) (c2 : Cd) (sv2 : Value) (la2 : Option Addr) (lc2 : Nat) (ls2 : List (List UInt8)), x5 = .pointer (some ⟨p2, 0, none⟩) ∧ x7 = .slice la2 ls2.length lc2 ∧ x9 = .int .i64 (k2 : Int) ∧ k2 ≤ ii + 1 ∧ ls2.length ≤ 2 * ii + 1 ∧ Hid (TS w wx p2 c2 sv2 (.slice la2 ls2.length lc2) (.slice ta xs.length tc) ls2 xs) ∧ Hid (TxsW c2 ls2 xs (2 * ii + 1)))
        case first =>
          as_aux_lemma =>
            cases b with
            | false =>
              go_wp2_with fail
              go_meet
              exact ⟨kk, p, c, sv, la, lc, ls, rfl, rfl, rfl, by have := HLB.out.2.2.2.2; omega, by have := HLB.out.1; omega, TT, Lib.hid (PP.out.more (by omega))⟩
            | true =>
              have hk11 := HLB.out.2.2.2.2
              have qk1 : IntKind.i64.wrap ((kk : Int) + 1) = ((kk + 1 : Nat) : Int) := by rw [IntWalk.i64_in _ (by omega)]; omega
              have hlsl := HLB.out.1
              obtain ⟨z0, hre, hsim⟩ := PP.out.re
              have HRE := Lib.hid hre
              have HLF := Lib.hid (show z0.life ≤ (2 * ii : Int) ∧ 0 ≤ z0.life by
                have h1 := hsim.lf
                have h2 := PP.out.lf
                have h3 := (replay_keep ls _ z0 (Wf.new 2) hre).lf
                omega)
              clear hre hsim
              go_wp2_with fail
              refine (HNEW.out _).mono ?_
              rintro e w2 ⟨rfl, hz2, hb2⟩
              have HZ2 := Lib.hid (And.intro hz2 hb2)
              clear hz2 hb2
              go_wp2_with fail
              go_loopw [13] (fun j wx => ∃ (jj : Nat) (zz : Cd) (zv : Value), j = .int .i64 (jj : Int) ∧ jj ≤ ls.length ∧ Hid (CdAt wB.heap.size wx wB.heap.size zz zv ∧ Below wB.heap.size wB wx) ∧ Hid (replay (ls.take jj) ⟨2, 0, 1, []⟩ = some zz)) (fun j _ => ls.length - (intOf j).toNat)
              case atStart => exact ⟨0, _, _, rfl, Nat.zero_le _, HZ2, Lib.hid rfl⟩
              case round =>
                obtain ⟨jj, zz, zv, rfl, hjl, HZ, HR⟩ := hrel
                by_cases hj : jj < ls.length
                · have qj : (jj : Int) < (ls.length : Int) := by omega
                  obtain ⟨lj, hlj⟩ : ∃ lj, ls[jj]? = some lj := ⟨ls[jj], List.getElem?_eq_getElem hj⟩
                  obtain ⟨gl, cl, ul, hel, hgl, hcl, hbl⟩ := (TT.out.below HZ.out.2).lg.at jj lj hlj
                  injection hel with he1 _ he3
                  subst he1; subst he3
                  have hst := replay_step HRE.out HR.out hlj
                  have hrd := redo_any wB.heap.size wB.heap.size _ zz zv ul lj HZ.out.1 hbl HZ.out.2.size (by have := (replay_keep _ _ zz (Wf.new 2) HR.out).len; omega) (by have := TT.out.rl lj (List.mem_of_getElem? hlj); omega)
                  rw [hst.1] at hrd
                  have HRD := Lib.hid hrd
                  have HST := Lib.hid hst.2
                  have qjj : IntKind.i64.wrap ((jj : Int) + 1) = ((jj + 1 : Nat) : Int) := by rw [IntWalk.i64_in _ (by omega)]; omega
                  obtain ⟨ua, uc, rfl⟩ := hbl.1
                  clear hrd hst hbl
                  go_wp2_with fail
                  refine HRD.out.mono ?_
                  rintro e w3 ⟨rfl, ho⟩
                  have hbo := OpC.below HZ.out.1 ho HZ.out.2.size
                  obtain ⟨zv', hz', -, -⟩ := ho
                  have HZ' := Lib.hid (And.intro hz' (HZ.out.2.trans hbo))
                  clear hz' hbo HRD hcl
                  go_wp2
                  go_roundw
                  case rel => exact ⟨jj + 1, _, zv', by go_num, hj, HZ', HST⟩
                  case measure => simp [intOf]; omega
                · have qj : ¬ (jj : Int) < (ls.length : Int) := by omega
                  have hjj : jj = ls.length := by omega
                  have hz0 : zz = z0 := by
                    have h1 := HR.out
                    rw [hjj, List.take_length, HRE.out] at h1
                    injection h1 with h1
                    exact h1.symm
                  rw [hz0] at HZ
                  clear hz0 hjj HR
                  have hlf := HLF.out
                  obtain ⟨nz, hnz⟩ : ∃ nz : Nat, z0.life = (nz : Int) := ⟨z0.life.toNat, by omega⟩
                  have han := PP.out.anew HRE.out hnz (by omega)
                  have T2 := Lib.hid (TT.out.swap HZ.out.1 HZ.out.2)
                  have HBT := Lib.hid (boot_any _ _ _ z0 zv HZ.out.1 (by omega))
                  have HAN := Lib.hid han
                  have HNZ := Lib.hid hnz
                  clear han hnz
                  go_wp2_with fail
                  refine HBT.out.mono ?_
                  rintro e w4 (⟨hbad, _⟩ | ⟨_, ra, rk, rfl, hrow, hb4⟩)
                  · exact absurd hbad (by have := HLF.out; omega)
                  have hrow' : Row wr.heap.size w4 (.slice ra 5 rk) (1 :: num4 (nz + 1)) := by
                    have e : z0.life.toNat = nz := by rw [HNZ.out]; rfl
                    rw [e] at hrow
                    exact hrow
                  have R4 := Lib.hid (RecOk.new T2.out hrow' hb4.size)
                  have T4 := Lib.hid (T2.out.below hb4)
                  have hrd := redo_any w.heap.size wB.heap.size w4 z0 zv (.slice ra 5 rk) (1 :: num4 (nz + 1)) T4.out.nd R4.out.b T4.out.ex.size (by have := (replay_keep _ _ z0 (Wf.new 2) HRE.out).len; omega) (by simp [num4_len])
                  rw [HAN.out.1] at hrd
                  have HRD := Lib.hid hrd
                  clear hrd hrow hrow' hb4 HBT
                  go_wp2_with fail
                  refine HRD.out.mono ?_
                  rintro e w5 ⟨rfl, ho⟩
                  obtain ⟨zv5, t5, r5⟩ := T4.out.op2 R4.out ho
                  obtain ⟨la6, lc6, w6, hap, t6⟩ := t5.log r5 (by simp [num4_len]) (by omega)
                  have T6 := Lib.hid t6
                  have HAP := Lib.hid hap
                  clear ho t5 r5 t6 hap HRD R4 T4
                  go_wp2_with (at_builtin; refine wpList_append_run _ rfl _ _ 50 50 rfl _ _ rfl rfl _ w6 HAP.out ?_)
                  go_wp2_with fail
                  go_meet
                  exact ⟨kk + 1, wB.heap.size, _, zv5, la6, lc6, ls ++ [1 :: num4 (nz + 1)], rfl, by simp, by go_num, by have := HLB.out.2.2.2.2; omega, by have := HLB.out.1; simp; omega, T6, Lib.hid HAN.out.2⟩
        case rest =>
          obtain ⟨k2, p2, c2, sv2, la2, lc2, ls2, rfl, rfl, rfl, hk2, hls2, T2, P2⟩ := hcut
          obtain ⟨wD, rfl⟩ : ∃ wD, wD = wc := ⟨_, rfl⟩
          have HK2 := Lib.hid (And.intro hk2 hls2)
          clear hk2 hls2 TT PP
          obtain ⟨dd, hdd⟩ : ∃ dd, l[ii]? = some dd := ⟨l[ii], List.getElem?_eq_getElem h1⟩
          obtain ⟨av', acp, hve, -, hcls⟩ := HV.out.below T2.out.ex
          injection hve with hv1 _ hv3
          subst hv1; subst hv3
          obtain ⟨gc, oc, cs, cb, rfl, hgc, hca⟩ := hcls ii dd hdd
          have HG0 : Hid (gc < w.heap.size) := Lib.hid (by
            obtain ⟨_, _, hve0, _, hcls0⟩ := HV.out
            obtain ⟨gc0, oc0, cs0, cb0, hw2, hg0, _⟩ := hcls0 ii dd hdd
            injection hve0 with hw1 _ _
            rw [hw2] at hw1
            injection hw1 with hw1
            injection hw1 with hw3 _ _
            rw [hw3]; exact hg0)
          have HCA := Lib.hid hca
          have y0 : wD.cell? ⟨gc, oc + ii * 9, none⟩ = some (.int .i64 dd.act) := hca.r 0 _ rfl
          have y4 : wD.cell? ⟨gc, oc + ii * 9 + 4, none⟩ = some (.int .u8 dd.which) := hca.r 4 _ rfl
          have y5 : wD.cell? ⟨gc, oc + ii * 9 + 5, none⟩ = some (.int .i64 dd.tx.node) := hca.r 5 _ rfl
          have y6 : wD.cell? ⟨gc, oc + ii * 9 + 6, none⟩ = some (.int .i64 dd.tx.boot) := hca.r 6 _ rfl
          have y7 : wD.cell? ⟨gc, oc + ii * 9 + 7, none⟩ = some (.int .i64 dd.tx.n) := hca.r 7 _ rfl
          have HXS := Lib.hid (show xs.length ≤ ii from HLB.out.2.1)
          have HPS := Lib.hid (And.intro T2.out.nd.lt (fun g hg => (World.ownsRow.lt T2.out.nd.us g hg).2))
          clear hcls hca hdd
          go_upto_if 108 with fail
          obtain ⟨wE, hWE⟩ : ∃ wE, wD.alloc (.cells #[.int .i64 dd.tx.node, .int .i64 dd.tx.boot, .int .i64 dd.tx.n] 33) = wE := ⟨_, rfl⟩
          have hrowE : wE.heap[wD.heap.size]? = some (.cells #[.int .i64 dd.tx.node, .int .i64 dd.tx.boot, .int .i64 dd.tx.n] 33 (0, 0)) := by rw [← hWE]; exact heap_alloc_new wD _
          have hbE : Below wD.heap.size wD wE := by rw [← hWE]; exact (Below.refl _ wD).alloc (Nat.le_refl _) _
          rw [hWE]
          have HRE2 := Lib.hid hrowE
          have HBE := Lib.hid hbE
          have HGC := Lib.hid hgc
          have z4 : wE.cell? ⟨gc, oc + ii * 9 + 4, none⟩ = some (.int .u8 dd.which) := (hbE.cell hgc).trans y4
          clear y0 y4 y5 y6 y7 hWE
          go_cut [] from 31 to 212 (fun wx => Hid (∃ x, TxAt wx wD.heap.size x ∧ Below wD.heap.size wD wx))
          case first =>
            as_aux_lemma =>
              by_cases hx0 : 0 < xs.length
              · have qx : (0 : Int) < (xs.length : Int) := by omega
                have hw := HCA.out.w
                have hmm : dd.which.toNat % xs.length < xs.length := Nat.mod_lt _ hx0
                have qr : dd.which.tmod (xs.length : Int) = ((dd.which.toNat % xs.length : Nat) : Int) := by
                  obtain ⟨wn, hwn⟩ : ∃ wn : Nat, dd.which = (wn : Int) := ⟨dd.which.toNat, by omega⟩
                  rw [hwn]; rfl
                generalize hmd : dd.which.toNat % xs.length = mm at hmm qr
                obtain ⟨xm, hxm⟩ : ∃ xm, xs[mm]? = some xm := ⟨xs[mm], List.getElem?_eq_getElem hmm⟩
                obtain ⟨gt, ct, het, hgt, -, hrt⟩ := T2.out.tx.at mm xm hxm
                injection het with ht1 _ ht3
                subst ht1; subst ht3
                have t0 : wE.cell? ⟨gt, mm * 3, none⟩ = some (.int .i64 xm.node) := (hbE.cell hgt).trans (hrt 0 _ rfl)
                have t1 : wE.cell? ⟨gt, mm * 3 + 1, none⟩ = some (.int .i64 xm.boot) := (hbE.cell hgt).trans (hrt 1 _ rfl)
                have t2 : wE.cell? ⟨gt, mm * 3 + 2, none⟩ = some (.int .i64 xm.n) := (hbE.cell hgt).trans (hrt 2 _ rfl)
                have r0 : wE.cell? ⟨wD.heap.size, 0, none⟩ = some (.int .i64 dd.tx.node) := cell_of_row _ _ _ _ _ _ hrowE
                have r1 : wE.cell? ⟨wD.heap.size, 1, none⟩ = some (.int .i64 dd.tx.boot) := cell_of_row _ _ _ _ _ _ hrowE
                have r2 : wE.cell? ⟨wD.heap.size, 2, none⟩ = some (.int .i64 dd.tx.n) := cell_of_row _ _ _ _ _ _ hrowE
                have f0 : wE.frozen? ⟨wD.heap.size, 0, none⟩ = false := frozen_of_row _ _ _ _ _ hrowE
                have f1 : wE.frozen? ⟨wD.heap.size, 1, none⟩ = false := frozen_of_row _ _ _ _ _ hrowE
                have f2 : wE.frozen? ⟨wD.heap.size, 2, none⟩ = false := frozen_of_row _ _ _ _ _ hrowE
                have qm : (mm : Int) < (xs.length : Int) := by omega
                clear hmd hxm hrt hrowE hbE
                go_wp2_with fail
                go_meet
                exact Lib.hid ⟨xm, tx_set3 HRE2.out xm, set3_below HBE.out _ _ _⟩
              · have qx : ¬ (0 : Int) < (xs.length : Int) := by omega
                go_wp2_with fail
                go_meet
                exact Lib.hid ⟨dd.tx, ⟨cell_of_row _ _ _ _ _ _ HRE2.out, cell_of_row _ _ _ _ _ _ HRE2.out, cell_of_row _ _ _ _ _ _ HRE2.out, (Array.getElem?_eq_some_iff.1 HRE2.out).1⟩, HBE.out⟩
          case rest =>
            obtain ⟨x, hx, hbF⟩ := hcut.out
            obtain ⟨wF, rfl⟩ : ∃ wF, wF = wc := ⟨_, rfl⟩
            have T3 := Lib.hid (T2.out.below hbF)
            have HX := Lib.hid hx
            have HCF := Lib.hid hbF
            have y0 : wF.cell? ⟨gc, oc + ii * 9, none⟩ = some (.int .i64 dd.act) := (hbF.cell HGC.out).trans (HCA.out.r 0 _ rfl)
            clear hcut hx hbF z4 hrowE hbE HRE2 HBE T2
            go_upto_region 26 with fail
            go_cut [17] from 31 to 212 (fun x17 wx => x17 = .slice none 0 0 ∧ wx = wF)
            case first =>
              as_aux_lemma =>
                go_wp2_with fail
                go_meet
                exact ⟨rfl, rfl⟩
            obtain ⟨rfl, rfl⟩ := hcut
            obtain ⟨wF, rfl⟩ : ∃ wF, wF = wc := ⟨_, rfl⟩
            refine step_k (by assumption) ?_
            refine wp_seq_k (fun Ks hKs => ?_)
            go_cut [8, 17, 18, 19, 20] from 31 to 212 (fun x8 x17 x18 x19 x20 wx => ∃ (c3 : Cd) (sv3 : Value) (ta3 : Option Addr) (tc3 : Nat) (xs3 : List Txn) (ra : Option Addr) (rc : Nat) (rl : List UInt8), x8 = .slice ta3 xs3.length tc3 ∧ x17 = .slice ra rl.length rc ∧ xs3.length ≤ ii + 1 ∧ Hid (TS w wx p2 c3 sv3 (.slice la2 ls2.length lc2) (.slice ta3 xs3.length tc3) ls2 xs3) ∧ Hid (TxsW c3 ls2 xs3 (2 * ii + 1)) ∧ Hid (RecOk wx p2 sv3 (.slice la2 ls2.length lc2) (.slice ta3 xs3.length tc3) (.slice ra rl.length rc) rl) ∧ Hid (rl ≠ [] → RecL c3 rl (2 * ii + 1)))
            case first =>
              as_aux_lemma =>
                have hPP := P2.out
                by_cases a0 : dd.act = 0
                · rw [a0] at y0
                  have hbt := boot_any _ _ _ c2 sv2 T3.out.nd hPP.wf.lf.1
                  have HBT := Lib.hid hbt
                  clear hbt hPP
                  go_wp2_with fail
                  refine HBT.out.mono ?_
                  rintro e w4 (⟨hbad, rfl, rfl⟩ | ⟨hlt, ra, rk, rfl, hrow, hb4⟩)
                  · go_wp2_with fail
                    go_meet
                    exact ⟨c2, sv2, ta, tc, xs, none, 0, [], rfl, rfl, by have := HXS.out; omega, T3, P2, Lib.hid (RecOk.nil _ _ _ _ _), Lib.hid (fun h => absurd rfl h)⟩
                  · have R4 := Lib.hid (RecOk.new T3.out hrow hb4.size)
                    have T4 := Lib.hid (T3.out.below hb4)
                    have HLT := Lib.hid hlt
                    clear hrow hb4 hlt
                    go_wp2_with fail
                    go_meet
                    exact ⟨c2, sv2, ta, tc, xs, ra, rk, 1 :: num4 (c2.life.toNat + 1), rfl, rfl, by have := HXS.out; omega, T4, P2, R4, Lib.hid (fun _ => rec_boot P2.out.wf P2.out.lf HLT.out)⟩
                · by_cases a1 : dd.act = 1
                  · as_aux_lemma =>
                      rw [a1] at y0
                      have hints := HCA.out.s.below HCF.out
                      have y1 : wF.cell? ⟨gc, oc + ii * 9 + 1, none⟩ = some cs := (HCF.out.cell HGC.out).trans (HCA.out.r 1 _ rfl)
                      have hbg := begin_any w.heap.size p2 wF c2 sv2 cs dd.shards T3.out.nd hints T3.out.ex.size (by have := hPP.wf.len; omega) HCA.out.sl (by have := hPP.wf.nx; omega)
                      unfold BegR txV at hbg
                      have hgv := fun h => hPP.given (l := dd.shards) h
                      have hbn := hPP.begin dd.shards
                      obtain ⟨xn, hxn⟩ : ∃ xn, (c2.begin dd.shards).1.1 = xn := ⟨_, rfl⟩
                      obtain ⟨er, her⟩ : ∃ er, (c2.begin dd.shards).1.2 = er := ⟨_, rfl⟩
                      obtain ⟨cn, hcn⟩ : ∃ cn, (c2.begin dd.shards).2 = cn := ⟨_, rfl⟩
                      rw [hxn, her, hcn] at hbg
                      rw [her, hxn, hcn] at hgv
                      rw [hcn] at hbn
                      obtain ⟨ca, cc, hcs, -⟩ := hints
                      have HCS := Lib.hid hcs
                      rw [hcs] at y1 hbg
                      have HBG := Lib.hid hbg
                      have HGV := Lib.hid hgv
                      have HBN := Lib.hid hbn
                      clear hbg hgv hbn hxn her hcn hcs hPP
                      go_wp2_with fail
                      refine HBG.out.mono ?_
                      rintro e w5 ⟨rfl, ho⟩
                      obtain ⟨sv5, t5⟩ := T3.out.op ho
                      obtain ⟨w6, hW6⟩ : ∃ w6, w5.alloc (.cells #[.int .i64 xn.node, .int .i64 xn.boot, .int .i64 xn.n] 33) = w6 := ⟨_, rfl⟩
                      have hb6 : Below w5.heap.size w5 w6 := by rw [← hW6]; exact (Below.refl _ w5).alloc (Nat.le_refl _) _
                      have hr6 : w6.heap[w5.heap.size]? = some (.cells #[.int .i64 xn.node, .int .i64 xn.boot, .int .i64 xn.n] 33 (0, 0)) := by rw [← hW6]; exact heap_alloc_new w5 _
                      have T6 := Lib.hid (t5.below hb6)
                      have HR6 := Lib.hid hr6
                      have HW6 := Lib.hid hW6
                      clear ho t5 hW6 hb6 hr6 y0 y1 HBG T3
                      go_upto_region 32 with fail
                      rw [HW6.out]
                      by_cases her : er = 0
                      · subst her
                        obtain ⟨hnew, hpl⟩ := HGV.out rfl
                        have HNW := Lib.hid hnew
                        have HPL := Lib.hid hpl
                        clear hnew hpl
                        go_wp2_with fail
                        go_loopw [20] (fun j wx => ∃ jj : Nat, j = .int .i64 (jj : Int) ∧ jj ≤ xs.length ∧ Hid (Below w6.heap.size w6 wx)) (fun j _ => xs.length - (intOf j).toNat)
                        case atStart => exact ⟨0, rfl, Nat.zero_le _, Lib.hid (Below.refl _ _)⟩
                        case round =>
                          obtain ⟨jj, rfl, hjl, HBJ⟩ := hrel
                          by_cases hj : jj < xs.length
                          · have qj : (jj : Int) < (xs.length : Int) := by omega
                            have hxs := HXS.out
                            have qjj : IntKind.i64.wrap ((jj : Int) + 1) = ((jj + 1 : Nat) : Int) := by rw [IntWalk.i64_in _ (by have := q2; omega)]; omega
                            obtain ⟨xj, hxj⟩ : ∃ xj, xs[jj]? = some xj := ⟨xs[jj], List.getElem?_eq_getElem hj⟩
                            obtain ⟨gt, ct, het, hgt, -, hrt⟩ := (T6.out.below HBJ.out).tx.at jj xj hxj
                            injection het with ht1 _ ht3
                            subst ht1; subst ht3
                            have t0 : wr.drew.cell? ⟨gt, jj * 3, none⟩ = some (.int .i64 xj.node) := hrt 0 _ rfl
                            have t1 : wr.drew.cell? ⟨gt, jj * 3 + 1, none⟩ = some (.int .i64 xj.boot) := hrt 1 _ rfl
                            have t2 : wr.drew.cell? ⟨gt, jj * 3 + 2, none⟩ = some (.int .i64 xj.n) := hrt 2 _ rfl
                            have hrw : wr.drew.heap[w5.heap.size]? = some (.cells #[.int .i64 xn.node, .int .i64 xn.boot, .int .i64 xn.n] 33 (0, 0)) := (HBJ.out.block _ (Array.getElem?_eq_some_iff.1 HR6.out).1).trans HR6.out
                            have b0 : wr.drew.cell? ⟨w5.heap.size, 0, none⟩ = some (.int .i64 xn.node) := cell_of_row _ _ _ _ _ _ hrw
                            have b1 : wr.drew.cell? ⟨w5.heap.size, 1, none⟩ = some (.int .i64 xn.boot) := cell_of_row _ _ _ _ _ _ hrw
                            have b2 : wr.drew.cell? ⟨w5.heap.size, 2, none⟩ = some (.int .i64 xn.n) := cell_of_row _ _ _ _ _ _ hrw
                            have hq := eq_tx xj xn
                            rw [HNW.out xj (List.mem_of_getElem? hxj)] at hq
                            clear hrw hrt hxj hxs
                            go_wp2_with fail
                            go_region
                            go_wp2
                            go_roundw
                            case rel => exact ⟨jj + 1, by go_num, hj, Lib.hid HBJ.out.drew⟩
                            case measure => simp [intOf]; omega
                          · have qj : ¬ (jj : Int) < (xs.length : Int) := by omega
                            have hrw : wr.heap[w5.heap.size]? = some (.cells #[.int .i64 xn.node, .int .i64 xn.boot, .int .i64 xn.n] 33 (0, 0)) := (HBJ.out.block _ (Array.getElem?_eq_some_iff.1 HR6.out).1).trans HR6.out
                            have b0 : wr.cell? ⟨w5.heap.size, 0, none⟩ = some (.int .i64 xn.node) := cell_of_row _ _ _ _ _ _ hrw
                            have b1 : wr.cell? ⟨w5.heap.size, 1, none⟩ = some (.int .i64 xn.boot) := cell_of_row _ _ _ _ _ _ hrw
                            have b2 : wr.cell? ⟨w5.heap.size, 2, none⟩ = some (.int .i64 xn.n) := cell_of_row _ _ _ _ _ _ hrw
                            obtain ⟨ta9, tc9, w9, hap, t9⟩ := (T6.out.below HBJ.out).give xn (by have := HXS.out; omega)
                            have T9 := Lib.hid t9
                            have HAP := Lib.hid hap
                            clear hrw t9 hap
                            go_wp2_with (at_builtin; refine wpList_append_run _ rfl _ _ 27 27 rfl _ _ rfl rfl _ w9 HAP.out ?_)
                            go_wp2_with fail
                            go_meet
                            exact ⟨cn, sv5, ta9, tc9, xs ++ [xn], none, 0, [], by simp, rfl, by have := HXS.out; simp; omega, T9, HPL, Lib.hid (RecOk.nil _ _ _ _ _), Lib.hid (fun h => absurd rfl h)⟩
                      · go_wp2_with fail
                        go_loopw [20] (fun j wx => ∃ jj : Nat, j = .int .i64 (jj : Int) ∧ wx = w6) (fun j _ => xs.length - (intOf j).toNat)
                        case atStart => exact ⟨0, rfl, rfl⟩
                        case round =>
                          obtain ⟨jj, rfl, rfl⟩ := hrel
                          go_wp2_with fail
                          go_meet
                          exact ⟨cn, sv5, ta, tc, xs, none, 0, [], rfl, rfl, by have := HXS.out; omega, T6, HBN, Lib.hid (RecOk.nil _ _ _ _ _), Lib.hid (fun h => absurd rfl h)⟩
                  by_cases a2 : dd.act = 2
                  · as_aux_lemma =>
                      rw [a2] at y0
                      have hbd := (Below.refl wF.heap.size wF).drew
                      have TD := Lib.hid (T3.out.below hbd)
                      have hx := HX.out.below hbd
                      have hvt := vote_any w.heap.size p2 wF.drew c2 sv2 x dd.shard true TD.out.nd TD.out.ex.size (by have := hPP.wf.len; omega) hPP.wf.rg
                      unfold txV at hvt
                      have HVT := Lib.hid hvt
                      have y0d : wF.drew.cell? ⟨gc, oc + ii * 9, none⟩ = some (.int .i64 2) := y0
                      have y2d : wF.drew.cell? ⟨gc, oc + ii * 9 + 2, none⟩ = some (.int .i64 dd.shard) := ((HCF.out.trans (hbd.mono HCF.out.size)).cell HGC.out).trans (HCA.out.r 2 _ rfl)
                      obtain ⟨x0, x1, x2, -⟩ := hx
                      have PP2 := Lib.hid hPP
                      clear hvt hbd hPP
                      go_upto_region 41 with fail
                      have HKP := Lib.hid (fun (w' : World) (hf : Fr (fun k => k = p2 ∨ sv2.ownBlock = some k) wF.drew w') => tx_kept TD.out (HCF.out.drew) HG0.out hf y0d y2d HPS.out.1 HPS.out.2 x0 x1 x2)
                      go_region_held3 (fun u => u.cell? ⟨gc, oc + ii * 9, none⟩ = some (.int .i64 2) ∧ u.cell? ⟨gc, oc + ii * 9 + 2, none⟩ = some (.int .i64 dd.shard) ∧ u.cell? ⟨wD.heap.size, 0, none⟩ = some (.int .i64 x.node) ∧ u.cell? ⟨wD.heap.size, 1, none⟩ = some (.int .i64 x.boot) ∧ u.cell? ⟨wD.heap.size, 2, none⟩ = some (.int .i64 x.n))
                        (first | exact ⟨y0d, y2d, x0, x1, x2⟩ | assumption)
                        (first
                          | (go_at_call 10; ((with_reducible refine HVT.out.mono ?_); rintro e w5 hs; have hk5 := HKP.out w5 (say_fr hs); obtain ⟨sv5, ra, rc, rl, rfl, t5, r5, hrl⟩ := TD.out.say hs; have T5 := Lib.hid t5; have R5 := Lib.hid r5; have HRL := Lib.hid hrl; clear hs t5 r5 hrl)))
                      all_goals
                        go_wp2_with fail
                        go_meet
                        exact ⟨_, sv5, ta, tc, xs, ra, rc, rl, rfl, rfl, by have := HXS.out; omega, T5, Lib.hid (PP2.out.vote x dd.shard true), R5, Lib.hid (fun hne => rec_vote PP2.out.wf PP2.out.lf x dd.shard true (rec_getD HRL.out hne))⟩
                  by_cases a3 : dd.act = 3
                  · as_aux_lemma =>
                      rw [a3] at y0
                      have hbd := (Below.refl wF.heap.size wF).drew
                      have TD := Lib.hid (T3.out.below hbd)
                      have hx := HX.out.below hbd
                      have hvt := vote_any w.heap.size p2 wF.drew c2 sv2 x dd.shard false TD.out.nd TD.out.ex.size (by have := hPP.wf.len; omega) hPP.wf.rg
                      unfold txV at hvt
                      have HVT := Lib.hid hvt
                      have y0d : wF.drew.cell? ⟨gc, oc + ii * 9, none⟩ = some (.int .i64 3) := y0
                      have y2d : wF.drew.cell? ⟨gc, oc + ii * 9 + 2, none⟩ = some (.int .i64 dd.shard) := ((HCF.out.trans (hbd.mono HCF.out.size)).cell HGC.out).trans (HCA.out.r 2 _ rfl)
                      obtain ⟨x0, x1, x2, -⟩ := hx
                      have PP2 := Lib.hid hPP
                      clear hvt hbd hPP
                      go_upto_region 41 with fail
                      have HKP := Lib.hid (fun (w' : World) (hf : Fr (fun k => k = p2 ∨ sv2.ownBlock = some k) wF.drew w') => tx_kept TD.out (HCF.out.drew) HG0.out hf y0d y2d HPS.out.1 HPS.out.2 x0 x1 x2)
                      go_region_held3 (fun u => u.cell? ⟨gc, oc + ii * 9, none⟩ = some (.int .i64 3) ∧ u.cell? ⟨gc, oc + ii * 9 + 2, none⟩ = some (.int .i64 dd.shard) ∧ u.cell? ⟨wD.heap.size, 0, none⟩ = some (.int .i64 x.node) ∧ u.cell? ⟨wD.heap.size, 1, none⟩ = some (.int .i64 x.boot) ∧ u.cell? ⟨wD.heap.size, 2, none⟩ = some (.int .i64 x.n))
                        (first | exact ⟨y0d, y2d, x0, x1, x2⟩ | assumption)
                        (first
                          | (go_at_call 10; ((with_reducible refine HVT.out.mono ?_); rintro e w5 hs; have hk5 := HKP.out w5 (say_fr hs); obtain ⟨sv5, ra, rc, rl, rfl, t5, r5, hrl⟩ := TD.out.say hs; have T5 := Lib.hid t5; have R5 := Lib.hid r5; have HRL := Lib.hid hrl; clear hs t5 r5 hrl)))
                      all_goals
                        go_wp2_with fail
                        go_meet
                        exact ⟨_, sv5, ta, tc, xs, ra, rc, rl, rfl, rfl, by have := HXS.out; omega, T5, Lib.hid (PP2.out.vote x dd.shard false), R5, Lib.hid (fun hne => rec_vote PP2.out.wf PP2.out.lf x dd.shard false (rec_getD HRL.out hne))⟩
                  by_cases a5 : dd.act = 5
                  · as_aux_lemma =>
                      rw [a5] at y0
                      have hbd := (Below.refl wF.heap.size wF).drew
                      have TD := Lib.hid (T3.out.below hbd)
                      have hx := HX.out.below hbd
                      have hvt := ack_any w.heap.size p2 wF.drew c2 sv2 x dd.shard TD.out.nd TD.out.ex.size (by have := hPP.wf.len; omega) hPP.wf.rg
                      unfold txV at hvt
                      have HVT := Lib.hid hvt
                      have y0d : wF.drew.cell? ⟨gc, oc + ii * 9, none⟩ = some (.int .i64 5) := y0
                      have y2d : wF.drew.cell? ⟨gc, oc + ii * 9 + 2, none⟩ = some (.int .i64 dd.shard) := ((HCF.out.trans (hbd.mono HCF.out.size)).cell HGC.out).trans (HCA.out.r 2 _ rfl)
                      obtain ⟨x0, x1, x2, -⟩ := hx
                      have PP2 := Lib.hid hPP
                      clear hvt hbd hPP
                      go_upto_region 43 with fail
                      have HKP := Lib.hid (fun (w' : World) (hf : Fr (fun k => k = p2 ∨ sv2.ownBlock = some k) wF.drew w') => tx_kept TD.out (HCF.out.drew) HG0.out hf y0d y2d HPS.out.1 HPS.out.2 x0 x1 x2)
                      go_region_held3 (fun u => u.cell? ⟨gc, oc + ii * 9, none⟩ = some (.int .i64 5) ∧ u.cell? ⟨gc, oc + ii * 9 + 2, none⟩ = some (.int .i64 dd.shard) ∧ u.cell? ⟨wD.heap.size, 0, none⟩ = some (.int .i64 x.node) ∧ u.cell? ⟨wD.heap.size, 1, none⟩ = some (.int .i64 x.boot) ∧ u.cell? ⟨wD.heap.size, 2, none⟩ = some (.int .i64 x.n))
                        (first | exact ⟨y0d, y2d, x0, x1, x2⟩ | assumption)
                        (first
                          | (go_at_call 12; ((with_reducible refine HVT.out.mono ?_); rintro e w5 hs; have hk5 := HKP.out w5 (say_fr hs); obtain ⟨sv5, ra, rc, rl, rfl, t5, r5, hrl⟩ := TD.out.say hs; have T5 := Lib.hid t5; have R5 := Lib.hid r5; have HRL := Lib.hid hrl; clear hs t5 r5 hrl)))
                      all_goals
                        go_wp2_with fail
                        go_meet
                        exact ⟨_, sv5, ta, tc, xs, ra, rc, rl, rfl, rfl, by have := HXS.out; omega, T5, Lib.hid (PP2.out.ack x dd.shard), R5, Lib.hid (fun hne => rec_ack PP2.out.wf PP2.out.lf x dd.shard (rec_getD HRL.out hne))⟩
                  as_aux_lemma =>
                    clear hPP
                    go_wp2_with fail
                    go_meet
                    exact ⟨c2, sv2, ta, tc, xs, none, 0, [], rfl, rfl, by have := HXS.out; omega, T3, P2, Lib.hid (RecOk.nil _ _ _ _ _), Lib.hid (fun h => absurd rfl h)⟩
            case rest =>
              obtain ⟨c3, sv3, ta3, tc3, xs3, ra, rc, rl, rfl, rfl, hx3, T4, P4, R4, L4⟩ := hcut
              obtain ⟨wG, rfl⟩ : ∃ wG, wG = wc := ⟨_, rfl⟩
              have hls := HK2.out.2
              have qii : IntKind.i64.wrap ((ii : Int) + 1) = ((ii + 1 : Nat) : Int) := by rw [IntWalk.i64_in _ (by omega)]; omega
              have HX3 := Lib.hid hx3
              clear y0 hx3
              by_cases hrl : rl = []
              · subst hrl
                have HLS := Lib.hid hls
                clear hls
                go_wp2
                go_roundw
                case rel => exact ⟨ii + 1, k2, p2, c3, sv3, la2, ta3, lc2, tc3, ls2, xs3, rfl, rfl, rfl, rfl, by go_num, by omega, by omega, HK2.out.1, by have := HLS.out; omega, HX3.out, T4, Lib.hid (P4.out.more (by omega))⟩
                case measure => simp [intOf]; omega
              · as_aux_lemma =>
                  have hL := L4.out hrl
                  have q0 : (0 : Int) < (rl.length : Int) := by have := List.length_pos_iff.2 hrl; omega
                  have hrd := redo_any w.heap.size p2 wG c3 sv3 (.slice ra rl.length rc) rl T4.out.nd R4.out.b T4.out.ex.size (by have := P4.out.wf.len; omega) (by have := hL.len; omega)
                  have hp := P4.out.redo rl hL.life
                  obtain ⟨er, her⟩ : ∃ er, (c3.redo rl).1 = er := ⟨_, rfl⟩
                  rw [her] at hrd hp
                  have HRD := Lib.hid hrd
                  have HP := Lib.hid hp
                  have HLN := Lib.hid hL.len
                  have HLS := Lib.hid hls
                  clear hrd hp hL her hls hrl
                  go_wp2_with fail
                  refine HRD.out.mono ?_
                  rintro e w8 ⟨rfl, ho⟩
                  obtain ⟨sv8, t8, r8⟩ := T4.out.op2 R4.out ho
                  have T8 := Lib.hid t8
                  by_cases h0 : er = 0
                  · subst h0
                    obtain ⟨la9, lc9, w9, hap, t9⟩ := t8.log r8 HLN.out (by have := HLS.out; omega)
                    have T9 := Lib.hid t9
                    have HAP := Lib.hid hap
                    clear t8 r8 t9 hap ho HRD
                    go_wp2_with (at_builtin; refine wpList_append_run _ rfl _ _ 50 50 rfl _ _ rfl rfl _ w9 HAP.out ?_)
                    go_wp2
                    go_roundw
                    case rel => exact ⟨ii + 1, k2, p2, _, sv8, la9, ta3, lc9, tc3, ls2 ++ [rl], xs3, rfl, by simp, rfl, rfl, by go_num, by omega, by omega, HK2.out.1, by have := HLS.out; simp; omega, HX3.out, T9, Lib.hid (by have := HP.out; simp only [if_true] at this; exact this.more (by omega))⟩
                    case measure => simp [intOf]; omega
                  · clear t8 r8 ho HRD
                    go_wp2
                    go_roundw
                    case rel => exact ⟨ii + 1, k2, p2, _, sv8, la2, ta3, lc2, tc3, ls2, xs3, rfl, rfl, rfl, rfl, by go_num, by omega, by omega, HK2.out.1, by have := HLS.out; omega, HX3.out, T8, Lib.hid (by have := HP.out; rw [if_neg h0] at this; exact this.more (by omega))⟩
                    case measure => simp [intOf]; omega
end Go.Proofs.Ytleghofpabdkhaa
