/- Coord: CoordAgrees walked. -/
import Derived.Test.YtleghofpabdkhaaY34
import Derived.Test.YtleghofpabdkhaaY9
import Derived.Test.YtleghofpabdkhaaYO
import Derived.Deep.DeepCutAuto
import Derived.Deep.RegionHeld3
import Derived.BigQuiet
namespace Go.Proofs.Ytleghofpabdkhaa
open Go Go.RowKit

/-- The call that is done, and the name that it is about, in blocks of their own. -/
structure ClB (W : World) (D : Nat) (dd : Cl) (cs cb : Value) : Prop where
  r : W.heap[D]? = some (.cells (clS dd cs cb).toArray 36 (0, 0))
  s : Ints W cs dd.shards
theorem ClB.lt {W : World} {D : Nat} {dd : Cl} {cs cb : Value} (h : ClB W D dd cs cb) : D < W.heap.size := (Array.getElem?_eq_some_iff.1 h.r).1
theorem ClB.cell {W : World} {D : Nat} {dd : Cl} {cs cb : Value} (h : ClB W D dd cs cb) (j : Nat) (u : Value) (hj : (clS dd cs cb)[j]? = some u) : W.cell? ⟨D, j, none⟩ = some u := by
  rw [cell_of_row _ _ _ _ _ _ h.r]; simpa using hj
theorem set3_fr {V W : World} {q : Nat} (h : Below V.heap.size V W) (hq : V.heap.size ≤ q) (x y z : Value) : Below V.heap.size V (((W.setCell ⟨q, 0, none⟩ x).setCell ⟨q, 1, none⟩ y).setCell ⟨q, 2, none⟩ z) := ((h.setCell (p := ⟨q, 0, none⟩) hq x).setCell (p := ⟨q, 1, none⟩) hq y).setCell (p := ⟨q, 2, none⟩) hq z
theorem set3_other {W : World} {q D : Nat} (hq : D ≠ q) (x y z : Value) : (((W.setCell ⟨q, 0, none⟩ x).setCell ⟨q, 1, none⟩ y).setCell ⟨q, 2, none⟩ z).heap[D]? = W.heap[D]? := by
  rw [Below.heap_setCell _ _ _ _ (by exact hq), Below.heap_setCell _ _ _ _ (by exact hq), Below.heap_setCell _ _ _ _ (by exact hq)]
theorem rec_getD {r : Option (List UInt8)} {l : List UInt8} (h : l = r.getD []) (hne : l ≠ []) : r = some l := by
  cases r with
  | none => exact absurd h hne
  | some m => rw [h]; rfl
theorem say_fr {B : Nat} {w w' : World} {p : Nat} {sv : Value} {r : Option (List UInt8)} {er : Int} {c' : Cd} {e : Ending} (h : SayR B w p sv r er c' e w') : Fr (fun k => k = p ∨ sv.ownBlock = some k) w w' := by
  obtain ⟨_, _, _, hf, _⟩ := h
  exact hf
theorem step_k {P : Program} {K : Act → World → Prop} {C : Code} {Q : Exit → Act → World → Prop} {a : Act} {w : World} (h : ∀ a w, C.wp P Q a w → K a w) (k : C.wp P Q a w) : K a w := h a w k
theorem doneL_len (a b : Nat) (s : St4) : (doneL a b s).length ≤ 100 := by
  have := listTo_len s 4
  unfold doneL
  simp only [List.length_append, num4_len, List.length_singleton]
  omega
theorem tx_set3 {W : World} {b : Nat} {u0 u1 u2 : Value} (h : W.heap[b]? = some (.cells #[u0, u1, u2] 33 (0, 0))) (x : Txn) : TxAt (((W.setCell ⟨b, 0, none⟩ (.int .i64 x.node)).setCell ⟨b, 1, none⟩ (.int .i64 x.boot)).setCell ⟨b, 2, none⟩ (.int .i64 x.n)) b x := by
  have h1 : (W.setCell ⟨b, 0, none⟩ (.int .i64 x.node)).heap[b]? = some (.cells #[.int .i64 x.node, u1, u2] 33 (0, 0)) := by rw [heap_setCell_same W b 0 _ _ _ h]; rfl
  have h2 : ((W.setCell ⟨b, 0, none⟩ (.int .i64 x.node)).setCell ⟨b, 1, none⟩ (.int .i64 x.boot)).heap[b]? = some (.cells #[.int .i64 x.node, .int .i64 x.boot, u2] 33 (0, 0)) := by rw [heap_setCell_same _ b 1 _ _ _ h1]; rfl
  have h3 : (((W.setCell ⟨b, 0, none⟩ (.int .i64 x.node)).setCell ⟨b, 1, none⟩ (.int .i64 x.boot)).setCell ⟨b, 2, none⟩ (.int .i64 x.n)).heap[b]? = some (.cells #[.int .i64 x.node, .int .i64 x.boot, .int .i64 x.n] 33 (0, 0)) := by rw [heap_setCell_same _ b 2 _ _ _ h2]; rfl
  exact ⟨cell_of_row _ _ _ _ _ _ h3, cell_of_row _ _ _ _ _ _ h3, cell_of_row _ _ _ _ _ _ h3, (Array.getElem?_eq_some_iff.1 h3).1⟩
theorem two_made (w : World) (a b : Array Value) (s t : TypeId) : Below w.heap.size w ((w.alloc (.cells a s)).alloc (.cells b t)) ∧ ((w.alloc (.cells a s)).alloc (.cells b t)).heap[w.heap.size]? = some (.cells a s (0, 0)) ∧ ((w.alloc (.cells a s)).alloc (.cells b t)).heap[w.heap.size + 1]? = some (.cells b t (0, 0)) := by
  have hs : (w.alloc (.cells a s)).heap.size = w.heap.size + 1 := by simp
  refine ⟨((Below.refl _ w).alloc (Nat.le_refl _) _).alloc (by omega) _, ?_, ?_⟩
  · exact (((Below.refl _ (w.alloc (.cells a s))).alloc (Nat.le_refl _) (.cells b t)).block w.heap.size (by omega)).trans (heap_alloc_new w _)
  · rw [← hs]; exact heap_alloc_new _ _
theorem ClB.fr {W W' : World} {D : Nat} {dd : Cl} {cs cb : Value} {S : Nat → Prop} (h : ClB W D dd cs cb) (hf : Fr S W W') (hS : ∀ k, S k → k < D) (hs : Ints W' cs dd.shards) : ClB W' D dd cs cb := ⟨(hf.block D h.lt (fun e => by have := hS D e; omega)).trans h.r, hs⟩
theorem TxAt.fr {W W' : World} {D : Nat} {x : Txn} {S : Nat → Prop} (h : TxAt W D x) (hf : Fr S W W') (hS : ∀ k, S k → k < D) : TxAt W' D x := by
  have hb := hf.block D h.2.2.2 (fun e => by have := hS D e; omega)
  exact ⟨(cell_same hb).trans h.1, (cell_same hb).trans h.2.1, (cell_same hb).trans h.2.2.1, Nat.lt_of_lt_of_le h.2.2.2 hf.size⟩
theorem cell_fr {W W' : World} {D j : Nat} {u : Value} {S : Nat → Prop} (h : W.cell? ⟨D, j, none⟩ = some u) (hf : Fr S W W') (hS : ∀ k, S k → k < D) : W'.cell? ⟨D, j, none⟩ = some u :=
  (cell_same (hf.block D (World.block_lt_of_cell? W _ h) (fun e => by have := hS D e; omega))).trans h
theorem setGo_len : ∀ (l : List Int) (s r : St4) (last : Int), last ≤ 3 → setGo s last l = some r → (l.length : Int) + last ≤ 3
  | [], _, _, _, hl, _ => by simpa using hl
  | x :: t, s, r, last, hl, h => by
    rw [setGo] at h
    split at h
    · cases h
    · split at h
      · cases h
      · have := setGo_len t _ r x (by omega) h
        rw [List.length_cons]
        omega
theorem setE_len {l : List Int} (h : (setE l).2 = true) : l ≠ [] ∧ l.length ≤ 4 := by
  unfold setE at h
  cases hg : setGo St4.none (-1) l with
  | none => rw [hg] at h; cases h
  | some s =>
    rw [hg] at h
    have h1 := setGo_len l _ s (-1) (by omega) hg
    refine ⟨fun e => ?_, by omega⟩
    subst e
    simp at h
theorem getD_nil {r : Option (List UInt8)} {l : List UInt8} (h : l = r.getD []) (hr : r = none) : l = [] := by rw [h, hr]; rfl
theorem ack_len {c : Cd} {x : Txn} {i : Int} {l : List UInt8} (h : (c.ack x i).1 = some l) : l.length ≤ 100 := by
  unfold Cd.ack at h
  cases hf : c.under.find? (doneB x) with
  | none => rw [hf] at h; cases h
  | some t =>
    rw [hf] at h
    dsimp only at h
    split at h
    · split at h
      · injection h with h; rw [← h]; simp [num4_len]
      · cases h
    · cases h
theorem below_drewN {B : Nat} {a w : World} (h : Below B a w) (n : Nat) : Below B a (w.drewN n) := ⟨h.os, h.tape, h.output, h.size, h.block⟩

set_option maxRecDepth 100000 in
set_option maxHeartbeats 16000000 in
theorem walk_agrees (w : World) (v : Value) (l : List Cl) (hv : Cls w v l) :
    Calls Try.prog 3 #[v] w fun e w' => e = .returned (.bool true) ∧ Below w.heap.size w w' := by
  have HV := Lib.hid hv
  obtain ⟨va, vc, rfl, hvl, -⟩ := hv
  have HNEW := Lib.hid (fun W => new_any 1 (by decide) (by decide) W)
  obtain ⟨p, hp⟩ : ∃ p, w.heap.size = p := ⟨_, rfl⟩
  have HQ := Lib.hid hp
  clear hp
  go_enter Try.func3, Try.ntmps3
  go_wp2_with fail
  refine (HNEW.out _).mono ?_
  rintro e w1 ⟨rfl, h1, hb1⟩
  have T1 := Lib.hid (Ag.start h1 hb1)
  clear h1 hb1
  rw [HQ.out]
  rw [HQ.out] at T1
  go_wp2_with fail
  go_loopw [5, 6, 7, 8, 9, 10, 11, 12, 13, 14, 15, 16, 17, 18, 19, 20] (fun tx hx yx fx i _ _ _ _ _ _ _ _ _ _ _ wr => ∃ (ii : Nat) (c : Cd) (sv : Value) (ta ha ya fa : Option Addr) (tc hc yc fc : Nat) (xs : List Txn) (hs : List (List Int)) (ys : List St4) (fs : List Int), tx = .slice ta xs.length tc ∧ hx = .slice ha hs.length hc ∧ yx = .slice ya ys.length yc ∧ fx = .slice fa fs.length fc ∧ i = .int .i64 (ii : Int) ∧ ii ≤ l.length ∧ ii ≤ 120 ∧ xs.length ≤ ii ∧ Hid (Ag w wr p c sv (.slice ta xs.length tc) (.slice ha hs.length hc) (.slice ya ys.length yc) (.slice fa fs.length fc) xs hs ys fs) ∧ Hid (AgP c xs hs ys fs)) (fun _ _ _ _ i _ _ _ _ _ _ _ _ _ _ _ _ => l.length - (intOf i).toNat)
  case atStart => exact ⟨0, _, _, none, none, none, none, 0, 0, 0, 0, [], [], [], [], rfl, rfl, rfl, rfl, rfl, Nat.zero_le _, Nat.zero_le _, Nat.zero_le _, T1, Lib.hid (AgP.new 1)⟩
  case round =>
    obtain ⟨ii, c, sv, ta, ha, ya, fa, tc, hc, yc, fc, xs, hs, ys, fs, rfl, rfl, rfl, rfl, rfl, hil, hi120, hxsl, TT, PP⟩ := hrel
    by_cases hcond : ii < l.length ∧ ii < 120
    case neg =>
      have q0 : ¬ ((ii : Int) < (l.length : Int) ∧ (ii : Int) < 120) := fun h => hcond ⟨by omega, by omega⟩
      have HEX := Lib.hid TT.out.ex
      clear TT
      by_cases h1 : ii < l.length
      · have q1 : (ii : Int) < (l.length : Int) := by omega
        have q2 : ¬ (ii : Int) < 120 := by omega
        clear q0
        go_wp2_with fail
        refine (live_true _).mono ?_
        rintro e w9 ⟨rfl, hb9⟩
        go_wp2
        go_ret
        exact ⟨rfl, HEX.out.trans (hb9.mono HEX.out.size)⟩
      · have q1 : ¬ (ii : Int) < (l.length : Int) := by omega
        clear q0
        go_wp2_with fail
        refine (live_true _).mono ?_
        rintro e w9 ⟨rfl, hb9⟩
        go_wp2
        go_ret
        exact ⟨rfl, HEX.out.trans (hb9.mono HEX.out.size)⟩
    case pos =>
      obtain ⟨h1, h2⟩ := hcond
      have q1 : (ii : Int) < (l.length : Int) := by omega
      have q2 : (ii : Int) < 120 := by omega
      have HLB := Lib.hid (And.intro hxsl (And.intro hil hi120))
      clear hil hi120 hxsl
      obtain ⟨dd, hdd⟩ : ∃ dd, l[ii]? = some dd := ⟨l[ii], List.getElem?_eq_getElem h1⟩
      obtain ⟨av', acp, hve, -, hcls⟩ := HV.out
      injection hve with hv1 _ hv3
      subst hv1; subst hv3
      obtain ⟨gc, oc, cs, cb, rfl, hgc, hca⟩ := hcls ii dd hdd
      obtain ⟨ca, cc, rfl, -⟩ := id hca.s
      obtain ⟨ba, bc, rfl⟩ := hca.b.1
      have HCA := Lib.hid hca
      have y0 : wr.cell? ⟨gc, oc + ii * 9, none⟩ = some (.int .i64 dd.act) := (TT.out.ex.cell hgc).trans (hca.r 0 _ rfl)
      have y1 : wr.cell? ⟨gc, oc + ii * 9 + 1, none⟩ = some (.slice ca dd.shards.length cc) := (TT.out.ex.cell hgc).trans (hca.r 1 _ rfl)
      have y2 : wr.cell? ⟨gc, oc + ii * 9 + 2, none⟩ = some (.int .i64 dd.shard) := (TT.out.ex.cell hgc).trans (hca.r 2 _ rfl)
      have y3 : wr.cell? ⟨gc, oc + ii * 9 + 3, none⟩ = some (.bool dd.keep) := (TT.out.ex.cell hgc).trans (hca.r 3 _ rfl)
      have y4 : wr.cell? ⟨gc, oc + ii * 9 + 4, none⟩ = some (.int .u8 dd.which) := (TT.out.ex.cell hgc).trans (hca.r 4 _ rfl)
      have y5 : wr.cell? ⟨gc, oc + ii * 9 + 5, none⟩ = some (.int .i64 dd.tx.node) := (TT.out.ex.cell hgc).trans (hca.r 5 _ rfl)
      have y6 : wr.cell? ⟨gc, oc + ii * 9 + 6, none⟩ = some (.int .i64 dd.tx.boot) := (TT.out.ex.cell hgc).trans (hca.r 6 _ rfl)
      have y7 : wr.cell? ⟨gc, oc + ii * 9 + 7, none⟩ = some (.int .i64 dd.tx.n) := (TT.out.ex.cell hgc).trans (hca.r 7 _ rfl)
      have y8 : wr.cell? ⟨gc, oc + ii * 9 + 8, none⟩ = some (.slice ba dd.bytes.length bc) := (TT.out.ex.cell hgc).trans (hca.r 8 _ rfl)
      clear hcls hca hdd
      go_upto_if 49 with fail
      obtain ⟨wE, hWE⟩ : ∃ wE, (wr.alloc (.cells #[.int .i64 dd.act, .slice ca dd.shards.length cc, .int .i64 dd.shard, .bool dd.keep, .int .u8 dd.which, .int .i64 dd.tx.node, .int .i64 dd.tx.boot, .int .i64 dd.tx.n, .slice ba dd.bytes.length bc] 36)).alloc (.cells #[.int .i64 dd.tx.node, .int .i64 dd.tx.boot, .int .i64 dd.tx.n] 33) = wE := ⟨_, rfl⟩
      have hmade := two_made wr #[.int .i64 dd.act, .slice ca dd.shards.length cc, .int .i64 dd.shard, .bool dd.keep, .int .u8 dd.which, .int .i64 dd.tx.node, .int .i64 dd.tx.boot, .int .i64 dd.tx.n, .slice ba dd.bytes.length bc] #[.int .i64 dd.tx.node, .int .i64 dd.tx.boot, .int .i64 dd.tx.n] 36 33
      rw [hWE] at hmade ⊢
      obtain ⟨hbE, hrowC, hrowT⟩ := hmade
      have HRT := Lib.hid hrowT
      have HBE := Lib.hid hbE
      have HCB := Lib.hid (show ClB wE wr.heap.size dd (.slice ca dd.shards.length cc) (.slice ba dd.bytes.length bc) from ⟨hrowC, HCA.out.s.below (TT.out.ex.trans (hbE.mono TT.out.ex.size))⟩)
      have z4 : wE.cell? ⟨wr.heap.size, 4, none⟩ = some (.int .u8 dd.which) := HCB.out.cell 4 _ rfl
      clear y0 y1 y2 y3 y4 y5 y6 y7 y8 hWE hrowC hgc
      go_cut [11] from 31 to 211 (fun x11 wx => ∃ at_ : Int, x11 = .int .i64 at_ ∧ Hid (∃ x, TxAt wx (wr.heap.size + 1) x ∧ ClB wx wr.heap.size dd (.slice ca dd.shards.length cc) (.slice ba dd.bytes.length bc) ∧ Below wr.heap.size wr wx ∧ ((at_ = -1 ∧ xs = []) ∨ ∃ k : Nat, at_ = (k : Int) ∧ xs[k]? = some x)))
      case first =>
        as_aux_lemma =>
          by_cases hx0 : 0 < xs.length
          · have qx : (0 : Int) < (xs.length : Int) := by omega
            have hw := HCA.out.w
            have hmm : dd.which.toNat % xs.length < xs.length := Nat.mod_lt _ hx0
            have qr : dd.which.tmod (xs.length : Int) = ((dd.which.toNat % xs.length : Nat) : Int) := by
              obtain ⟨wn, hwn⟩ : ∃ wn : Nat, dd.which = (wn : Int) := ⟨dd.which.toNat, by omega⟩
              rw [hwn]; rfl
            generalize hmd : dd.which.toNat % xs.length = mm at hmm qr
            obtain ⟨xm, hxm⟩ : ∃ xm, xs[mm]? = some xm := ⟨xs[mm], List.getElem?_eq_getElem hmm⟩
            obtain ⟨gt, ct, het, hgt, -, hrt⟩ := TT.out.tx.at mm xm hxm
            injection het with ht1 _ ht3
            subst ht1; subst ht3
            have t0 : wE.cell? ⟨gt, mm * 3, none⟩ = some (.int .i64 xm.node) := (hbE.cell hgt).trans (hrt 0 _ rfl)
            have t1 : wE.cell? ⟨gt, mm * 3 + 1, none⟩ = some (.int .i64 xm.boot) := (hbE.cell hgt).trans (hrt 1 _ rfl)
            have t2 : wE.cell? ⟨gt, mm * 3 + 2, none⟩ = some (.int .i64 xm.n) := (hbE.cell hgt).trans (hrt 2 _ rfl)
            have r0 : wE.cell? ⟨wr.heap.size + 1, 0, none⟩ = some (.int .i64 dd.tx.node) := cell_of_row _ _ _ _ _ _ hrowT
            have r1 : wE.cell? ⟨wr.heap.size + 1, 1, none⟩ = some (.int .i64 dd.tx.boot) := cell_of_row _ _ _ _ _ _ hrowT
            have r2 : wE.cell? ⟨wr.heap.size + 1, 2, none⟩ = some (.int .i64 dd.tx.n) := cell_of_row _ _ _ _ _ _ hrowT
            have f0 : wE.frozen? ⟨wr.heap.size + 1, 0, none⟩ = false := frozen_of_row _ _ _ _ _ hrowT
            have f1 : wE.frozen? ⟨wr.heap.size + 1, 1, none⟩ = false := frozen_of_row _ _ _ _ _ hrowT
            have f2 : wE.frozen? ⟨wr.heap.size + 1, 2, none⟩ = false := frozen_of_row _ _ _ _ _ hrowT
            have qm : (mm : Int) < (xs.length : Int) := by omega
            have HXM := Lib.hid hxm
            clear hmd hxm hrt hrowT hbE
            go_wp2_with fail
            go_meet
            have hb := set3_fr HBE.out (Nat.le_succ _) (.int .i64 xm.node) (.int .i64 xm.boot) (.int .i64 xm.n)
            exact ⟨_, rfl, Lib.hid ⟨xm, tx_set3 HRT.out xm, ⟨(set3_other (by omega) _ _ _).trans HCB.out.r, HCA.out.s.below (TT.out.ex.trans (hb.mono TT.out.ex.size))⟩, hb, Or.inr ⟨mm, rfl, HXM.out⟩⟩⟩
          · have qx : ¬ (0 : Int) < (xs.length : Int) := by omega
            have HX0 := Lib.hid (show xs = [] from List.eq_nil_of_length_eq_zero (by omega))
            go_wp2_with fail
            go_meet
            exact ⟨_, rfl, Lib.hid ⟨dd.tx, ⟨cell_of_row _ _ _ _ _ _ HRT.out, cell_of_row _ _ _ _ _ _ HRT.out, cell_of_row _ _ _ _ _ _ HRT.out, (Array.getElem?_eq_some_iff.1 HRT.out).1⟩, HCB.out, HBE.out, Or.inl ⟨rfl, HX0.out⟩⟩⟩
      case rest =>
        obtain ⟨at_, rfl, hcut2⟩ := hcut
        obtain ⟨x, hx, hcb, hbF, hat⟩ := hcut2.out
        obtain ⟨wF, rfl⟩ : ∃ wF, wF = wc := ⟨_, rfl⟩
        have T3 := Lib.hid (TT.out.below hbF)
        have HX := Lib.hid hx
        have HCF := Lib.hid hcb
        have HBF := Lib.hid hbF
        have HAT := Lib.hid hat
        have HLT := Lib.hid TT.out.lts
        have HKS : Hid (∀ k, (k = p ∨ sv.ownBlock = some k) → k < wr.heap.size) := Lib.hid (fun k e => by rcases e with rfl | e; exact HLT.out.1; exact HLT.out.2.1 k e)
        have y0 : wF.cell? ⟨wr.heap.size, 0, none⟩ = some (.int .i64 dd.act) := hcb.cell 0 _ rfl
        have HY3 : Hid (wF.cell? ⟨wr.heap.size, 3, none⟩ = some (.bool dd.keep)) := Lib.hid (hcb.cell 3 _ rfl)
        clear hcut2 hx hcb hbF hat z4 hrowT hbE HRT HBE HCB
        go_upto_region 17 with fail
        go_cut [13] from 31 to 211 (fun x13 wx => x13 = .slice none 0 0 ∧ wx = wF)
        case first =>
          as_aux_lemma =>
            go_wp2_with fail
            go_meet
            exact ⟨rfl, rfl⟩
        obtain ⟨rfl, rfl⟩ := hcut
        obtain ⟨wF, rfl⟩ : ∃ wF, wF = wc := ⟨_, rfl⟩
        refine step_k (by assumption) ?_
        refine wp_seq_k (fun Ks hKs => ?_)
        go_cut [5, 6, 7, 8, 13, 14, 15, 16] from 31 to 211 (fun x5 x6 x7 x8 x13 x14 x15 x16 wx => ∃ (c3 : Cd) (sv3 : Value) (ta3 ha3 ya3 fa3 : Option Addr) (tc3 hc3 yc3 fc3 : Nat) (xs3 : List Txn) (hs3 : List (List Int)) (ys3 : List St4) (fs3 : List Int) (ra : Option Addr) (rc : Nat) (rl : List UInt8), x5 = .slice ta3 xs3.length tc3 ∧ x6 = .slice ha3 hs3.length hc3 ∧ x7 = .slice ya3 ys3.length yc3 ∧ x8 = .slice fa3 fs3.length fc3 ∧ x13 = .slice ra rl.length rc ∧ xs3.length ≤ ii + 1 ∧ rl.length ≤ 100 ∧ Hid (Ag w wx p c3 sv3 (.slice ta3 xs3.length tc3) (.slice ha3 hs3.length hc3) (.slice ya3 ys3.length yc3) (.slice fa3 fs3.length fc3) xs3 hs3 ys3 fs3) ∧ Hid (AgP c3 xs3 hs3 ys3 fs3) ∧ Hid (Byz wx (.slice ra rl.length rc) rl) ∧ Hid (rl ≠ [] → AgP (c3.redo rl).2 xs3 hs3 ys3 fs3) ∧ wx.cell? ⟨wr.heap.size, 3, none⟩ = some (.bool dd.keep))
        case first =>
          as_aux_lemma =>
            by_cases a0 : dd.act = 0
            · as_aux_lemma =>
                rw [a0] at y0
                have HBT := Lib.hid (boot_any _ _ _ c sv T3.out.nd PP.out.a.wf.lf.1)
                go_wp2_with fail
                refine HBT.out.mono ?_
                rintro e w4 (⟨hbad, rfl, rfl⟩ | ⟨hlt, ra, rk, rfl, hrow, hb4⟩)
                · go_wp2_with fail
                  go_meet
                  exact ⟨c, sv, ta, ha, ya, fa, tc, hc, yc, fc, xs, hs, ys, fs, none, 0, [], rfl, rfl, rfl, rfl, rfl, by have := HLB.out.1; omega, by simp, T3, PP, Lib.hid (RcK.nil 0 _).1, Lib.hid (fun h => absurd rfl h), HY3.out⟩
                · have T4 := Lib.hid (T3.out.below hb4)
                  have R4 : Hid (Byz w4 (.slice ra 5 rk) (1 :: num4 (c.life.toNat + 1))) := Lib.hid hrow.1.z
                  have K4 := Lib.hid (cell_fr HY3.out (Fr.of_below (fun _ => False) hb4) (fun _ h => h.elim))
                  clear hrow hb4 hlt
                  go_wp2_with fail
                  go_meet
                  exact ⟨c, sv, ta, ha, ya, fa, tc, hc, yc, fc, xs, hs, ys, fs, ra, rk, 1 :: num4 (c.life.toNat + 1), rfl, rfl, rfl, rfl, rfl, by have := HLB.out.1; omega, by simp [num4_len], T4, PP, R4, Lib.hid (fun _ => PP.out.redo3 _ (by rw [numV_one]; decide)), K4.out⟩
            by_cases a1 : dd.act = 1
            · as_aux_lemma =>
                rw [a1] at y0
                have y1 : wF.cell? ⟨wr.heap.size, 1, none⟩ = some (.slice ca dd.shards.length cc) := HCF.out.cell 1 _ rfl
                have hbg := begin_any w.heap.size p wF c sv _ dd.shards T3.out.nd HCF.out.s T3.out.ex.size (by have := PP.out.a.wf.len; omega) HCA.out.sl (by have := PP.out.a.wf.nx; omega)
                unfold BegR txV at hbg
                have hgv := fun h => PP.out.given (l := dd.shards) h
                have hno := fun h => begin_no (c := c) (l := dd.shards) h
                have hln := fun h => setE_len (begin_ok (c := c) (l := dd.shards) h).1
                obtain ⟨xn, hxn⟩ : ∃ xn, (c.begin dd.shards).1.1 = xn := ⟨_, rfl⟩
                obtain ⟨er, her⟩ : ∃ er, (c.begin dd.shards).1.2 = er := ⟨_, rfl⟩
                obtain ⟨cn, hcn⟩ : ∃ cn, (c.begin dd.shards).2 = cn := ⟨_, rfl⟩
                rw [hxn, her, hcn] at hbg
                rw [her, hxn, hcn] at hgv
                rw [her, hcn] at hno
                rw [her] at hln
                have HBG := Lib.hid hbg
                have HGV := Lib.hid hgv
                have HNO := Lib.hid hno
                have HLN := Lib.hid hln
                clear hbg hgv hno hln hxn her hcn
                go_wp2_with fail
                refine HBG.out.mono ?_
                rintro e w5 ⟨rfl, sv5, hc5, hf5, hn5⟩
                have t5 := T3.out.op' hc5 hf5 hn5
                have k1 := cell_fr y1 hf5 HKS.out
                have k3 := cell_fr HY3.out hf5 HKS.out
                obtain ⟨w6, hW6⟩ : ∃ w6, w5.alloc (.cells #[.int .i64 xn.node, .int .i64 xn.boot, .int .i64 xn.n] 33) = w6 := ⟨_, rfl⟩
                have hb6 : Below w5.heap.size w5 w6 := by rw [← hW6]; exact (Below.refl _ w5).alloc (Nat.le_refl _) _
                have hr6 : w6.heap[w5.heap.size]? = some (.cells #[.int .i64 xn.node, .int .i64 xn.boot, .int .i64 xn.n] 33 (0, 0)) := by rw [← hW6]; exact heap_alloc_new w5 _
                have g1 := cell_fr k1 (Fr.of_below (fun _ => False) hb6) (fun _ h => h.elim)
                have g3 := cell_fr k3 (Fr.of_below (fun _ => False) hb6) (fun _ h => h.elim)
                have T6 := Lib.hid (t5.below hb6)
                have HR6 := Lib.hid hr6
                have HW6 := Lib.hid hW6
                have HG := Lib.hid (And.intro g1 g3)
                clear hc5 hf5 hn5 t5 hW6 hb6 hr6 k1 k3 g1 g3 y0 y1 HBG T3
                go_upto_region 23 with fail
                rw [HW6.out]
                by_cases her : er = 0
                · subst her
                  have HPL := Lib.hid (HGV.out rfl)
                  obtain ⟨hne, hl4⟩ := HLN.out rfl
                  have hxl := HLB.out.1
                  have h120 := HLB.out.2.2
                  obtain ⟨ta7, tc7, w7, hap7, t7, hf7⟩ := T6.out.give xn (by omega)
                  have i7 := HCA.out.s.below t7.ex
                  have k1 := cell_fr HG.out.1 hf7 (fun g hg => HLT.out.2.2.1 g hg)
                  have k3 := cell_fr HG.out.2 hf7 (fun g hg => HLT.out.2.2.1 g hg)
                  have k1a : (w7.alloc (.cells #[] 3)).cell? ⟨wr.heap.size, 1, none⟩ = some (.slice ca dd.shards.length cc) := cell_fr k1 (Fr.of_below (fun _ => False) ((Below.refl _ w7).alloc (Nat.le_refl _) _)) (fun _ h => h.elim)
                  obtain ⟨a8, c8, w8, hap8, i8, hb8, ho8⟩ := appS i7 hne (by omega)
                  have g3 := cell_fr k3 (Fr.of_below (fun _ => False) hb8) (fun _ h => h.elim)
                  obtain ⟨ha9, hc9, w9, hap9, t9, hf9⟩ := Ag.giveH hb8 t7 i8 ho8 (by have := PP.out.a.ln.1; omega)
                  have k9 := cell_fr g3 hf9 (fun g hg => HLT.out.2.2.2.1 g hg)
                  obtain ⟨ya10, yc10, w10, hap10, t10, hf10⟩ := t9.giveY (by have := PP.out.a.ln.2; omega)
                  have k10 := cell_fr k9 hf10 (fun g hg => HLT.out.2.2.2.2.1 g hg)
                  obtain ⟨fa11, fc11, w11, hap11, t11, hf11⟩ := t10.giveF (by have := PP.out.fl; omega)
                  have k11 := cell_fr k10 hf11 (fun g hg => HLT.out.2.2.2.2.2 g hg)
                  have b0 : w6.cell? ⟨w5.heap.size, 0, none⟩ = some (.int .i64 xn.node) := cell_of_row _ _ _ _ _ _ HR6.out
                  have b1 : w6.cell? ⟨w5.heap.size, 1, none⟩ = some (.int .i64 xn.boot) := cell_of_row _ _ _ _ _ _ HR6.out
                  have b2 : w6.cell? ⟨w5.heap.size, 2, none⟩ = some (.int .i64 xn.n) := cell_of_row _ _ _ _ _ _ HR6.out
                  have A7 := Lib.hid hap7
                  have A8 := Lib.hid hap8
                  have A9 := Lib.hid hap9
                  have A10 := Lib.hid hap10
                  have A11 := Lib.hid hap11
                  have T11 := Lib.hid t11
                  have K11 := Lib.hid k11
                  clear hap7 hap8 hap9 hap10 hap11 t7 t9 t10 t11 i7 i8 hf7 hf9 hf10 hf11 hb8 ho8 k3 g3 k9 k10 k11 hne hl4 hxl h120
                  go_wp2_with (first
                    | (at_builtin; refine wpList_append_run _ rfl _ _ 27 27 rfl _ _ rfl rfl _ w7 A7.out ?_)
                    | (at_builtin; refine wpList_append_run _ rfl _ _ 31 31 rfl _ _ rfl rfl _ w8 A8.out ?_)
                    | (at_builtin; refine wpList_append_run _ rfl _ _ 28 28 rfl _ _ rfl rfl _ w9 A9.out ?_)
                    | (at_builtin; refine wpList_append_run _ rfl _ _ 29 29 rfl _ _ rfl rfl _ w10 A10.out ?_)
                    | (at_builtin; refine wpList_append_run _ rfl _ _ 30 30 rfl _ _ rfl rfl _ w11 A11.out ?_))
                  go_wp2_with fail
                  go_meet
                  exact ⟨cn, sv5, ta7, ha9, ya10, fa11, tc7, hc9, yc10, fc11, xs ++ [xn], hs ++ [dd.shards], ys ++ [St4.none], fs ++ [(0 : Int)], none, 0, [], by simp, by simp, by simp, by simp, rfl, by have := HLB.out.1; simp; omega, by simp, T11, HPL, Lib.hid (RcK.nil 0 _).1, Lib.hid (fun h => absurd rfl h), K11.out⟩
                · have HCN := Lib.hid (HNO.out her)
                  go_wp2_with fail
                  go_meet
                  exact ⟨cn, sv5, ta, ha, ya, fa, tc, hc, yc, fc, xs, hs, ys, fs, none, 0, [], rfl, rfl, rfl, rfl, rfl, by have := HLB.out.1; omega, by simp, T6, Lib.hid (by rw [HCN.out]; exact PP.out), Lib.hid (RcK.nil 0 _).1, Lib.hid (fun h => absurd rfl h), HG.out.2⟩
            by_cases a2 : dd.act = 2
            · as_aux_lemma =>
                rw [a2] at y0
                have y2 : wF.cell? ⟨wr.heap.size, 2, none⟩ = some (.int .i64 dd.shard) := HCF.out.cell 2 _ rfl
                obtain ⟨x0, x1, x2, -⟩ := id HX.out
                have hvt := vote_any w.heap.size p wF c sv x dd.shard true T3.out.nd T3.out.ex.size (by have := PP.out.a.wf.len; omega) PP.out.a.wf.rg
                unfold txV at hvt
                obtain ⟨er, her⟩ : ∃ er, (c.vote x dd.shard true).2.1 = er := ⟨_, rfl⟩
                rw [her] at hvt
                have HVT := Lib.hid hvt
                have HER := Lib.hid her
                clear hvt her
                go_wp2_with fail
                refine HVT.out.mono ?_
                rintro e w5 hs'
                have hk5 := say_fr hs'
                obtain ⟨sv5, ra, rc, rl, rfl, t5, r5, hrl⟩ := T3.out.say hs'
                have k0 := cell_fr y0 hk5 HKS.out
                have k2 := cell_fr y2 hk5 HKS.out
                have k3 := cell_fr HY3.out hk5 HKS.out
                have T5 := Lib.hid t5
                have R5 := Lib.hid r5
                have HRL := Lib.hid hrl
                have K3 := Lib.hid k3
                have K2 := Lib.hid k2
                clear hs' hk5 t5 r5 hrl y0 y2 x0 x1 x2 k3 k2 HVT
                by_cases h0 : er = 0
                · subst h0
                  rcases HAT.out with ⟨_, hxs⟩ | ⟨k, rfl, hxk⟩
                  · exact absurd HER.out (by have := PP.out; rw [hxs] at this; exact this.alone x dd.shard)
                  · have hkl := (List.getElem?_eq_some_iff.1 hxk).1
                    have hky : k < ys.length := by have := PP.out.a.ln.2; omega
                    obtain ⟨y, hy⟩ : ∃ y, ys[k]? = some y := ⟨ys[k], List.getElem?_eq_getElem hky⟩
                    obtain ⟨hrg, hA, hR⟩ := PP.out.aye hxk hy HER.out
                    obtain ⟨sn, hsn⟩ : ∃ sn : Nat, dd.shard = (sn : Int) := ⟨dd.shard.toNat, by omega⟩
                    have k2 := K2.out
                    rw [hsn] at k2
                    have t5d := T5.out.below ((Below.refl w5.heap.size w5).drew)
                    obtain ⟨gy, cy, hey, hgy, hcy, hfy, t6, hf6⟩ := t5d.setY (i := sn) hy (by omega)
                    rw [← hsn] at t6
                    injection hey with hy1 _ hy3
                    subst hy1
                    subst hy3
                    obtain ⟨uy, huy⟩ := Option.isSome_iff_exists.1 hcy
                    have hgl : gy < wr.heap.size := HLT.out.2.2.2.2.1 gy rfl
                    have R6 : Hid (Byz _ (.slice ra rl.length rc) rl) := Lib.hid (R5.out.1.kept hf6.size (fun g hg hne => hf6.block g (R5.out.1.lt g hg hne) (fun e => by have h7 := R5.out.2 g hg hne; have h8 := HBF.out.size; omega)))
                    have K6 := Lib.hid (cell_fr (W := w5.drew) (u := .bool dd.keep) (D := wr.heap.size) (j := 3) K3.out hf6 (fun g hg => by rw [hg]; exact hgl))
                    have T6 := Lib.hid t6
                    have HA := Lib.hid hA
                    have HR := Lib.hid hR
                    have HLR : Hid (rl.length ≤ 100) := Lib.hid (by
                      have h9 := HRL.out
                      cases hv : (c.vote x dd.shard true).1 with
                      | none => rw [hv] at h9; rw [h9]; simp
                      | some m =>
                        rw [hv] at h9
                        obtain ⟨j, t, _, _, _, _, hd⟩ := vote_aye HER.out
                        rw [show rl = m from h9, (hd m hv).1]; exact doneL_len _ _ _)
                    have qk0 : (0 : Int) ≤ (k : Int) := by omega
                    have qky : (k : Int) < (ys.length : Int) := by omega
                    have qs0 : (0 : Int) ≤ (sn : Int) := by omega
                    have qs4 : (sn : Int) < 4 := by omega
                    have k2d : w5.drew.cell? ⟨wr.heap.size, 2, none⟩ = some (.int .i64 (sn : Int)) := k2
                    have HSN := Lib.hid hsn
                    clear hcy hxk hkl hky hy hrg hA hR hsn t5d t6 hf6 hgy hgl
                    go_upto_region 33 with fail
                    go_region
                    all_goals
                      go_wp2_with fail
                      go_meet
                      exact ⟨_, sv5, ta, ha, some ⟨gy, 0, none⟩, fa, tc, hc, yc, fc, xs, hs, ys.set k (y.put dd.shard), fs, ra, rc, rl, rfl, rfl, by rw [List.length_set], rfl, rfl, by have := HLB.out.1; omega, HLR.out, Lib.hid (by rw [List.length_set]; exact T6.out), HA, Lib.hid R6.out, Lib.hid (fun hne => HR.out rl (rec_getD HRL.out hne)), K6.out⟩
                · have hvn := vote_not (c := c) (x := x) (i := dd.shard) (by rw [HER.out]; exact h0)
                  have hnil := getD_nil HRL.out hvn.2
                  subst hnil
                  have HM := Lib.hid (PP.out.mute (x := x) (i := dd.shard) (by rw [HER.out]; exact h0))
                  have hb0 : (er == 0) = false := by simp [h0]
                  clear hvn
                  go_wp2_with fail
                  go_meet
                  exact ⟨_, sv5, ta, ha, ya, fa, tc, hc, yc, fc, xs, hs, ys, fs, ra, rc, [], rfl, rfl, rfl, rfl, rfl, by have := HLB.out.1; omega, by simp, T5, HM, Lib.hid R5.out.1, Lib.hid (fun h => absurd rfl h), K3.out⟩
            by_cases a3 : dd.act = 3
            · as_aux_lemma =>
                rw [a3] at y0
                have y2 : wF.cell? ⟨wr.heap.size, 2, none⟩ = some (.int .i64 dd.shard) := HCF.out.cell 2 _ rfl
                obtain ⟨x0, x1, x2, -⟩ := id HX.out
                have hvt := vote_any w.heap.size p wF c sv x dd.shard false T3.out.nd T3.out.ex.size (by have := PP.out.a.wf.len; omega) PP.out.a.wf.rg
                unfold txV at hvt
                obtain ⟨er, her⟩ : ∃ er, (c.vote x dd.shard false).2.1 = er := ⟨_, rfl⟩
                rw [her] at hvt
                have HVT := Lib.hid hvt
                clear hvt her
                go_wp2_with fail
                refine HVT.out.mono ?_
                rintro e w5 hs'
                have hk5 := say_fr hs'
                obtain ⟨sv5, ra, rc, rl, rfl, t5, r5, hrl⟩ := T3.out.say hs'
                have hnil := getD_nil hrl vote_nay.2
                subst hnil
                have k0 := cell_fr y0 hk5 HKS.out
                have K3 := Lib.hid (cell_fr HY3.out hk5 HKS.out)
                have T5 := Lib.hid t5
                have R5 := Lib.hid r5
                have HM := Lib.hid (PP.out.nay x dd.shard)
                clear hs' hk5 t5 r5 hrl y0 y2 x0 x1 x2 HVT
                by_cases h0 : er = 0
                · subst h0
                  go_wp2_with fail
                  go_meet
                  exact ⟨_, sv5, ta, ha, ya, fa, tc, hc, yc, fc, xs, hs, ys, fs, ra, rc, [], rfl, rfl, rfl, rfl, rfl, by have := HLB.out.1; omega, by simp, T5, HM, Lib.hid R5.out.1, Lib.hid (fun h => absurd rfl h), K3.out⟩
                · have hb0 : (er == 0) = false := by simp [h0]
                  go_wp2_with fail
                  go_meet
                  exact ⟨_, sv5, ta, ha, ya, fa, tc, hc, yc, fc, xs, hs, ys, fs, ra, rc, [], rfl, rfl, rfl, rfl, rfl, by have := HLB.out.1; omega, by simp, T5, HM, Lib.hid R5.out.1, Lib.hid (fun h => absurd rfl h), K3.out⟩
            by_cases a4 : dd.act = 4
            · as_aux_lemma =>
                rw [a4] at y0
                obtain ⟨x0, x1, x2, -⟩ := id HX.out
                have hvt := drop_any w.heap.size p wF c sv x T3.out.nd (by have := PP.out.a.wf.len; omega)
                unfold txV at hvt
                have HVT := Lib.hid hvt
                clear hvt
                go_wp2_with fail
                refine HVT.out.mono ?_
                rintro e w5 ⟨rfl, sv5, hc5, hf5, hn5⟩
                have T5 := Lib.hid (T3.out.op' hc5 hf5 hn5)
                have K3 := Lib.hid (cell_fr HY3.out hf5 HKS.out)
                have HM := Lib.hid (PP.out.drop x)
                clear hc5 hf5 hn5 y0 x0 x1 x2 HVT
                go_wp2_with fail
                go_meet
                exact ⟨_, sv5, ta, ha, ya, fa, tc, hc, yc, fc, xs, hs, ys, fs, none, 0, [], rfl, rfl, rfl, rfl, rfl, by have := HLB.out.1; omega, by simp, T5, HM, Lib.hid (RcK.nil 0 _).1, Lib.hid (fun h => absurd rfl h), K3.out⟩
            by_cases a5 : dd.act = 5
            · as_aux_lemma =>
                rw [a5] at y0
                have y2 : wF.cell? ⟨wr.heap.size, 2, none⟩ = some (.int .i64 dd.shard) := HCF.out.cell 2 _ rfl
                obtain ⟨x0, x1, x2, -⟩ := id HX.out
                have hvt := ack_any w.heap.size p wF c sv x dd.shard T3.out.nd T3.out.ex.size (by have := PP.out.a.wf.len; omega) PP.out.a.wf.rg
                unfold txV at hvt
                have HVT := Lib.hid hvt
                clear hvt
                go_wp2_with fail
                refine HVT.out.mono ?_
                rintro e w5 hs'
                have hk5 := say_fr hs'
                obtain ⟨sv5, ra, rc, rl, rfl, t5, r5, hrl⟩ := T3.out.say hs'
                have K3 := Lib.hid (cell_fr HY3.out hk5 HKS.out)
                have T5 := Lib.hid t5
                have R5 := Lib.hid r5
                have HRL := Lib.hid hrl
                have HM := Lib.hid (PP.out.ack x dd.shard)
                have HLR : Hid (rl.length ≤ 100) := Lib.hid (by
                  have h9 := HRL.out
                  cases hv : (c.ack x dd.shard).1 with
                  | none => rw [hv] at h9; rw [h9]; simp
                  | some m => rw [hv] at h9; rw [show rl = m from h9]; exact ack_len hv)
                clear hs' hk5 t5 r5 hrl y0 y2 x0 x1 x2 HVT
                go_wp2_with fail
                go_meet
                exact ⟨_, sv5, ta, ha, ya, fa, tc, hc, yc, fc, xs, hs, ys, fs, ra, rc, rl, rfl, rfl, rfl, rfl, rfl, by have := HLB.out.1; omega, HLR.out, T5, HM, Lib.hid R5.out.1, Lib.hid (fun hne => HM.out.redo3 rl (by rw [ack_rec (rec_getD HRL.out hne)]; decide)), K3.out⟩
            as_aux_lemma =>
              go_wp2_with fail
              go_meet
              exact ⟨c, sv, ta, ha, ya, fa, tc, hc, yc, fc, xs, hs, ys, fs, none, 0, [], rfl, rfl, rfl, rfl, rfl, by have := HLB.out.1; omega, by simp, T3, PP, Lib.hid (RcK.nil 0 _).1, Lib.hid (fun h => absurd rfl h), HY3.out⟩
        case rest =>
          obtain ⟨c3, sv3, ta3, ha3, ya3, fa3, tc3, hc3, yc3, fc3, xs3, hs3, ys3, fs3, ra, rc, rl, rfl, rfl, rfl, rfl, rfl, hx3, hrl, T4, P4, R4, L4, y3⟩ := hcut
          obtain ⟨wG, rfl⟩ : ∃ wG, wG = wc := ⟨_, rfl⟩
          have HX3 := Lib.hid hx3
          have HRL := Lib.hid hrl
          clear y0 hx3 hrl HY3
          go_upto_region 38 with fail
          go_cut [150] from 31 to 211 (fun x150 wx => ∃ b : Bool, x150 = .bool b ∧ (b = true → rl ≠ []) ∧ wx = wG)
          case first =>
            as_aux_lemma =>
              by_cases hr0 : rl = []
              · subst hr0
                go_wp2_with fail
                go_meet
                exact ⟨false, rfl, (fun h => by cases h), rfl⟩
              · have q0 : (0 : Int) < (rl.length : Int) := by have := List.length_pos_iff.2 hr0; omega
                have HR0 := Lib.hid hr0
                clear hr0
                go_wp2_with fail
                go_meet
                exact ⟨dd.keep, rfl, fun _ => HR0.out, rfl⟩
          case rest =>
            obtain ⟨b, rfl, hb, rfl⟩ := hcut
            obtain ⟨wG, rfl⟩ : ∃ wG, wG = wc := ⟨_, rfl⟩
            have HB := Lib.hid hb
            clear hb y3
            go_upto_if 150 with fail
            go_cut [] from 31 to 211 (fun wx => Hid (∃ c4 sv4, Ag w wx p c4 sv4 (.slice ta3 xs3.length tc3) (.slice ha3 hs3.length hc3) (.slice ya3 ys3.length yc3) (.slice fa3 fs3.length fc3) xs3 hs3 ys3 fs3 ∧ AgP c4 xs3 hs3 ys3 fs3))
            case first =>
              as_aux_lemma =>
                cases b with
                | false =>
                  go_wp2_with fail
                  go_meet
                  exact Lib.hid ⟨c3, sv3, T4.out, P4.out⟩
                | true =>
                  have hrd := redo_any w.heap.size p wG c3 sv3 (.slice ra rl.length rc) rl T4.out.nd R4.out T4.out.ex.size (by have := P4.out.a.wf.len; omega) (by have := HRL.out; omega)
                  have HRD := Lib.hid hrd
                  clear hrd
                  go_wp2_with fail
                  refine HRD.out.mono ?_
                  rintro e w8 ⟨rfl, ho⟩
                  obtain ⟨sv8, t8⟩ := T4.out.op ho
                  have T8 := Lib.hid t8
                  clear ho t8 HRD
                  go_wp2_with fail
                  go_meet
                  exact Lib.hid ⟨_, sv8, T8.out, L4.out (HB.out trivial)⟩
            case rest =>
              obtain ⟨c4, sv4, t5, p5⟩ := hcut.out
              obtain ⟨wH, rfl⟩ : ∃ wH, wH = wc := ⟨_, rfl⟩
              have T5 := Lib.hid t5
              have P5 := Lib.hid p5
              clear hcut t5 p5 T4 P4 R4 L4 HB
              go_wp2_with fail
              go_loopw [17, 18, 19, 20] (fun k _ _ _ wx => ∃ (kk : Nat) (fs' : List Int), k = .int .i64 (kk : Int) ∧ kk ≤ xs3.length ∧ Hid (Ag w wx p c4 sv4 (.slice ta3 xs3.length tc3) (.slice ha3 hs3.length hc3) (.slice ya3 ys3.length yc3) (.slice fa3 fs3.length fc3) xs3 hs3 ys3 fs') ∧ Hid (AgP c4 xs3 hs3 ys3 fs')) (fun k _ _ _ _ => xs3.length - (intOf k).toNat)
              case atStart => exact ⟨0, fs3, rfl, Nat.zero_le _, T5, P5⟩
              case round =>
                obtain ⟨kk, fs', rfl, hkx, TK, PK⟩ := hrel
                have HFL := Lib.hid (show fs'.length = fs3.length from PK.out.fl.trans P5.out.fl.symm)
                by_cases hk : kk < xs3.length
                case neg =>
                  have qk : ¬ (kk : Int) < (xs3.length : Int) := by omega
                  have qii : IntKind.i64.wrap ((ii : Int) + 1) = ((ii + 1 : Nat) : Int) := by rw [IntWalk.i64_in _ (by omega)]; omega
                  go_wp2
                  go_roundw
                  case rel => exact ⟨ii + 1, c4, sv4, ta3, ha3, ya3, fa3, tc3, hc3, yc3, fc3, xs3, hs3, ys3, fs', rfl, rfl, rfl, (by rw [HFL.out]), by go_num, by omega, by omega, HX3.out, Lib.hid (by rw [HFL.out]; exact TK.out), PK⟩
                  case measure => simp [intOf]; omega
                case pos =>
                  as_aux_lemma =>
                    have qk : (kk : Int) < (xs3.length : Int) := by omega
                    have qkh : (kk : Int) < (hs3.length : Int) := by have := PK.out.a.ln.1; omega
                    have qky : (kk : Int) < (ys3.length : Int) := by have := PK.out.a.ln.2; omega
                    have qkf : (kk : Int) < (fs3.length : Int) := by have := P5.out.fl; omega
                    have qkk : IntKind.i64.wrap ((kk : Int) + 1) = ((kk + 1 : Nat) : Int) := by rw [IntWalk.i64_in _ (by have := HX3.out; omega)]; omega
                    obtain ⟨x, hx⟩ : ∃ x, xs3[kk]? = some x := ⟨xs3[kk], List.getElem?_eq_getElem hk⟩
                    obtain ⟨sl, hsl⟩ : ∃ sl, hs3[kk]? = some sl := ⟨hs3[kk], List.getElem?_eq_getElem (by omega)⟩
                    obtain ⟨y, hy⟩ : ∃ y, ys3[kk]? = some y := ⟨ys3[kk], List.getElem?_eq_getElem (by omega)⟩
                    obtain ⟨fk, hfk⟩ : ∃ fk, fs'[kk]? = some fk := ⟨fs'[kk]'(by rw [HFL.out]; omega), List.getElem?_eq_getElem _⟩
                    obtain ⟨gt, ct, het, hgt, -, hrt⟩ := TK.out.tx.at kk x hx
                    injection het with ht1 _ ht3
                    subst ht1; subst ht3
                    have t0 : wr.cell? ⟨gt, kk * 3, none⟩ = some (.int .i64 x.node) := hrt 0 _ rfl
                    have t1 : wr.cell? ⟨gt, kk * 3 + 1, none⟩ = some (.int .i64 x.boot) := hrt 1 _ rfl
                    have t2 : wr.cell? ⟨gt, kk * 3 + 2, none⟩ = some (.int .i64 x.n) := hrt 2 _ rfl
                    have hak := ask_any w.heap.size p wr c4 sv4 x TK.out.nd (by have := PK.out.a.wf.len; omega)
                    unfold txV at hak
                    have hok := fun h => PK.out.ok hx hsl hy hfk h
                    have hft := PK.out.fate hx
                    obtain ⟨f, hf⟩ : ∃ f, c4.ask x = f := ⟨_, rfl⟩
                    rw [hf] at hak hok hft
                    have HAK := Lib.hid hak
                    have HOK := Lib.hid hok
                    have HFT := Lib.hid hft
                    have HSL := Lib.hid hsl
                    have HY := Lib.hid hy
                    have HFK := Lib.hid hfk
                    clear hak hok hft hx hsl hy hfk hf hrt
                    go_wp2_with fail
                    refine HAK.out.mono ?_
                    rintro e w5 ⟨rfl, hb5⟩
                    have T6 := Lib.hid (TK.out.below hb5)
                    clear hb5 t0 t1 t2 TK HAK
                    go_wp2_with fail
                    go_loopw [19, 20] (fun al j wx => ∃ (jj : Nat), al = .bool ((sl.take jj).all y.has) ∧ j = .int .i64 (jj : Int) ∧ jj ≤ sl.length ∧ Hid (Below w5.heap.size w5 wx)) (fun _ j _ => sl.length - (intOf j).toNat)
                    case atStart => exact ⟨0, rfl, rfl, Nat.zero_le _, Lib.hid (Below.refl _ _)⟩
                    case round =>
                      obtain ⟨jj, rfl, rfl, hjl, HBJ⟩ := hrel
                      obtain ⟨gh, ch, uh, heh, -, hc0, hints⟩ := (T6.out.below HBJ.out).atH HSL.out
                      injection heh with hh1 _ hh3
                      subst hh1; subst hh3
                      obtain ⟨ua, uc, rfl, hui⟩ := hints
                      by_cases hj : jj < sl.length
                      · have qj : (jj : Int) < (sl.length : Int) := by omega
                        obtain ⟨s, hs⟩ : ∃ s, sl[jj]? = some s := ⟨sl[jj], List.getElem?_eq_getElem hj⟩
                        obtain ⟨gi, oi, rfl, -, hci⟩ := hui jj s hs
                        have hsr := PK.out.rng HSL.out s (List.mem_of_getElem? hs)
                        obtain ⟨sn, rfl⟩ : ∃ sn : Nat, s = (sn : Int) := ⟨s.toNat, by omega⟩
                        obtain ⟨gy, cy, hey, -, hcy⟩ := (T6.out.below HBJ.out).atY (i := sn) HY.out (by omega)
                        injection hey with hy1 _ hy3
                        subst hy1; subst hy3
                        have qs0 : (0 : Int) ≤ (sn : Int) := by omega
                        have qs4 : (sn : Int) < 4 := by omega
                        have htk : (sl.take (jj + 1)).all y.has = ((sl.take jj).all y.has && y.has (sn : Int)) := by
                          have hlt := (List.getElem?_eq_some_iff.1 hs).1
                          have hee := (List.getElem?_eq_some_iff.1 hs).2
                          rw [List.take_succ_eq_append_getElem hlt, List.all_append, hee]; simp
                        have HTK := Lib.hid htk
                        have qj0 : (0 : Int) ≤ (jj : Int) := by omega
                        have qk0 : (0 : Int) ≤ (kk : Int) := by omega
                        have qjj : IntKind.i64.wrap ((jj : Int) + 1) = ((jj + 1 : Nat) : Int) := by
                          have := (setE_len (PK.out.sv sl (List.mem_of_getElem? HSL.out))).2
                          rw [IntWalk.i64_in _ (by omega)]; omega
                        clear hui htk hs hsr
                        generalize (sl.take jj).all y.has = bp at HTK
                        generalize y.has (sn : Int) = bs at HTK hcy
                        cases bp with
                        | false =>
                          go_upto_region 48 with fail
                          go_quiet (fail)
                          go_wp2
                          go_roundw
                          case rel => exact ⟨jj + 1, (by rw [HTK.out]; rfl), by go_num, hj, Lib.hid (below_drewN HBJ.out _)⟩
                          case measure => simp [intOf]; omega
                        | true =>
                          go_upto_region 48 with fail
                          go_quiet (fail)
                          go_wp2
                          go_roundw
                          case rel => exact ⟨jj + 1, (by rw [HTK.out]; rfl), by go_num, hj, Lib.hid (below_drewN HBJ.out _)⟩
                          case measure => simp [intOf]; omega
                      · have qj : ¬ (jj : Int) < (sl.length : Int) := by omega
                        have hall : (sl.take jj).all y.has = sl.all y.has := by rw [List.take_of_length_le (by omega)]
                        rw [hall]
                        have T8 := Lib.hid (T6.out.below HBJ.out)
                        clear hui hall
                        obtain ⟨gf, cf, hef, -, hcf, hff, t9⟩ := T8.out.setF f HFK.out
                        have T9 := Lib.hid t9
                        clear t9
                        injection hef with hf1 hf2 hf3
                        subst hf1
                        subst hf3
                        clear hf2
                        by_cases h1 : f = 1
                        · subst h1
                          obtain ⟨ho1, ho2⟩ := HOK.out rfl
                          rw [ho1]
                          have hb2 : (fk == 2) = false := by simp [ho2]
                          clear ho1
                          by_cases h3 : fk = 1
                          · subst h3
                            go_wp2_with fail
                            go_roundw
                            case rel => exact ⟨kk + 1, fs', by go_num, hk, T8, PK⟩
                            case measure => simp [intOf]; omega
                          · have hb3 : (fk == 1) = false := by simp [h3]
                            go_wp2_with fail
                            go_roundw
                            case rel => exact ⟨kk + 1, fs'.set kk 1, by go_num, hk, T9, HFT⟩
                            case measure => simp [intOf]; omega
                        · have hb1 : (f == 1) = false := by simp [h1]
                          by_cases h3 : fk = 1
                          · subst h3
                            go_wp2_with fail
                            go_roundw
                            case rel => exact ⟨kk + 1, fs', by go_num, hk, T8, PK⟩
                            case measure => simp [intOf]; omega
                          · have hb3 : (fk == 1) = false := by simp [h3]
                            go_wp2_with fail
                            go_roundw
                            case rel => exact ⟨kk + 1, fs'.set kk f, by go_num, hk, T9, HFT⟩
                            case measure => simp [intOf]; omega
end Go.Proofs.Ytleghofpabdkhaa
