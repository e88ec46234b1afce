/- Deed: Same, SameAll of deeds that are the same. -/
import Derived.Test.YtjljbnilckkjnaaDoorG29
namespace Go.Proofs.YtjljbnilckkjnaaDoor
open Go Go.RowKit

set_option maxHeartbeats 8000000 in
set_option maxRecDepth 100000 in
theorem sameD_yes (d : Di) (pv qv : Value) (w : World) (hp : Byz w pv d.bytes) (hq : Byz w qv d.bytes) :
    Calls Tryd.prog 51 #[.agg #[.int .i64 d.act, .string d.user, .string d.box, .string d.dest, .int .i64 d.uid, .int .i64 d.how, .int .u8 (d.flags.toNat : Int), .int .i64 d.shard, .int .i64 d.epoch, pv], .agg #[.int .i64 d.act, .string d.user, .string d.box, .string d.dest, .int .i64 d.uid, .int .i64 d.how, .int .u8 (d.flags.toNat : Int), .int .i64 d.shard, .int .i64 d.epoch, qv]] w fun e w' => e = .returned (.bool true) ∧ Below w.heap.size w w' := by
  obtain ⟨pa, pc, rfl⟩ := hp.1
  obtain ⟨qa, qc, rfl⟩ := hq.1
  obtain ⟨W0, hW0⟩ : ∃ W0, W0 = (w.alloc (.cells #[.int .i64 d.act, .string d.user, .string d.box, .string d.dest, .int .i64 d.uid, .int .i64 d.how, .int .u8 (d.flags.toNat : Int), .int .i64 d.shard, .int .i64 d.epoch, .slice pa d.bytes.length pc] 28)).alloc (.cells #[.int .i64 d.act, .string d.user, .string d.box, .string d.dest, .int .i64 d.uid, .int .i64 d.how, .int .u8 (d.flags.toNat : Int), .int .i64 d.shard, .int .i64 d.epoch, .slice qa d.bytes.length qc] 28) := ⟨_, rfl⟩
  have hb : Below w.heap.size w W0 := by rw [hW0]; exact ((Below.refl _ w).alloc (Nat.le_refl _) _).alloc (by simp) _
  have r1 : W0.heap[w.heap.size]? = some (.cells #[.int .i64 d.act, .string d.user, .string d.box, .string d.dest, .int .i64 d.uid, .int .i64 d.how, .int .u8 (d.flags.toNat : Int), .int .i64 d.shard, .int .i64 d.epoch, .slice pa d.bytes.length pc] 28 (0, 0)) := by rw [hW0]; exact heap_alloc2_old w _ _
  have r2 : W0.heap[w.heap.size + 1]? = some (.cells #[.int .i64 d.act, .string d.user, .string d.box, .string d.dest, .int .i64 d.uid, .int .i64 d.how, .int .u8 (d.flags.toNat : Int), .int .i64 d.shard, .int .i64 d.epoch, .slice qa d.bytes.length qc] 28 (0, 0)) := by rw [hW0]; exact heap_alloc2_new w _ _
  have HC := fun j => cell_of_row W0 w.heap.size j _ _ _ r1
  have HD := fun j => cell_of_row W0 (w.heap.size + 1) j _ _ _ r2
  have c0 := HC 0
  have c1 := HC 1
  have c2 := HC 2
  have c3 := HC 3
  have c4 := HC 4
  have c5 := HC 5
  have c6 := HC 6
  have c7 := HC 7
  have c8 := HC 8
  have c9 := HC 9
  have d0 := HD 0
  have d1 := HD 1
  have d2 := HD 2
  have d3 := HD 3
  have d4 := HD 4
  have d5 := HD 5
  have d6 := HD 6
  have d7 := HD 7
  have d8 := HD 8
  have d9 := HD 9
  simp only [List.getElem?_toArray, List.getElem?_cons_zero, List.getElem?_cons_succ] at c0 c1 c2 c3 c4 c5 c6 c7 c8 c9 d0 d1 d2 d3 d4 d5 d6 d7 d8 d9
  have v1 := run_byz_string W0 _ _ 5 Tryd.underlying26 Tryd.underlying5 Tryd.underlying9 (hp.below hb)
  have v2 := run_byz_string W0 _ _ 5 Tryd.underlying26 Tryd.underlying5 Tryd.underlying9 (hq.below hb)
  have HB := Lib.hid hb
  have HW := Lib.hid (show (w.alloc (.cells #[.int .i64 d.act, .string d.user, .string d.box, .string d.dest, .int .i64 d.uid, .int .i64 d.how, .int .u8 (d.flags.toNat : Int), .int .i64 d.shard, .int .i64 d.epoch, .slice pa d.bytes.length pc] 28)).alloc (.cells #[.int .i64 d.act, .string d.user, .string d.box, .string d.dest, .int .i64 d.uid, .int .i64 d.how, .int .u8 (d.flags.toNat : Int), .int .i64 d.shard, .int .i64 d.epoch, .slice qa d.bytes.length qc] 28) = W0 from hW0.symm)
  clear hb r1 r2 hW0 HC HD hp hq
  go_enter Tryd.func51, Tryd.ntmps51
  go_wp2_with (first | rw [HW.out])
  go_ret
  exact ⟨ret_bool (by simp), HB.out⟩
set_option maxHeartbeats 8000000 in
set_option maxRecDepth 100000 in
theorem sameAll_yes (sv tv : Value) (ps qs : List (Di × Value)) (w : World) (hp : Deeds w sv ps) (hq : Deeds w tv qs) (he : ps.map (·.1) = qs.map (·.1)) (hlen : ps.length ≤ 9223372036854775807) :
    Calls Tryd.prog 24 #[sv, tv] w fun e w' => e = .returned (.bool true) ∧ Below w.heap.size w w' := by
  have hlq : qs.length = ps.length := by have := congrArg List.length he; simpa using this.symm
  obtain ⟨sa, sc, rfl⟩ := hp.shape
  obtain ⟨ta, tc, rfl⟩ := hq.shape
  have HP := Lib.hid hp
  have HQ := Lib.hid hq
  have HE := Lib.hid he
  have HLQ := Lib.hid hlq
  rw [hlq]
  clear hp hq he hlq
  go_enter Tryd.func24, Tryd.ntmps24
  go_wp2
  go_loopw [5] (fun i wr => ∃ k : Nat, k ≤ ps.length ∧ i = .int .i64 k ∧ Below w.heap.size w wr) (fun i _ => ps.length - (intOf i).toNat)
  case atStart => exact ⟨0, Nat.zero_le _, rfl, Below.refl _ _⟩
  case round =>
    obtain ⟨k, hk, rfl, hb⟩ := hrel
    have HBW := Lib.hid hb
    by_cases hlt : k < ps.length
    · have hpk := List.getElem?_eq_getElem hlt
      generalize ps[k] = p at hpk
      have hlt2 : k < qs.length := by rw [HLQ.out]; exact hlt
      have hqk := List.getElem?_eq_getElem hlt2
      generalize qs[k] = q at hqk
      have hpq : p.1 = q.1 := by
        have := congrArg (fun l => l[k]?) HE.out
        simp only [List.getElem?_map, hpk, hqk, Option.map_some, Option.some.injEq] at this
        exact this
      obtain ⟨d, pv⟩ := p
      obtain ⟨d', qv⟩ := q
      simp only at hpq
      subst hpq
      obtain ⟨g1, o1, c1, e1, hg1, hc1⟩ := HP.out.cells (fun e => by subst e; simp at hlt)
      obtain ⟨g2, o2, c2, e2, hg2, hc2⟩ := HQ.out.cells (fun e => by subst e; simp at hlt2)
      injection e1 with ea _ ec
      subst ea
      subst ec
      rw [HLQ.out] at e2
      injection e2 with ea _ ec
      subst ea
      subst ec
      have hr1 := hc1 k _ hpk
      have hr2 := hc2 k _ hqk
      have z1 := (HP.out.bytes _ (List.mem_of_getElem? hpk)).1
      have z2 := (HQ.out.bytes _ (List.mem_of_getElem? hqk)).1
      have hsz := hb.size
      have K1 : Hid (∀ W, Below wr.heap.size wr W → W.cell? ⟨g1, o1 + k * 10, none⟩ = some (.int .i64 d.act) ∧ W.cell? ⟨g1, o1 + k * 10 + 1, none⟩ = some (.string d.user) ∧ W.cell? ⟨g1, o1 + k * 10 + 2, none⟩ = some (.string d.box) ∧ W.cell? ⟨g1, o1 + k * 10 + 3, none⟩ = some (.string d.dest) ∧ W.cell? ⟨g1, o1 + k * 10 + 4, none⟩ = some (.int .i64 d.uid) ∧ W.cell? ⟨g1, o1 + k * 10 + 5, none⟩ = some (.int .i64 d.how) ∧ W.cell? ⟨g1, o1 + k * 10 + 6, none⟩ = some (.int .u8 (d.flags.toNat : Int)) ∧ W.cell? ⟨g1, o1 + k * 10 + 7, none⟩ = some (.int .i64 d.shard) ∧ W.cell? ⟨g1, o1 + k * 10 + 8, none⟩ = some (.int .i64 d.epoch) ∧ W.cell? ⟨g1, o1 + k * 10 + 9, none⟩ = some (pv)) := Lib.hid (fun W hW => by
        have h := rangeAt_below (rangeAt_below hr1 hb hg1) hW (by omega)
        exact ⟨h 0 _ rfl, h 1 _ rfl, h 2 _ rfl, h 3 _ rfl, h 4 _ rfl, h 5 _ rfl, h 6 _ rfl, h 7 _ rfl, h 8 _ rfl, h 9 _ rfl⟩)
      have K2 : Hid (∀ W, Below wr.heap.size wr W → W.cell? ⟨g2, o2 + k * 10, none⟩ = some (.int .i64 d.act) ∧ W.cell? ⟨g2, o2 + k * 10 + 1, none⟩ = some (.string d.user) ∧ W.cell? ⟨g2, o2 + k * 10 + 2, none⟩ = some (.string d.box) ∧ W.cell? ⟨g2, o2 + k * 10 + 3, none⟩ = some (.string d.dest) ∧ W.cell? ⟨g2, o2 + k * 10 + 4, none⟩ = some (.int .i64 d.uid) ∧ W.cell? ⟨g2, o2 + k * 10 + 5, none⟩ = some (.int .i64 d.how) ∧ W.cell? ⟨g2, o2 + k * 10 + 6, none⟩ = some (.int .u8 (d.flags.toNat : Int)) ∧ W.cell? ⟨g2, o2 + k * 10 + 7, none⟩ = some (.int .i64 d.shard) ∧ W.cell? ⟨g2, o2 + k * 10 + 8, none⟩ = some (.int .i64 d.epoch) ∧ W.cell? ⟨g2, o2 + k * 10 + 9, none⟩ = some (qv)) := Lib.hid (fun W hW => by
        have h := rangeAt_below (rangeAt_below hr2 hb hg2) hW (by omega)
        exact ⟨h 0 _ rfl, h 1 _ rfl, h 2 _ rfl, h 3 _ rfl, h 4 _ rfl, h 5 _ rfl, h 6 _ rfl, h 7 _ rfl, h 8 _ rfl, h 9 _ rfl⟩)
      have HC : Hid (∀ W, Below wr.heap.size wr W → Calls Tryd.prog 51 #[.agg #[.int .i64 d.act, .string d.user, .string d.box, .string d.dest, .int .i64 d.uid, .int .i64 d.how, .int .u8 (d.flags.toNat : Int), .int .i64 d.shard, .int .i64 d.epoch, pv], .agg #[.int .i64 d.act, .string d.user, .string d.box, .string d.dest, .int .i64 d.uid, .int .i64 d.how, .int .u8 (d.flags.toNat : Int), .int .i64 d.shard, .int .i64 d.epoch, qv]] W fun e w' => e = .returned (.bool true) ∧ Below wr.heap.size wr w') := Lib.hid (fun W hW =>
        bel_bring hW (sameD_yes d pv qv W ((z1.below hb).below hW) ((z2.below hb).below hW)))
      have hlt' : (k : Int) < (ps.length : Int) := by omega
      have hb0 : Below wr.heap.size wr wr := Below.refl _ _
      have hlt2' : k < ps.length := hlt
      clear hpk hqk hr1 hr2 hc1 hc2 z1 z2 hlt2 hg1 hg2 hb
      go_wp2_with fail
      go_region_held3 (fun wx => Below wr.heap.size wr wx ∧ (wx.cell? ⟨g1, o1 + k * 10, none⟩ = some (.int .i64 d.act) ∧ wx.cell? ⟨g1, o1 + k * 10 + 1, none⟩ = some (.string d.user) ∧ wx.cell? ⟨g1, o1 + k * 10 + 2, none⟩ = some (.string d.box) ∧ wx.cell? ⟨g1, o1 + k * 10 + 3, none⟩ = some (.string d.dest) ∧ wx.cell? ⟨g1, o1 + k * 10 + 4, none⟩ = some (.int .i64 d.uid) ∧ wx.cell? ⟨g1, o1 + k * 10 + 5, none⟩ = some (.int .i64 d.how) ∧ wx.cell? ⟨g1, o1 + k * 10 + 6, none⟩ = some (.int .u8 (d.flags.toNat : Int)) ∧ wx.cell? ⟨g1, o1 + k * 10 + 7, none⟩ = some (.int .i64 d.shard) ∧ wx.cell? ⟨g1, o1 + k * 10 + 8, none⟩ = some (.int .i64 d.epoch) ∧ wx.cell? ⟨g1, o1 + k * 10 + 9, none⟩ = some (pv)) ∧ wx.cell? ⟨g2, o2 + k * 10, none⟩ = some (.int .i64 d.act) ∧ wx.cell? ⟨g2, o2 + k * 10 + 1, none⟩ = some (.string d.user) ∧ wx.cell? ⟨g2, o2 + k * 10 + 2, none⟩ = some (.string d.box) ∧ wx.cell? ⟨g2, o2 + k * 10 + 3, none⟩ = some (.string d.dest) ∧ wx.cell? ⟨g2, o2 + k * 10 + 4, none⟩ = some (.int .i64 d.uid) ∧ wx.cell? ⟨g2, o2 + k * 10 + 5, none⟩ = some (.int .i64 d.how) ∧ wx.cell? ⟨g2, o2 + k * 10 + 6, none⟩ = some (.int .u8 (d.flags.toNat : Int)) ∧ wx.cell? ⟨g2, o2 + k * 10 + 7, none⟩ = some (.int .i64 d.shard) ∧ wx.cell? ⟨g2, o2 + k * 10 + 8, none⟩ = some (.int .i64 d.epoch) ∧ wx.cell? ⟨g2, o2 + k * 10 + 9, none⟩ = some (qv)) (first | exact ⟨hb0.drew, K1.out _ hb0.drew, K2.out _ hb0.drew⟩ | exact ⟨hb0, K1.out _ hb0, K2.out _ hb0⟩ | exact ⟨by assumption, K1.out _ (by assumption), K2.out _ (by assumption)⟩) (first | (go_at_call 51; ((with_reducible refine (HC.out _ (by first | assumption | exact hb0.drew)).mono ?_); rintro e wn ⟨rfl, hBn⟩)))
      all_goals
        have HBN := Lib.hid (HBW.out.trans ((by assumption : Below wr.heap.size wr _).mono HBW.out.size))
        clear K1 K2 hb0
        go_wp2
        go_roundw
        case rel => exact ⟨k + 1, by omega, by go_num, HBN.out⟩
        case measure => simp [intOf]; omega
    · have hlt' : ¬ (k : Int) < (ps.length : Int) := by omega
      clear hb
      go_wp2
      go_ret
      exact ⟨rfl, HBW.out⟩
end Go.Proofs.YtjljbnilckkjnaaDoor
