/- Deed: SameAll, Same of boxes, SameUser -/
import Derived.Test.YtjljbnilckkjnaaDoorG29
namespace Go.Proofs.YtjljbnilckkjnaaDoor
open Go Go.RowKit

set_option maxHeartbeats 8000000 in
set_option maxRecDepth 100000 in
theorem sameD_yes (d : Di) (pv qv : Value) (w : World) (hp : Byz w pv d.bytes) (hq : Byz w qv d.bytes) :
    Calls Tryd.prog 51 #[.agg #[.int .i64 d.act, .string d.user, .string d.box, .string d.dest, .int .i64 d.uid, .int .i64 d.how, .int .u8 (d.flags.toNat : Int), .int .i64 d.shard, .int .i64 d.epoch, pv], .agg #[.int .i64 d.act, .string d.user, .string d.box, .string d.dest, .int .i64 d.uid, .int .i64 d.how, .int .u8 (d.flags.toNat : Int), .int .i64 d.shard, .int .i64 d.epoch, qv]] w fun e w' => e = .returned (.bool true) ∧ Below w.heap.size w w' := by
  obtain ⟨pa, pc, rfl⟩ := hp.1
  obtain ⟨qa, qc, rfl⟩ := hq.1
  obtain ⟨W0, hW0⟩ : ∃ W0, W0 = (w.alloc (.cells #[.int .i64 d.act, .string d.user, .string d.box, .string d.dest, .int .i64 d.uid, .int .i64 d.how, .int .u8 (d.flags.toNat : Int), .int .i64 d.shard, .int .i64 d.epoch, .slice pa d.bytes.length pc] 28)).alloc (.cells #[.int .i64 d.act, .string d.user, .string d.box, .string d.dest, .int .i64 d.uid, .int .i64 d.how, .int .u8 (d.flags.toNat : Int), .int .i64 d.shard, .int .i64 d.epoch, .slice qa d.bytes.length qc] 28) := ⟨_, rfl⟩
  have hb : Below w.heap.size w W0 := by rw [hW0]; exact ((Below.refl _ w).alloc (Nat.le_refl _) _).alloc (by simp) _
  have r1 : W0.heap[w.heap.size]? = some (.cells #[.int .i64 d.act, .string d.user, .string d.box, .string d.dest, .int .i64 d.uid, .int .i64 d.how, .int .u8 (d.flags.toNat : Int), .int .i64 d.shard, .int .i64 d.epoch, .slice pa d.bytes.length pc] 28 (0, 0)) := by rw [hW0]; exact heap_alloc2_old w _ _
  have r2 : W0.heap[w.heap.size + 1]? = some (.cells #[.int .i64 d.act, .string d.user, .string d.box, .string d.dest, .int .i64 d.uid, .int .i64 d.how, .int .u8 (d.flags.toNat : Int), .int .i64 d.shard, .int .i64 d.epoch, .slice qa d.bytes.length qc] 28 (0, 0)) := by rw [hW0]; exact heap_alloc2_new w _ _
  have HC := fun j => cell_of_row W0 w.heap.size j _ _ _ r1
  have HD := fun j => cell_of_row W0 (w.heap.size + 1) j _ _ _ r2
  have c0 := HC 0
  have c1 := HC 1
  have c2 := HC 2
  have c3 := HC 3
  have c4 := HC 4
  have c5 := HC 5
  have c6 := HC 6
  have c7 := HC 7
  have c8 := HC 8
  have c9 := HC 9
  have d0 := HD 0
  have d1 := HD 1
  have d2 := HD 2
  have d3 := HD 3
  have d4 := HD 4
  have d5 := HD 5
  have d6 := HD 6
  have d7 := HD 7
  have d8 := HD 8
  have d9 := HD 9
  simp only [List.getElem?_toArray, List.getElem?_cons_zero, List.getElem?_cons_succ] at c0 c1 c2 c3 c4 c5 c6 c7 c8 c9 d0 d1 d2 d3 d4 d5 d6 d7 d8 d9
  have v1 := run_byz_string W0 _ _ 5 Tryd.underlying26 Tryd.underlying5 Tryd.underlying9 (hp.below hb)
  have v2 := run_byz_string W0 _ _ 5 Tryd.underlying26 Tryd.underlying5 Tryd.underlying9 (hq.below hb)
  have HB := Lib.hid hb
  have HW := Lib.hid (show (w.alloc (.cells #[.int .i64 d.act, .string d.user, .string d.box, .string d.dest, .int .i64 d.uid, .int .i64 d.how, .int .u8 (d.flags.toNat : Int), .int .i64 d.shard, .int .i64 d.epoch, .slice pa d.bytes.length pc] 28)).alloc (.cells #[.int .i64 d.act, .string d.user, .string d.box, .string d.dest, .int .i64 d.uid, .int .i64 d.how, .int .u8 (d.flags.toNat : Int), .int .i64 d.shard, .int .i64 d.epoch, .slice qa d.bytes.length qc] 28) = W0 from hW0.symm)
  clear hb r1 r2 hW0 HC HD hp hq
  go_enter Tryd.func51, Tryd.ntmps51
  go_wp2_with (first | rw [HW.out])
  go_ret
  exact ⟨ret_bool (by simp), HB.out⟩
set_option maxHeartbeats 8000000 in
set_option maxRecDepth 100000 in
theorem sameAll_yes (sv tv : Value) (ps qs : List (Di × Value)) (w : World) (hp : Deeds w sv ps) (hq : Deeds w tv qs) (he : ps.map (·.1) = qs.map (·.1)) (hlen : ps.length ≤ 9223372036854775807) :
    Calls Tryd.prog 24 #[sv, tv] w fun e w' => e = .returned (.bool true) ∧ Below w.heap.size w w' := by
  have hlq : qs.length = ps.length := by have := congrArg List.length he; simpa using this.symm
  obtain ⟨sa, sc, rfl⟩ := hp.shape
  obtain ⟨ta, tc, rfl⟩ := hq.shape
  have HP := Lib.hid hp
  have HQ := Lib.hid hq
  have HE := Lib.hid he
  have HLQ := Lib.hid hlq
  rw [hlq]
  clear hp hq he hlq
  go_enter Tryd.func24, Tryd.ntmps24
  go_wp2
  go_loopw [5] (fun i wr => ∃ k : Nat, k ≤ ps.length ∧ i = .int .i64 k ∧ Below w.heap.size w wr) (fun i _ => ps.length - (intOf i).toNat)
  case atStart => exact ⟨0, Nat.zero_le _, rfl, Below.refl _ _⟩
  case round =>
    obtain ⟨k, hk, rfl, hb⟩ := hrel
    have HBW := Lib.hid hb
    by_cases hlt : k < ps.length
    · have hpk := List.getElem?_eq_getElem hlt
      generalize ps[k] = p at hpk
      have hlt2 : k < qs.length := by rw [HLQ.out]; exact hlt
      have hqk := List.getElem?_eq_getElem hlt2
      generalize qs[k] = q at hqk
      have hpq : p.1 = q.1 := by
        have := congrArg (fun l => l[k]?) HE.out
        simp only [List.getElem?_map, hpk, hqk, Option.map_some, Option.some.injEq] at this
        exact this
      obtain ⟨d, pv⟩ := p
      obtain ⟨d', qv⟩ := q
      simp only at hpq
      subst hpq
      obtain ⟨g1, o1, c1, e1, hg1, hc1⟩ := HP.out.cells (fun e => by subst e; simp at hlt)
      obtain ⟨g2, o2, c2, e2, hg2, hc2⟩ := HQ.out.cells (fun e => by subst e; simp at hlt2)
      injection e1 with ea _ ec
      subst ea
      subst ec
      rw [HLQ.out] at e2
      injection e2 with ea _ ec
      subst ea
      subst ec
      have hr1 := hc1 k _ hpk
      have hr2 := hc2 k _ hqk
      have z1 := (HP.out.bytes _ (List.mem_of_getElem? hpk)).1
      have z2 := (HQ.out.bytes _ (List.mem_of_getElem? hqk)).1
      have hsz := hb.size
      have K1 : Hid (∀ W, Below wr.heap.size wr W → W.cell? ⟨g1, o1 + k * 10, none⟩ = some (.int .i64 d.act) ∧ W.cell? ⟨g1, o1 + k * 10 + 1, none⟩ = some (.string d.user) ∧ W.cell? ⟨g1, o1 + k * 10 + 2, none⟩ = some (.string d.box) ∧ W.cell? ⟨g1, o1 + k * 10 + 3, none⟩ = some (.string d.dest) ∧ W.cell? ⟨g1, o1 + k * 10 + 4, none⟩ = some (.int .i64 d.uid) ∧ W.cell? ⟨g1, o1 + k * 10 + 5, none⟩ = some (.int .i64 d.how) ∧ W.cell? ⟨g1, o1 + k * 10 + 6, none⟩ = some (.int .u8 (d.flags.toNat : Int)) ∧ W.cell? ⟨g1, o1 + k * 10 + 7, none⟩ = some (.int .i64 d.shard) ∧ W.cell? ⟨g1, o1 + k * 10 + 8, none⟩ = some (.int .i64 d.epoch) ∧ W.cell? ⟨g1, o1 + k * 10 + 9, none⟩ = some (pv)) := Lib.hid (fun W hW => by
        have h := rangeAt_below (rangeAt_below hr1 hb hg1) hW (by omega)
        exact ⟨h 0 _ rfl, h 1 _ rfl, h 2 _ rfl, h 3 _ rfl, h 4 _ rfl, h 5 _ rfl, h 6 _ rfl, h 7 _ rfl, h 8 _ rfl, h 9 _ rfl⟩)
      have K2 : Hid (∀ W, Below wr.heap.size wr W → W.cell? ⟨g2, o2 + k * 10, none⟩ = some (.int .i64 d.act) ∧ W.cell? ⟨g2, o2 + k * 10 + 1, none⟩ = some (.string d.user) ∧ W.cell? ⟨g2, o2 + k * 10 + 2, none⟩ = some (.string d.box) ∧ W.cell? ⟨g2, o2 + k * 10 + 3, none⟩ = some (.string d.dest) ∧ W.cell? ⟨g2, o2 + k * 10 + 4, none⟩ = some (.int .i64 d.uid) ∧ W.cell? ⟨g2, o2 + k * 10 + 5, none⟩ = some (.int .i64 d.how) ∧ W.cell? ⟨g2, o2 + k * 10 + 6, none⟩ = some (.int .u8 (d.flags.toNat : Int)) ∧ W.cell? ⟨g2, o2 + k * 10 + 7, none⟩ = some (.int .i64 d.shard) ∧ W.cell? ⟨g2, o2 + k * 10 + 8, none⟩ = some (.int .i64 d.epoch) ∧ W.cell? ⟨g2, o2 + k * 10 + 9, none⟩ = some (qv)) := Lib.hid (fun W hW => by
        have h := rangeAt_below (rangeAt_below hr2 hb hg2) hW (by omega)
        exact ⟨h 0 _ rfl, h 1 _ rfl, h 2 _ rfl, h 3 _ rfl, h 4 _ rfl, h 5 _ rfl, h 6 _ rfl, h 7 _ rfl, h 8 _ rfl, h 9 _ rfl⟩)
      have HC : Hid (∀ W, Below wr.heap.size wr W → Calls Tryd.prog 51 #[.agg #[.int .i64 d.act, .string d.user, .string d.box, .string d.dest, .int .i64 d.uid, .int .i64 d.how, .int .u8 (d.flags.toNat : Int), .int .i64 d.shard, .int .i64 d.epoch, pv], .agg #[.int .i64 d.act, .string d.user, .string d.box, .string d.dest, .int .i64 d.uid, .int .i64 d.how, .int .u8 (d.flags.toNat : Int), .int .i64 d.shard, .int .i64 d.epoch, qv]] W fun e w' => e = .returned (.bool true) ∧ Below wr.heap.size wr w') := Lib.hid (fun W hW =>
        bel_bring hW (sameD_yes d pv qv W ((z1.below hb).below hW) ((z2.below hb).below hW)))
      have hlt' : (k : Int) < (ps.length : Int) := by omega
      have hb0 : Below wr.heap.size wr wr := Below.refl _ _
      have hlt2' : k < ps.length := hlt
      clear hpk hqk hr1 hr2 hc1 hc2 z1 z2 hlt2 hg1 hg2 hb
      go_wp2_with fail
      go_region_held3 (fun wx => Below wr.heap.size wr wx ∧ (wx.cell? ⟨g1, o1 + k * 10, none⟩ = some (.int .i64 d.act) ∧ wx.cell? ⟨g1, o1 + k * 10 + 1, none⟩ = some (.string d.user) ∧ wx.cell? ⟨g1, o1 + k * 10 + 2, none⟩ = some (.string d.box) ∧ wx.cell? ⟨g1, o1 + k * 10 + 3, none⟩ = some (.string d.dest) ∧ wx.cell? ⟨g1, o1 + k * 10 + 4, none⟩ = some (.int .i64 d.uid) ∧ wx.cell? ⟨g1, o1 + k * 10 + 5, none⟩ = some (.int .i64 d.how) ∧ wx.cell? ⟨g1, o1 + k * 10 + 6, none⟩ = some (.int .u8 (d.flags.toNat : Int)) ∧ wx.cell? ⟨g1, o1 + k * 10 + 7, none⟩ = some (.int .i64 d.shard) ∧ wx.cell? ⟨g1, o1 + k * 10 + 8, none⟩ = some (.int .i64 d.epoch) ∧ wx.cell? ⟨g1, o1 + k * 10 + 9, none⟩ = some (pv)) ∧ wx.cell? ⟨g2, o2 + k * 10, none⟩ = some (.int .i64 d.act) ∧ wx.cell? ⟨g2, o2 + k * 10 + 1, none⟩ = some (.string d.user) ∧ wx.cell? ⟨g2, o2 + k * 10 + 2, none⟩ = some (.string d.box) ∧ wx.cell? ⟨g2, o2 + k * 10 + 3, none⟩ = some (.string d.dest) ∧ wx.cell? ⟨g2, o2 + k * 10 + 4, none⟩ = some (.int .i64 d.uid) ∧ wx.cell? ⟨g2, o2 + k * 10 + 5, none⟩ = some (.int .i64 d.how) ∧ wx.cell? ⟨g2, o2 + k * 10 + 6, none⟩ = some (.int .u8 (d.flags.toNat : Int)) ∧ wx.cell? ⟨g2, o2 + k * 10 + 7, none⟩ = some (.int .i64 d.shard) ∧ wx.cell? ⟨g2, o2 + k * 10 + 8, none⟩ = some (.int .i64 d.epoch) ∧ wx.cell? ⟨g2, o2 + k * 10 + 9, none⟩ = some (qv)) (first | exact ⟨hb0.drew, K1.out _ hb0.drew, K2.out _ hb0.drew⟩ | exact ⟨hb0, K1.out _ hb0, K2.out _ hb0⟩ | exact ⟨by assumption, K1.out _ (by assumption), K2.out _ (by assumption)⟩) (first | (go_at_call 51; ((with_reducible refine (HC.out _ (by first | assumption | exact hb0.drew)).mono ?_); rintro e wn ⟨rfl, hBn⟩)))
      all_goals
        have HBN := Lib.hid (HBW.out.trans ((by assumption : Below wr.heap.size wr _).mono HBW.out.size))
        clear K1 K2 hb0
        go_wp2
        go_roundw
        case rel => exact ⟨k + 1, by omega, by go_num, HBN.out⟩
        case measure => simp [intOf]; omega
    · have hlt' : ¬ (k : Int) < (ps.length : Int) := by omega
      clear hb
      go_wp2
      go_ret
      exact ⟨rfl, HBW.out⟩
end Go.Proofs.YtjljbnilckkjnaaDoor
namespace Go.Proofs.YtjljbnilckkjnaaDoor
open Go Go.RowKit

/-- A box's own block. -/
structure BoxK (w : World) (b : Nat) (name : ByteArray) (valid next : Int) (sv : Value) : Prop where
  c0 : w.cell? ⟨b, 0, none⟩ = some (.string name)
  c1 : w.cell? ⟨b, 1, none⟩ = some (.int .i64 valid)
  c2 : w.cell? ⟨b, 2, none⟩ = some (.int .i64 next)
  c3 : w.cell? ⟨b, 3, none⟩ = some sv
  lt : b < w.heap.size
theorem BoxK.below {B b : Nat} {w w' : World} {name : ByteArray} {valid next : Int} {sv : Value} (h : BoxK w b name valid next sv) (hb : Below B w w') (hB : b < B) : BoxK w' b name valid next sv :=
  ⟨(hb.cell (p := ⟨b, 0, none⟩) hB).trans h.c0, (hb.cell (p := ⟨b, 1, none⟩) hB).trans h.c1, (hb.cell (p := ⟨b, 2, none⟩) hB).trans h.c2, (hb.cell (p := ⟨b, 3, none⟩) hB).trans h.c3, Nat.lt_of_lt_of_le h.lt hb.size⟩
theorem BoxK.new (w : World) (name : ByteArray) (valid next : Int) (sv : Value) (t : TypeId) : BoxK (w.alloc (.cells #[.string name, .int .i64 valid, .int .i64 next, sv] t)) w.heap.size name valid next sv :=
  ⟨cell_of_row _ _ _ _ _ _ (heap_alloc_new w _), cell_of_row _ _ _ _ _ _ (heap_alloc_new w _), cell_of_row _ _ _ _ _ _ (heap_alloc_new w _), cell_of_row _ _ _ _ _ _ (heap_alloc_new w _), by simp⟩
set_option maxHeartbeats 8000000 in
set_option maxRecDepth 100000 in
theorem sameX_yes (name : ByteArray) (valid next : Int) (sv tv : Value) (ps qs : List LV) (w : World) (hp : Lets w sv ps) (hq : Lets w tv qs) (he : ps.map (·.1) = qs.map (·.1)) (hlen : ps.length ≤ 9223372036854775807) :
    Calls Tryd.prog 63 #[boxV name valid next sv, boxV name valid next tv] w fun e w' => e = .returned (.bool true) ∧ Below w.heap.size w w' := by
  have hlq : qs.length = ps.length := by have := congrArg List.length he; simpa using this.symm
  have hb2 : Below w.heap.size w ((w.alloc (.cells #[.string name, .int .i64 valid, .int .i64 next, sv] 52)).alloc (.cells #[.string name, .int .i64 valid, .int .i64 next, tv] 52)) := ((Below.refl _ w).alloc (Nat.le_refl _) _).alloc (by simp) _
  have hx1 : BoxK ((w.alloc (.cells #[.string name, .int .i64 valid, .int .i64 next, sv] 52)).alloc (.cells #[.string name, .int .i64 valid, .int .i64 next, tv] 52)) w.heap.size name valid next sv :=
    (BoxK.new w name valid next sv 52).below ((Below.refl _ _).alloc (Nat.le_refl _) _) (by simp)
  have hx2 : BoxK ((w.alloc (.cells #[.string name, .int .i64 valid, .int .i64 next, sv] 52)).alloc (.cells #[.string name, .int .i64 valid, .int .i64 next, tv] 52)) (w.heap.size + 1) name valid next tv := by
    have := BoxK.new (w.alloc (.cells #[.string name, .int .i64 valid, .int .i64 next, sv] 52)) name valid next tv 52
    simpa using this
  obtain ⟨W0, hW0⟩ : ∃ W0, W0 = (w.alloc (.cells #[.string name, .int .i64 valid, .int .i64 next, sv] 52)).alloc (.cells #[.string name, .int .i64 valid, .int .i64 next, tv] 52) := ⟨_, rfl⟩
  rw [← hW0] at hb2 hx1 hx2
  have hl1 := hp.below hb2
  have hl2 := hq.below hb2
  obtain ⟨sa, sc, hsv, g1, o1, hg1, hc1⟩ := hl1.opened
  obtain ⟨ta, tc, htv, g2, o2, hg2, hc2⟩ := hl2.opened
  subst hsv htv
  rw [hlq] at hx2 hW0
  unfold boxV
  rw [hlq]
  have HE := Lib.hid he
  have HB := Lib.hid hb2
  have HX1 := Lib.hid hx1
  have HX2 := Lib.hid hx2
  have HL1 := Lib.hid hl1
  have HL2 := Lib.hid hl2
  have HC1 := Lib.hid hc1
  have HC2 := Lib.hid hc2
  have HG1 := Lib.hid hg1
  have HG2 := Lib.hid hg2
  have HW := Lib.hid hW0
  have HLQ := Lib.hid hlq
  obtain ⟨c0, c1, c2, c3, _⟩ := id hx1
  obtain ⟨d0, d1, d2, d3, _⟩ := id hx2
  clear he hb2 hx1 hx2 hl1 hl2 hc1 hc2 hg1 hg2 hW0 hlq hp hq
  go_enter Tryd.func63, Tryd.ntmps63
  go_wp2_with fail
  rw [← HW.out]
  go_wp2
  go_loopw [5] (fun i wr => ∃ k : Nat, k ≤ ps.length ∧ i = .int .i64 k ∧ Below W0.heap.size W0 wr) (fun i _ => ps.length - (intOf i).toNat)
  case atStart => exact ⟨0, Nat.zero_le _, rfl, Below.refl _ _⟩
  case round =>
    clear c0 c1 c2 c3 d0 d1 d2 d3
    obtain ⟨k, hk, rfl, hb⟩ := hrel
    obtain ⟨c0, c1, c2, c3, _⟩ := HX1.out.below hb HX1.out.lt
    obtain ⟨d0, d1, d2, d3, _⟩ := HX2.out.below hb HX2.out.lt
    have HBW := Lib.hid hb
    by_cases hlt : k < ps.length
    · have hpk := List.getElem?_eq_getElem hlt
      generalize ps[k] = p at hpk
      have hlt2 : k < qs.length := by rw [HLQ.out]; exact hlt
      have hqk := List.getElem?_eq_getElem hlt2
      generalize qs[k] = q at hqk
      have hpq : p.1 = q.1 := by
        have := congrArg (fun l => l[k]?) HE.out
        simp only [List.getElem?_map, hpk, hqk, Option.map_some, Option.some.injEq] at this
        exact this
      obtain ⟨x, pv⟩ := p
      obtain ⟨x', qv⟩ := q
      simp only at hpq
      subst hpq
      have hne1 : ps ≠ [] := fun e => by subst e; simp at hlt
      have hne2 : qs ≠ [] := fun e => by subst e; simp at hlt2
      obtain ⟨rfl, hgl1⟩ := HG1.out hne1
      obtain ⟨rfl, hgl2⟩ := HG2.out hne2
      obtain ⟨p0, p1, p2⟩ := HC1.out k _ hpk
      obtain ⟨q0, q1, q2⟩ := HC2.out k _ hqk
      have m0 := (hb.cell (p := ⟨g1, o1 + k * 3, none⟩) hgl1).trans p0
      have m1 := (hb.cell (p := ⟨g1, o1 + k * 3 + 1, none⟩) hgl1).trans p1
      have m2 := (hb.cell (p := ⟨g1, o1 + k * 3 + 2, none⟩) hgl1).trans p2
      have n0 := (hb.cell (p := ⟨g2, o2 + k * 3, none⟩) hgl2).trans q0
      have n1 := (hb.cell (p := ⟨g2, o2 + k * 3 + 1, none⟩) hgl2).trans q1
      have n2 := (hb.cell (p := ⟨g2, o2 + k * 3 + 2, none⟩) hgl2).trans q2
      have y1 := (HL1.out.bytes _ (List.mem_of_getElem? hpk)).below hb
      have y2 := (HL2.out.bytes _ (List.mem_of_getElem? hqk)).below hb
      simp only at m0 m1 m2 n0 n1 n2 y1 y2
      obtain ⟨⟨pa, pc, rfl⟩, _⟩ := id y1
      obtain ⟨⟨qa, qc, rfl⟩, _⟩ := id y2
      have hcv1 : ∀ n, (convert 26 9 (.slice pa x.bytes.length pc)).run Tryd.prog (wr.drewN n) = .ok (.string ⟨x.bytes.toArray⟩) (wr.drewN n) := fun n => run_byz_string _ _ _ 5 Tryd.underlying26 Tryd.underlying5 Tryd.underlying9 (y1.below ⟨rfl, rfl, rfl, Nat.le_refl _, fun _ _ => rfl⟩)
      have hcv2 : ∀ n, (convert 26 9 (.slice qa x.bytes.length qc)).run Tryd.prog (wr.drewN n) = .ok (.string ⟨x.bytes.toArray⟩) (wr.drewN n) := fun n => run_byz_string _ _ _ 5 Tryd.underlying26 Tryd.underlying5 Tryd.underlying9 (y2.below ⟨rfl, rfl, rfl, Nat.le_refl _, fun _ _ => rfl⟩)
      have hcw1 : (convert 26 9 (.slice pa x.bytes.length pc)).run Tryd.prog wr = .ok (.string ⟨x.bytes.toArray⟩) wr := run_byz_string _ _ _ 5 Tryd.underlying26 Tryd.underlying5 Tryd.underlying9 y1
      have hcw2 : (convert 26 9 (.slice qa x.bytes.length qc)).run Tryd.prog wr = .ok (.string ⟨x.bytes.toArray⟩) wr := run_byz_string _ _ _ 5 Tryd.underlying26 Tryd.underlying5 Tryd.underlying9 y2
      have hk1 : (k : Int) < (ps.length : Int) := by omega
      clear p0 p1 p2 q0 q1 q2 y1 y2 hpk hqk hne1 hne2 hb
      go_wp2_with fail
      go_quiet (fail)
      have HBW2 := Lib.hid (HBW.out.trans (show Below _ wr (wr.drewN nq) from ⟨rfl, rfl, rfl, Nat.le_refl _, fun _ _ => rfl⟩))
      clear hcv1 hcv2 hcw1 hcw2 m0 m1 m2 n0 n1 n2 c0 c1 c2 c3 d0 d1 d2 d3
      generalize wr.drewN nq = W2 at *
      go_wp2
      go_roundw
      case rel => exact ⟨k + 1, by omega, by go_num, HBW2.out⟩
      case measure => simp [intOf]; omega
    · go_wp2
      go_ret
      exact ⟨rfl, HB.out.trans (hb.mono HB.out.size)⟩

set_option maxHeartbeats 8000000 in
set_option maxRecDepth 100000 in
theorem sameUser_yes (name : ByteArray) (valid : Int) (sv tv : Value) (ps qs : List Bx) (w : World) (hp : Boxes w sv ps) (hq : Boxes w tv qs) (he : ps.map Bx.dat = qs.map Bx.dat) (hlen : ps.length ≤ 4294967295) :
    Calls Tryd.prog 31 #[.agg #[.string name, .int .i64 valid, sv], .agg #[.string name, .int .i64 valid, tv]] w fun e w' => e = .returned (.bool true) ∧ Below w.heap.size w w' := by
  have hlq : qs.length = ps.length := by have := congrArg List.length he; simpa using this.symm
  obtain ⟨W0, hW0⟩ : ∃ W0, W0 = (w.alloc (.cells #[.string name, .int .i64 valid, sv] 43)).alloc (.cells #[.string name, .int .i64 valid, tv] 43) := ⟨_, rfl⟩
  have hb2 : Below w.heap.size w W0 := by rw [hW0]; exact ((Below.refl _ w).alloc (Nat.le_refl _) _).alloc (by simp) _
  have r1 : W0.heap[w.heap.size]? = some (.cells #[.string name, .int .i64 valid, sv] 43 (0, 0)) := by rw [hW0]; exact heap_alloc2_old w _ _
  have r2 : W0.heap[w.heap.size + 1]? = some (.cells #[.string name, .int .i64 valid, tv] 43 (0, 0)) := by rw [hW0]; exact heap_alloc2_new w _ _
  have hl1 := hp.below hb2
  have hl2 := hq.below hb2
  obtain ⟨sa, sc, hsv, g1, o1, hg1, hc1⟩ := hl1.opened
  obtain ⟨ta, tc, htv, g2, o2, hg2, hc2⟩ := hl2.opened
  subst hsv htv
  have c0 : W0.cell? ⟨w.heap.size, 0, none⟩ = some (.string name) := cell_of_row _ _ _ _ _ _ r1
  have c1 : W0.cell? ⟨w.heap.size, 1, none⟩ = some (.int .i64 valid) := cell_of_row _ _ _ _ _ _ r1
  have c2 : W0.cell? ⟨w.heap.size, 2, none⟩ = some (.slice sa ps.length sc) := cell_of_row _ _ _ _ _ _ r1
  have d0 : W0.cell? ⟨w.heap.size + 1, 0, none⟩ = some (.string name) := cell_of_row _ _ _ _ _ _ r2
  have d1 : W0.cell? ⟨w.heap.size + 1, 1, none⟩ = some (.int .i64 valid) := cell_of_row _ _ _ _ _ _ r2
  have d2 : W0.cell? ⟨w.heap.size + 1, 2, none⟩ = some (.slice ta ps.length tc) := by rw [← hlq]; exact cell_of_row _ _ _ _ _ _ r2
  rw [hlq] at hW0 ⊢
  have hlt1 := (Array.getElem?_eq_some_iff.1 r1).1
  have hlt2 := (Array.getElem?_eq_some_iff.1 r2).1
  have HK : Hid (∀ u, Below W0.heap.size W0 u → u.cell? ⟨w.heap.size, 2, none⟩ = some (.slice sa ps.length sc) ∧ u.cell? ⟨w.heap.size + 1, 2, none⟩ = some (.slice ta ps.length tc)) := Lib.hid (fun u hu =>
    ⟨(hu.cell (p := ⟨w.heap.size, 2, none⟩) hlt1).trans c2, (hu.cell (p := ⟨w.heap.size + 1, 2, none⟩) hlt2).trans d2⟩)
  have HE := Lib.hid he
  have HB := Lib.hid hb2
  have HL1 := Lib.hid hl1
  have HL2 := Lib.hid hl2
  have HC1 := Lib.hid hc1
  have HC2 := Lib.hid hc2
  have HG1 := Lib.hid hg1
  have HG2 := Lib.hid hg2
  have HW := Lib.hid (show (w.alloc (.cells #[.string name, .int .i64 valid, .slice sa ps.length sc] 43)).alloc (.cells #[.string name, .int .i64 valid, .slice ta ps.length tc] 43) = W0 from hW0.symm)
  have HLQ := Lib.hid hlq
  clear he hb2 r1 r2 hl1 hl2 hc1 hc2 hg1 hg2 hW0 hlq hp hq hlt1 hlt2
  go_enter Tryd.func31, Tryd.ntmps31
  go_wp2_with (first | rw [HW.out])
  go_loopw [5] (fun i wr => ∃ k : Nat, k ≤ ps.length ∧ i = .int .i64 k ∧ Below W0.heap.size W0 wr) (fun i _ => ps.length - (intOf i).toNat)
  case atStart => exact ⟨0, Nat.zero_le _, rfl, Below.refl _ _⟩
  case round =>
    clear c0 c1 c2 d0 d1 d2
    obtain ⟨k, hk, rfl, hb⟩ := hrel
    obtain ⟨c2, d2⟩ := HK.out wr hb
    have HBW := Lib.hid hb
    by_cases hlt : k < ps.length
    · have hpk := List.getElem?_eq_getElem hlt
      generalize ps[k] = p at hpk
      have hlt2 : k < qs.length := by rw [HLQ.out]; exact hlt
      have hqk := List.getElem?_eq_getElem hlt2
      generalize qs[k] = q at hqk
      have hpq : p.dat = q.dat := by
        have := congrArg (fun l => l[k]?) HE.out
        simp only [List.getElem?_map, hpk, hqk, Option.map_some, Option.some.injEq] at this
        exact this
      obtain ⟨n0, v0, x0, ls, lv⟩ := p
      obtain ⟨n1, v1, x1, ms, mv⟩ := q
      unfold Bx.dat at hpq
      simp only [BxD.mk.injEq] at hpq
      obtain ⟨rfl, rfl, rfl, hls⟩ := hpq
      have hne1 : ps ≠ [] := fun e => by subst e; simp at hlt
      have hne2 : qs ≠ [] := fun e => by subst e; simp at hlt2
      obtain ⟨rfl, hgl1⟩ := HG1.out hne1
      obtain ⟨rfl, hgl2⟩ := HG2.out hne2
      obtain ⟨p0, p1, p2, p3⟩ := HC1.out k _ hpk
      obtain ⟨q0, q1, q2, q3⟩ := HC2.out k _ hqk
      simp only at p0 p1 p2 p3 q0 q1 q2 q3
      obtain ⟨y1, z1⟩ := HL1.out.lets _ (List.mem_of_getElem? hpk)
      obtain ⟨y2, _⟩ := HL2.out.lets _ (List.mem_of_getElem? hqk)
      simp only at y1 y2 z1
      have hsz := hb.size
      have hWw : ∀ u, Below wr.heap.size wr u → Below W0.heap.size W0 u := fun u hu => hb.trans (hu.mono hsz)
      have K1 : Hid (∀ u, Below wr.heap.size wr u → u.cell? ⟨w.heap.size, 2, none⟩ = some (.slice (some ⟨g1, o1, none⟩) ps.length sc) ∧ u.cell? ⟨w.heap.size + 1, 2, none⟩ = some (.slice (some ⟨g2, o2, none⟩) ps.length tc) ∧
          u.cell? ⟨g1, o1 + k * 4, none⟩ = some (.string n0) ∧ u.cell? ⟨g1, o1 + k * 4 + 1, none⟩ = some (.int .i64 v0) ∧ u.cell? ⟨g1, o1 + k * 4 + 2, none⟩ = some (.int .i64 x0) ∧ u.cell? ⟨g1, o1 + k * 4 + 3, none⟩ = some lv ∧
          u.cell? ⟨g2, o2 + k * 4, none⟩ = some (.string n0) ∧ u.cell? ⟨g2, o2 + k * 4 + 1, none⟩ = some (.int .i64 v0) ∧ u.cell? ⟨g2, o2 + k * 4 + 2, none⟩ = some (.int .i64 x0) ∧ u.cell? ⟨g2, o2 + k * 4 + 3, none⟩ = some mv) := Lib.hid (fun u hu => by
        have h := hWw u hu
        exact ⟨(HK.out u h).1, (HK.out u h).2, (h.cell (p := ⟨g1, o1 + k * 4, none⟩) hgl1).trans p0, (h.cell (p := ⟨g1, o1 + k * 4 + 1, none⟩) hgl1).trans p1, (h.cell (p := ⟨g1, o1 + k * 4 + 2, none⟩) hgl1).trans p2, (h.cell (p := ⟨g1, o1 + k * 4 + 3, none⟩) hgl1).trans p3,
          (h.cell (p := ⟨g2, o2 + k * 4, none⟩) hgl2).trans q0, (h.cell (p := ⟨g2, o2 + k * 4 + 1, none⟩) hgl2).trans q1, (h.cell (p := ⟨g2, o2 + k * 4 + 2, none⟩) hgl2).trans q2, (h.cell (p := ⟨g2, o2 + k * 4 + 3, none⟩) hgl2).trans q3⟩)
      have HC : Hid (∀ u, Below wr.heap.size wr u → Calls Tryd.prog 63 #[.agg #[.string n0, .int .i64 v0, .int .i64 x0, lv], .agg #[.string n0, .int .i64 v0, .int .i64 x0, mv]] u fun e w' => e = .returned (.bool true) ∧ Below wr.heap.size wr w') := Lib.hid (fun u hu => by
        have h := hWw u hu
        exact bel_bring hu (sameX_yes n0 v0 x0 lv mv ls ms u (y1.below h) (y2.below h) hls (by omega)))
      have hlt' : (k : Int) < (ps.length : Int) := by omega
      have hb0 : Below wr.heap.size wr wr := Below.refl _ _
      clear hpk hqk p0 p1 p2 p3 q0 q1 q2 q3 y1 y2 z1 hls hne1 hne2 hWw hb hlt2 hsz
      go_wp2_with fail
      clear c2 d2
      go_region_held3 (fun u => Below wr.heap.size wr u ∧ u.cell? ⟨w.heap.size, 2, none⟩ = some (.slice (some ⟨g1, o1, none⟩) ps.length sc) ∧ u.cell? ⟨w.heap.size + 1, 2, none⟩ = some (.slice (some ⟨g2, o2, none⟩) ps.length tc) ∧
          u.cell? ⟨g1, o1 + k * 4, none⟩ = some (.string n0) ∧ u.cell? ⟨g1, o1 + k * 4 + 1, none⟩ = some (.int .i64 v0) ∧ u.cell? ⟨g1, o1 + k * 4 + 2, none⟩ = some (.int .i64 x0) ∧ u.cell? ⟨g1, o1 + k * 4 + 3, none⟩ = some lv ∧
          u.cell? ⟨g2, o2 + k * 4, none⟩ = some (.string n0) ∧ u.cell? ⟨g2, o2 + k * 4 + 1, none⟩ = some (.int .i64 v0) ∧ u.cell? ⟨g2, o2 + k * 4 + 2, none⟩ = some (.int .i64 x0) ∧ u.cell? ⟨g2, o2 + k * 4 + 3, none⟩ = some mv)
        (first | exact ⟨hb0.drew, K1.out _ hb0.drew⟩ | exact ⟨hb0, K1.out _ hb0⟩ | exact ⟨by assumption, K1.out _ (by assumption)⟩)
        (first | (go_at_call 63; ((with_reducible refine (HC.out _ (by first | assumption | exact hb0.drew)).mono ?_); rintro e wn ⟨rfl, hBn⟩)))
      all_goals
        have HBN := Lib.hid (HBW.out.trans ((by assumption : Below wr.heap.size wr _).mono HBW.out.size))
        clear K1 hb0
        go_wp2
        go_roundw
        case rel => exact ⟨k + 1, by omega, by go_num, HBN.out⟩
        case measure => simp [intOf]; omega
    · have hlt' : ¬ (k : Int) < (ps.length : Int) := by omega
      go_wp2
      go_ret
      exact ⟨rfl, HB.out.trans (HBW.out.mono HB.out.size)⟩
end Go.Proofs.YtjljbnilckkjnaaDoor
