/- Box: Same, of boxes that are the same. -/
import Derived.Test.YtpmakbjchepkmaaBM1
namespace Go.Proofs.Ytpmakbjchepkmaa
open Go Go.RowKit

set_option maxHeartbeats 8000000 in
set_option maxRecDepth 100000 in
theorem same_yes (name : ByteArray) (valid next : Int) (sv tv : Value) (ps qs : List LV) (w : World) (hp : Lets w sv ps) (hq : Lets w tv qs) (he : ps.map (·.1) = qs.map (·.1)) (hlen : ps.length ≤ 9223372036854775807) :
    Calls Try.prog 17 #[boxV name valid next sv, boxV name valid next tv] w fun e w' => e = .returned (.bool true) ∧ Below w.heap.size w w' := by
  have hlq : qs.length = ps.length := by have := congrArg List.length he; simpa using this.symm
  have hb2 : Below w.heap.size w ((w.alloc (.cells #[.string name, .int .i64 valid, .int .i64 next, sv] 24)).alloc (.cells #[.string name, .int .i64 valid, .int .i64 next, tv] 24)) := ((Below.refl _ w).alloc (Nat.le_refl _) _).alloc (by simp) _
  have hx1 : BoxW ((w.alloc (.cells #[.string name, .int .i64 valid, .int .i64 next, sv] 24)).alloc (.cells #[.string name, .int .i64 valid, .int .i64 next, tv] 24)) w.heap.size name valid next sv :=
    (BoxW.new w name valid next sv 24).below ((Below.refl _ _).alloc (Nat.le_refl _) _) (by simp)
  have hx2 : BoxW ((w.alloc (.cells #[.string name, .int .i64 valid, .int .i64 next, sv] 24)).alloc (.cells #[.string name, .int .i64 valid, .int .i64 next, tv] 24)) (w.heap.size + 1) name valid next tv := by
    have := BoxW.new (w.alloc (.cells #[.string name, .int .i64 valid, .int .i64 next, sv] 24)) name valid next tv 24
    simpa using this
  obtain ⟨W0, hW0⟩ : ∃ W0, W0 = (w.alloc (.cells #[.string name, .int .i64 valid, .int .i64 next, sv] 24)).alloc (.cells #[.string name, .int .i64 valid, .int .i64 next, tv] 24) := ⟨_, rfl⟩
  rw [← hW0] at hb2 hx1 hx2
  have hl1 := hp.below hb2
  have hl2 := hq.below hb2
  obtain ⟨sa, sc, hsv, g1, o1, hg1, hc1⟩ := hl1.opened
  obtain ⟨ta, tc, htv, g2, o2, hg2, hc2⟩ := hl2.opened
  subst hsv htv
  rw [hlq] at hx2 hW0
  unfold boxV
  rw [hlq]
  have HE := Lib.hid he
  have HB := Lib.hid hb2
  have HX1 := Lib.hid hx1
  have HX2 := Lib.hid hx2
  have HL1 := Lib.hid hl1
  have HL2 := Lib.hid hl2
  have HC1 := Lib.hid hc1
  have HC2 := Lib.hid hc2
  have HG1 := Lib.hid hg1
  have HG2 := Lib.hid hg2
  have HW := Lib.hid hW0
  have HLQ := Lib.hid hlq
  obtain ⟨c0, c1, c2, c3, _⟩ := id hx1
  obtain ⟨d0, d1, d2, d3, _⟩ := id hx2
  clear he hb2 hx1 hx2 hl1 hl2 hc1 hc2 hg1 hg2 hW0 hlq hp hq
  go_enter Try.func17, Try.ntmps17
  go_wp2_with fail
  rw [← HW.out]
  go_wp2
  go_loopw [5] (fun i wr => ∃ k : Nat, k ≤ ps.length ∧ i = .int .i64 k ∧ Below W0.heap.size W0 wr) (fun i _ => ps.length - (intOf i).toNat)
  case atStart => exact ⟨0, Nat.zero_le _, rfl, Below.refl _ _⟩
  case round =>
    clear c0 c1 c2 c3 d0 d1 d2 d3
    obtain ⟨k, hk, rfl, hb⟩ := hrel
    obtain ⟨c0, c1, c2, c3, _⟩ := HX1.out.below hb HX1.out.lt
    obtain ⟨d0, d1, d2, d3, _⟩ := HX2.out.below hb HX2.out.lt
    have HBW := Lib.hid hb
    by_cases hlt : k < ps.length
    · have hpk := List.getElem?_eq_getElem hlt
      generalize ps[k] = p at hpk
      have hlt2 : k < qs.length := by rw [HLQ.out]; exact hlt
      have hqk := List.getElem?_eq_getElem hlt2
      generalize qs[k] = q at hqk
      have hpq : p.1 = q.1 := by
        have := congrArg (fun l => l[k]?) HE.out
        simp only [List.getElem?_map, hpk, hqk, Option.map_some, Option.some.injEq] at this
        exact this
      obtain ⟨x, pv⟩ := p
      obtain ⟨x', qv⟩ := q
      simp only at hpq
      subst hpq
      have hne1 : ps ≠ [] := fun e => by subst e; simp at hlt
      have hne2 : qs ≠ [] := fun e => by subst e; simp at hlt2
      obtain ⟨rfl, hgl1⟩ := HG1.out hne1
      obtain ⟨rfl, hgl2⟩ := HG2.out hne2
      obtain ⟨p0, p1, p2⟩ := HC1.out k _ hpk
      obtain ⟨q0, q1, q2⟩ := HC2.out k _ hqk
      have m0 := (hb.cell (p := ⟨g1, o1 + k * 3, none⟩) hgl1).trans p0
      have m1 := (hb.cell (p := ⟨g1, o1 + k * 3 + 1, none⟩) hgl1).trans p1
      have m2 := (hb.cell (p := ⟨g1, o1 + k * 3 + 2, none⟩) hgl1).trans p2
      have n0 := (hb.cell (p := ⟨g2, o2 + k * 3, none⟩) hgl2).trans q0
      have n1 := (hb.cell (p := ⟨g2, o2 + k * 3 + 1, none⟩) hgl2).trans q1
      have n2 := (hb.cell (p := ⟨g2, o2 + k * 3 + 2, none⟩) hgl2).trans q2
      have y1 := (HL1.out.bytes _ (List.mem_of_getElem? hpk)).below hb
      have y2 := (HL2.out.bytes _ (List.mem_of_getElem? hqk)).below hb
      simp only at m0 m1 m2 n0 n1 n2 y1 y2
      obtain ⟨⟨pa, pc, rfl⟩, _⟩ := id y1
      obtain ⟨⟨qa, qc, rfl⟩, _⟩ := id y2
      have hcv1 : ∀ n, (convert 30 9 (.slice pa x.bytes.length pc)).run Try.prog (wr.drewN n) = .ok (.string ⟨x.bytes.toArray⟩) (wr.drewN n) := fun n => run_byz_string _ _ _ 5 Try.underlying30 Try.underlying5 Try.underlying9 (y1.below ⟨rfl, rfl, rfl, Nat.le_refl _, fun _ _ => rfl⟩)
      have hcv2 : ∀ n, (convert 30 9 (.slice qa x.bytes.length qc)).run Try.prog (wr.drewN n) = .ok (.string ⟨x.bytes.toArray⟩) (wr.drewN n) := fun n => run_byz_string _ _ _ 5 Try.underlying30 Try.underlying5 Try.underlying9 (y2.below ⟨rfl, rfl, rfl, Nat.le_refl _, fun _ _ => rfl⟩)
      have hcw1 : (convert 30 9 (.slice pa x.bytes.length pc)).run Try.prog wr = .ok (.string ⟨x.bytes.toArray⟩) wr := run_byz_string _ _ _ 5 Try.underlying30 Try.underlying5 Try.underlying9 y1
      have hcw2 : (convert 30 9 (.slice qa x.bytes.length qc)).run Try.prog wr = .ok (.string ⟨x.bytes.toArray⟩) wr := run_byz_string _ _ _ 5 Try.underlying30 Try.underlying5 Try.underlying9 y2
      have hk1 : (k : Int) < (ps.length : Int) := by omega
      clear p0 p1 p2 q0 q1 q2 y1 y2 hpk hqk hne1 hne2 hb
      go_wp2_with fail
      go_quiet (fail)
      have HBW2 := Lib.hid (HBW.out.trans (show Below _ wr (wr.drewN nq) from ⟨rfl, rfl, rfl, Nat.le_refl _, fun _ _ => rfl⟩))
      clear hcv1 hcv2 hcw1 hcw2 m0 m1 m2 n0 n1 n2 c0 c1 c2 c3 d0 d1 d2 d3
      generalize wr.drewN nq = W2 at *
      go_wp2
      go_roundw
      case rel => exact ⟨k + 1, by omega, by go_num, HBW2.out⟩
      case measure => simp [intOf]; omega
    · go_wp2
      go_ret
      exact ⟨rfl, HB.out.trans (hb.mono HB.out.size)⟩
end Go.Proofs.Ytpmakbjchepkmaa
