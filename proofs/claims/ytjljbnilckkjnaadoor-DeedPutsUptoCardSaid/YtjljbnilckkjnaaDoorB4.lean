/- Box: Check, the document's. -/
import Derived.Test.YtjljbnilckkjnaaDoorB1
import Derived.IntWalk
namespace Go.Proofs.YtjljbnilckkjnaaDoor
open Go Go.RowKit

def LastIs (ps : List LV) (k : Nat) (last : Int) : Prop := (k = 0 ∧ last = 0) ∨ ∃ j p, k = j + 1 ∧ ps[j]? = some p ∧ p.1.uid = last ∧ 1 ≤ last
set_option maxHeartbeats 4000000 in
set_option maxRecDepth 100000 in
theorem refCheck (name : ByteArray) (valid next : Int) (sv : Value) (ps : List LV) (w : World) (h : Lets w sv ps) (hlen : ps.length ≤ 9223372036854775807) :
    Calls Tryd.prog 61 #[boxV name valid next sv] w fun e w' => e = .returned (.int .i64 (chk valid next (ps.map (·.1)))) ∧ Below w.heap.size w w' := by
  have hb0 : Below w.heap.size w (w.alloc (.cells #[.string name, .int .i64 valid, .int .i64 next, sv] 52)) := (Below.refl _ w).alloc (Nat.le_refl _) _
  have h0 := h.below hb0
  have hB0 := BoxAt.new w name valid next sv 52
  unfold boxV
  unfold chk
  rw [List.length_map]
  by_cases hv : badN valid ∨ badN next
  · rw [if_pos hv]
    obtain ⟨a, cap, rfl, _⟩ := h.shape
    unfold badN at hv
    clear h h0 hB0
    have hcase : valid < 1 ∨ (¬ valid < 1 ∧ 4294967295 < valid) ∨ (¬ valid < 1 ∧ ¬ 4294967295 < valid ∧ next < 1) ∨ (¬ valid < 1 ∧ ¬ 4294967295 < valid ∧ ¬ next < 1 ∧ 4294967295 < next) := by omega
    clear hv
    rcases hcase with h1 | ⟨h1, h2⟩ | ⟨h1, h2, h3⟩ | ⟨h1, h2, h3, h4⟩
    all_goals
      go_enter Tryd.func61, Tryd.ntmps61
      go_wp2
      go_ret
      exact ⟨rfl, hb0⟩
  rw [if_neg hv]
  unfold badN at hv
  have v1 : ¬ valid < 1 := by omega
  have v2 : ¬ 4294967295 < valid := by omega
  have n1 : ¬ next < 1 := by omega
  have n2 : ¬ 4294967295 < next := by omega
  clear hv
  by_cases hl : 32 < ps.length
  · rw [if_pos hl]
    obtain ⟨a, cap, rfl, _⟩ := h.shape
    clear h h0 hB0
    go_enter Tryd.func61, Tryd.ntmps61
    go_wp2
    go_ret
    exact ⟨rfl, hb0⟩
  rw [if_neg hl]
  obtain ⟨a, cap, rfl, g, off, hg, hc⟩ := h0.opened
  generalize hF : chkL next 0 (ps.map (·.1)) = F
  have HF := Lib.hid hF
  have HC := Lib.hid hc
  have HG := Lib.hid hg
  have HB := Lib.hid hB0
  have HY := Lib.hid h0.bytes
  clear hF h h0 hB0 hc hg
  go_enter Tryd.func61, Tryd.ntmps61
  go_wp2
  go_loopw [3] (fun i wr => ∃ (k : Nat) (last : Int), k ≤ ps.length ∧ i = .int .i64 k ∧ LastIs ps k last ∧ chkL next last ((ps.map (·.1)).drop k) = F ∧ Below (w.heap.size + 1) (w.alloc (.cells #[.string name, .int .i64 valid, .int .i64 next, .slice a ps.length cap] 52)) wr) (fun i _ => ps.length - (intOf i).toNat)
  case atStart => exact ⟨0, 0, Nat.zero_le _, rfl, Or.inl ⟨rfl, rfl⟩, HF.out, Below.refl _ _⟩
  case round =>
    obtain ⟨k, last, hk, rfl, hla, hgo, hb⟩ := hrel
    obtain ⟨_, _, q2, q3⟩ := HB.out.below hb (by omega)
    by_cases hlt : k < ps.length
    · have hp := List.getElem?_eq_getElem hlt
      generalize ps[k] = p at hp
      have hne : ps ≠ [] := fun e => by subst e; simp at hlt
      obtain ⟨rfl, hgl⟩ := HG.out hne
      obtain ⟨c0, c1, c2⟩ := HC.out k p hp
      have hz := hb.size
      have hgl' : g < w.heap.size + 1 := by simpa using hgl
      have d0 := (hb.cell (p := ⟨g, off + k * 3, none⟩) hgl').trans c0
      have d1 := (hb.cell (p := ⟨g, off + k * 3 + 1, none⟩) hgl').trans c1
      have d2 := (hb.cell (p := ⟨g, off + k * 3 + 2, none⟩) hgl').trans c2
      obtain ⟨⟨ba, bc, hbv⟩, _⟩ := HY.out p (List.mem_of_getElem? hp)
      rw [hbv] at d2
      rw [drop_at (by rw [List.getElem?_map, hp]; rfl)] at hgo
      have hq : Below (w.heap.size + 1) (w.alloc (.cells #[.string name, .int .i64 valid, .int .i64 next, .slice (some ⟨g, off, none⟩) ps.length cap] 52)) (wr.alloc (.cells #[.int .i64 p.1.uid, .int .u8 (p.1.flags.toNat : Int), .slice ba p.1.bytes.length bc] 79)) := hb.alloc (by simpa using hz) _
      have HQ := Lib.hid hq
      have hzz : w.heap.size < wr.heap.size := by simp at hz; omega
      have HP := Lib.hid hp
      clear c0 c1 c2 hp hne hgl hbv hz hq
      unfold chkL at hgo
      obtain ⟨W1, hW1⟩ : ∃ W1, W1 = wr.alloc (.cells #[.int .i64 p.1.uid, .int .u8 (p.1.flags.toNat : Int), .slice ba p.1.bytes.length bc] 79) := ⟨_, rfl⟩
      have e0 : W1.cell? ⟨wr.heap.size, 0, none⟩ = some (.int .i64 p.1.uid) := by rw [hW1]; exact World.cell?_alloc_new _ _ _ _
      have e1 : W1.cell? ⟨wr.heap.size, 1, none⟩ = some (.int .u8 (p.1.flags.toNat : Int)) := by rw [hW1]; exact World.cell?_alloc_new _ _ _ _
      have e2 : W1.cell? ⟨wr.heap.size, 2, none⟩ = some (.slice ba p.1.bytes.length bc) := by rw [hW1]; exact World.cell?_alloc_new _ _ _ _
      have hbW : Below wr.heap.size wr W1 := by rw [hW1]; exact (Below.refl _ wr).alloc (Nat.le_refl _) _
      have r2 := (hbW.cell (p := ⟨w.heap.size, 2, none⟩) hzz).trans q2
      have r3 := (hbW.cell (p := ⟨w.heap.size, 3, none⟩) hzz).trans q3
      have hq1 : Below (w.heap.size + 1) (w.alloc (.cells #[.string name, .int .i64 valid, .int .i64 next, .slice (some ⟨g, off, none⟩) ps.length cap] 52)) W1 := by rw [hW1]; exact HQ.out
      have HQ1 := Lib.hid hq1
      have hprev : ∀ j p', ps[j]? = some p' → W1.cell? ⟨g, off + j * 3, none⟩ = some (.int .i64 p'.1.uid) := fun j p' hj => (hq1.cell (p := ⟨g, off + j * 3, none⟩) hgl').trans (HC.out j p' hj).1
      have HPV := Lib.hid hprev
      clear hq1 hprev hbW
      go_wp2_with fail
      rw [← hW1]
      clear hW1 d0 d1 d2 q2 q3
      by_cases a1 : p.1.uid < 1
      · have h4 : p.1.uid ≤ last := by rcases hla with ⟨_, rfl⟩ | ⟨_, _, _, _, _, h⟩ <;> omega
        rw [if_pos (Or.inl h4)] at hgo
        have HGo := Lib.hid hgo
        clear hgo hla h4
        go_quiet (fail)
        have HQ2 := Lib.hid (HQ1.out.trans (show Below _ W1 (W1.drewN nq) from ⟨rfl, rfl, rfl, Nat.le_refl _, fun _ _ => rfl⟩))
        generalize W1.drewN nq = W2 at *
        go_wp2
        go_ret
        exact ⟨ret_int HGo.out, below_alloc HQ2.out⟩
      by_cases a2 : next ≤ p.1.uid
      · rw [if_pos (Or.inr a2)] at hgo
        have HGo := Lib.hid hgo
        clear hgo hla
        go_quiet (fail)
        have HQ2 := Lib.hid (HQ1.out.trans (show Below _ W1 (W1.drewN nq) from ⟨rfl, rfl, rfl, Nat.le_refl _, fun _ _ => rfl⟩))
        generalize W1.drewN nq = W2 at *
        go_wp2
        go_ret
        exact ⟨ret_int HGo.out, below_alloc HQ2.out⟩
      rcases hla with ⟨rfl, rfl⟩ | ⟨j, p', rfl, hp', rfl, hl1⟩
      · rw [if_neg (by omega)] at hgo
        clear HPV
        go_quiet (fail)
        have HQ2 := Lib.hid (HQ1.out.trans (show Below _ W1 (W1.drewN nq) from ⟨rfl, rfl, rfl, Nat.le_refl _, fun _ _ => rfl⟩))
        have f1 : (W1.drewN nq).cell? ⟨wr.heap.size, 1, none⟩ = some (.int .u8 (p.1.flags.toNat : Int)) := e1
        have f2 : (W1.drewN nq).cell? ⟨wr.heap.size, 2, none⟩ = some (.slice ba p.1.bytes.length bc) := e2
        clear e0 e1 e2 r2 r3
        generalize W1.drewN nq = W2 at *
        by_cases h2 : 32 ≤ p.1.flags.toNat
        · rw [if_pos h2] at hgo
          have HGo := Lib.hid hgo
          clear hgo
          go_wp2
          go_ret
          exact ⟨ret_int HGo.out, below_alloc HQ2.out⟩
        · rw [if_neg h2] at hgo
          by_cases h6 : 600 < p.1.bytes.length
          · rw [if_pos h6] at hgo
            have HGo := Lib.hid hgo
            clear hgo
            go_wp2
            go_ret
            exact ⟨ret_int HGo.out, below_alloc HQ2.out⟩
          · rw [if_neg h6] at hgo
            have HGo := Lib.hid hgo
            clear hgo
            go_wp2
            go_roundw
            case rel => exact ⟨_, p.1.uid, by omega, by go_num, Or.inr ⟨_, p, rfl, HP.out, rfl, by omega⟩, HGo.out, HQ2.out⟩
            case measure => simp [intOf]; omega
      · have d3 := HPV.out j p' hp'
        have hw1 : IntKind.i64.wrap ((j : Int) + 1 - 1) = (j : Int) := by rw [IntWalk.i64_in _ (by omega)]; omega
        have hw2 : (0 : Int) < (j : Int) + 1 := by omega
        have hw3 : j < ps.length := by omega
        clear HPV
        by_cases a3 : p.1.uid ≤ p'.1.uid
        · rw [if_pos (Or.inl a3)] at hgo
          have HGo := Lib.hid hgo
          clear hgo
          go_quiet (fail)
          have HQ2 := Lib.hid (HQ1.out.trans (show Below _ W1 (W1.drewN nq) from ⟨rfl, rfl, rfl, Nat.le_refl _, fun _ _ => rfl⟩))
          generalize W1.drewN nq = W2 at *
          go_wp2
          go_ret
          exact ⟨ret_int HGo.out, below_alloc HQ2.out⟩
        · rw [if_neg (by omega)] at hgo
          go_quiet (fail)
          have HQ2 := Lib.hid (HQ1.out.trans (show Below _ W1 (W1.drewN nq) from ⟨rfl, rfl, rfl, Nat.le_refl _, fun _ _ => rfl⟩))
          have f1 : (W1.drewN nq).cell? ⟨wr.heap.size, 1, none⟩ = some (.int .u8 (p.1.flags.toNat : Int)) := e1
          have f2 : (W1.drewN nq).cell? ⟨wr.heap.size, 2, none⟩ = some (.slice ba p.1.bytes.length bc) := e2
          clear e0 e1 e2 r2 r3 d3 hw1
          generalize W1.drewN nq = W2 at *
          by_cases h2 : 32 ≤ p.1.flags.toNat
          · rw [if_pos h2] at hgo
            have HGo := Lib.hid hgo
            clear hgo
            go_wp2
            go_ret
            exact ⟨ret_int HGo.out, below_alloc HQ2.out⟩
          · rw [if_neg h2] at hgo
            by_cases h6 : 600 < p.1.bytes.length
            · rw [if_pos h6] at hgo
              have HGo := Lib.hid hgo
              clear hgo
              go_wp2
              go_ret
              exact ⟨ret_int HGo.out, below_alloc HQ2.out⟩
            · rw [if_neg h6] at hgo
              have HGo := Lib.hid hgo
              clear hgo
              go_wp2
              go_roundw
              case rel => exact ⟨_, p.1.uid, by omega, by go_num, Or.inr ⟨_, p, rfl, HP.out, rfl, by omega⟩, HGo.out, HQ2.out⟩
              case measure => simp [intOf]; omega
    · have hk : k = ps.length := by omega
      subst hk
      rw [List.drop_of_length_le (by simp)] at hgo
      have HGo := Lib.hid hgo
      clear hgo
      go_wp2
      go_ret
      exact ⟨ret_int (by rw [← HGo.out]; rfl), below_alloc hb⟩
end Go.Proofs.YtjljbnilckkjnaaDoor
