/- Glob: the document's rows, walked. -/
import Derived.Test.YtnglmaebmabdcaaDoorQ3
namespace Go.Proofs.YtnglmaebmabdcaaDoor
open Go Go.RowKit

def mtB (P N : ByteArray) : Bool := Gl.rows (byt P) (byt N) P.size N.size

theorem info_of {P : Program} {t : TypeId} {z : Option Value} {s b : Nat} (h : (P.info? t).map (fun i => (i.zero, i.size, i.bytes)) = some (z, s, b)) : ∃ i, P.info? t = some i ∧ i.zero = z ∧ i.size = s ∧ i.bytes = b := by
  cases hi : P.info? t with
  | none => rw [hi] at h; cases h
  | some i =>
    rw [hi] at h
    simp only [Option.map_some, Option.some.injEq, Prod.mk.injEq] at h
    exact ⟨i, rfl, h.1, h.2.1, h.2.2⟩
theorem mk_bools (n : Nat) (hn : n ≤ 5000) (W : World) : (Instr.makeSlice 48 (.int .i64 ((n : Int) + 1)) (.int .i64 ((n : Int) + 1))).run Tryd.prog W = .ok (.slice (some ⟨W.heap.size, 0, none⟩) (n + 1) (n + 1)) (W.alloc (.cells (madeCells (Value.bool false).cells (n + 1)) 4)) := by
  obtain ⟨i0, hi0, hz0, hz1, hz2⟩ := info_of (show (Tryd.prog.info? 4).map (fun i => (i.zero, i.size, i.bytes)) = some (some (.bool false), 1, 1) by kernel_rfl)
  have := run_make (P := Tryd.prog) W 48 4 i0 _ Tryd.underlying48 hi0 hz0 .i64 .i64 ((n + 1 : Nat) : Int) ((n + 1 : Nat) : Int) (by omega) (Int.le_refl _) (by rw [hz2]; omega) (by omega)
  rwa [hz1, Nat.mul_one, Int.toNat_natCast, Int.natCast_add] at this

/-- A row of truths: those ahead of a place are known, the others are still false. -/
def RowB (W : World) (b nl : Nat) (f : Nat → Bool) (m : Nat) : Prop :=
  (∀ i, i ≤ nl → W.cell? ⟨b, i, none⟩ = some (.bool (if i < m then f i else false))) ∧ (∀ i, i ≤ nl → W.frozen? ⟨b, i, none⟩ = false)
theorem RowB.new (W : World) (nl : Nat) (f : Nat → Bool) : RowB (W.alloc (.cells (madeCells (Value.bool false).cells (nl + 1)) 4)) W.heap.size nl f 0 := by
  refine ⟨fun i hi => ?_, fun i hi => ?_⟩
  · rw [World.cell?_alloc_new, if_neg (Nat.not_lt_zero _)]
    simp [madeCells, Value.cells, Nat.mod_one, Array.getElem?_eq_getElem, show i < nl + 1 by omega]
  · exact frozen_of_row _ _ _ _ _ (heap_alloc_last W _)
theorem RowB.other {W W' : World} {b nl m : Nat} {f : Nat → Bool} (h : RowB W b nl f m) (he : W'.heap[b]? = W.heap[b]?) : RowB W' b nl f m :=
  ⟨fun i hi => (World.cell?_of_block (a := ⟨b, i, none⟩) he).trans (h.1 i hi), fun i hi => (World.frozen?_of_block (a := ⟨b, i, none⟩) he).trans (h.2 i hi)⟩
theorem RowB.set {W : World} {b nl m : Nat} {f : Nat → Bool} (h : RowB W b nl f m) (hm : m ≤ nl) {v : Bool} (hv : v = f m) : RowB (W.setCell ⟨b, m, none⟩ (.bool v)) b nl f (m + 1) := by
  refine ⟨fun i hi => ?_, fun i hi => by rw [World.frozen?_setCell]; exact h.2 i hi⟩
  by_cases e : i = m
  · subst e
    rw [if_pos (Nat.lt_succ_self _), ← hv]
    exact World.cell?_setCell_same _ _ _ (h.1 i hi)
  · rw [World.cell?_setCell_other _ _ _ _ (by intro he; injection he with _ h2; omega), h.1 i hi]
    by_cases h1 : i < m
    · rw [if_pos h1, if_pos (by omega)]
    · rw [if_neg h1, if_neg (by omega)]
theorem RowB.lt {W : World} {b nl m : Nat} {f : Nat → Bool} (h : RowB W b nl f m) : b < W.heap.size := World.block_lt_of_cell? W _ (h.1 0 (Nat.zero_le _))

set_option maxHeartbeats 4000000 in
set_option maxRecDepth 100000 in
theorem refMatch0 (P N : ByteArray) (w : World) (hP : P.size ≤ 1000) (hN : N.size ≤ 1000) :
    Calls Tryd.prog 29 #[.string P, .string N] w fun e w' => e = .returned (.bool (mtB P N)) ∧ Below w.heap.size w w' := by
  have hmk := mk_bools N.size (by omega)
  obtain ⟨W1, hW1⟩ : ∃ W1, w.alloc (.cells (madeCells (Value.bool false).cells (N.size + 1)) 4) = W1 := ⟨_, rfl⟩
  have hmk1 := hmk w
  rw [hW1] at hmk1
  have hr1 : RowB W1 w.heap.size N.size (Gl.rows (byt P) (byt N) 0) 0 := by rw [← hW1]; exact RowB.new _ _ _
  have hb1 : Below w.heap.size w W1 := by rw [← hW1]; exact (Below.refl _ w).alloc (Nat.le_refl _) _
  have hc0 := hr1.1 0 (Nat.zero_le _)
  have hf0 := hr1.2 0 (Nat.zero_le _)
  rw [if_neg (Nat.not_lt_zero _)] at hc0
  have hr2 : RowB (W1.setCell ⟨w.heap.size, 0, none⟩ (.bool true)) w.heap.size N.size (Gl.rows (byt P) (byt N) 0) (N.size + 1) := by
    have h := hr1.set (Nat.zero_le _) (v := true) rfl
    refine ⟨fun i hi => ?_, h.2⟩
    rw [h.1 i hi]
    cases i with
    | zero => simp
    | succ i => simp [Gl.rows, show ¬ i + 1 < 1 by omega]
  have HMK := Lib.hid hmk
  have HR2 := Lib.hid hr2
  have HB2 := Lib.hid (hb1.setCell (p := ⟨w.heap.size, 0, none⟩) (Nat.le_refl _) (.bool true))
  clear hmk hr1 hr2 hb1 hW1
  go_enter Tryd.func29, Tryd.ntmps29
  go_wp2
  go_loopw [5, 6] (fun t5 t6 wr => ∃ p b : Nat, p ≤ P.size ∧ t5 = .slice (some ⟨b, 0, none⟩) (N.size + 1) (N.size + 1) ∧ t6 = .int .i64 (p : Int) ∧ w.heap.size ≤ b ∧ RowB wr b N.size (Gl.rows (byt P) (byt N) p) (N.size + 1) ∧ Below w.heap.size w wr) (fun _ t6 _ => P.size - (intOf t6).toNat)
  case atStart => exact ⟨0, _, Nat.zero_le _, rfl, rfl, Nat.le_refl _, HR2.out, HB2.out⟩
  case round =>
    obtain ⟨p, b, hp, rfl, rfl, hb, hrow, hbel⟩ := hrel
    obtain ⟨wO, rfl⟩ : ∃ wO, wO = wr := ⟨_, rfl⟩
    clear HR2 HB2 hmk1 hc0 hf0
    by_cases hpl : p < P.size
    · have hpli : (p : Int) < (P.size : Int) := by omega
      have hblt := hrow.lt
      have hmk2 := HMK.out wO
      obtain ⟨W2, hW2⟩ : ∃ W2, wO.alloc (.cells (madeCells (Value.bool false).cells (N.size + 1)) 4) = W2 := ⟨_, rfl⟩
      rw [hW2] at hmk2
      obtain ⟨F, hF⟩ : ∃ F, Gl.rows (byt P) (byt N) p = F := ⟨_, rfl⟩
      obtain ⟨G, hG⟩ : ∃ G, Gl.nextRow (byt N) F (byt P p) = G := ⟨_, rfl⟩
      have HFG : Hid (Gl.rows (byt P) (byt N) (p + 1) = G) := Lib.hid (by rw [← hG, ← hF]; rfl)
      rw [hF] at hrow
      have hn2 : RowB W2 wO.heap.size N.size G 0 := by rw [← hW2]; exact RowB.new _ _ _
      have ho2 : RowB W2 b N.size F (N.size + 1) := hrow.other (by rw [← hW2]; exact heap_alloc_old _ _ (by omega))
      have hz := hbel.size
      have hb2 : Below w.heap.size w W2 := by rw [← hW2]; exact hbel.alloc (by omega) _
      have HN2 := Lib.hid hn2; have HO2 := Lib.hid ho2; have HB2 := Lib.hid hb2; have HG := Lib.hid hG
      clear hn2 ho2 hb2 hW2 hrow hbel hF hG
      go_wp2
      go_loopw [8] (fun t8 wx => ∃ n : Nat, n ≤ N.size + 1 ∧ t8 = .int .i64 (n : Int) ∧ RowB wx wO.heap.size N.size G n ∧ RowB wx b N.size F (N.size + 1) ∧ Below w.heap.size w wx) (fun t8 _ => N.size + 1 - (intOf t8).toNat)
      case atStart => exact ⟨0, Nat.zero_le _, rfl, HN2.out, HO2.out, HB2.out⟩
      case round =>
        obtain ⟨n, hn, rfl, hg, hf, hbel⟩ := hrel
        clear HN2 HO2 HB2 hmk2 HMK
        have HF := Lib.hid hf
        have HGR := Lib.hid hg
        have HBEL := Lib.hid hbel
        by_cases hnl : n ≤ N.size
        · have hnli : (n : Int) ≤ (N.size : Int) := by omega
          have hpc := byt_at P p hpl
          have hst : ∀ v, v = G n → (RowB (wr.setCell ⟨wO.heap.size, n, none⟩ (.bool v)) wO.heap.size N.size G (n + 1)) := fun v hv => hg.set hnl hv
          have hcc := hg.1 n hnl
          have hff := hg.2 n hnl
          rw [if_neg (Nat.lt_irrefl _)] at hcc
          have HST : Hid (∀ v, v = G n → (∃ n_1 : Nat, n_1 ≤ N.size + 1 ∧ Value.int .i64 ((n : Int) + 1) = .int .i64 (n_1 : Int) ∧ RowB (wr.setCell ⟨wO.heap.size, n, none⟩ (.bool v)) wO.heap.size N.size G n_1 ∧ RowB (wr.setCell ⟨wO.heap.size, n, none⟩ (.bool v)) b N.size F (N.size + 1) ∧ Below w.heap.size w (wr.setCell ⟨wO.heap.size, n, none⟩ (.bool v)))) := Lib.hid fun v hv =>
            ⟨n + 1, by omega, rfl, hg.set hnl hv, hf.other (heap_setCell_other _ _ _ _ (by show b ≠ wO.heap.size; omega)), hbel.setCell (by show _ ≤ wO.heap.size; omega) _⟩
          have hM : Hid (N.size + 1 - (n + 1) < N.size + 1 - n) := Lib.hid (by omega)
          by_cases hstar : byt P p = 42 ∨ byt P p = 37
          · have q1 : ((((P[p]'hpl).toNat : Int) == 42) || (((P[p]'hpl).toNat : Int) == 37)) = true := by
              rw [← hpc]
              rcases hstar with h | h <;> rw [h] <;> rfl
            have hrn := hf.1 n hnl
            rw [if_pos (by omega)] at hrn
            cases hFn : F n with
            | true =>
              rw [hFn] at hrn
              have HV : Hid (true = G n) := Lib.hid (by rw [← HG.out]; cases n with
                | zero => simp [Gl.nextRow, hstar, hFn]
                | succ k => simp [Gl.nextRow, hstar, hFn])
              clear hg hf hbel HF HGR
              rcases hstar with hs | hs
              · have q2 : (((P[p]'hpl).toNat : Int) == 42) = true := by rw [← hpc, hs]; rfl
                go_wp2
                refine ⟨HST.out _ HV.out, ?_⟩
                simp [intOf] <;> omega
              · have q2 : (((P[p]'hpl).toNat : Int) == 42) = false := by rw [← hpc, hs]; rfl
                have q3 : (((P[p]'hpl).toNat : Int) == 37) = true := by rw [← hpc, hs]; rfl
                go_wp2
                refine ⟨HST.out _ HV.out, ?_⟩
                simp [intOf] <;> omega
            | false =>
              rw [hFn] at hrn
              cases n with
              | zero =>
                have HV : Hid (false = G 0) := Lib.hid (by rw [← HG.out]; simp [Gl.nextRow, hstar, hFn])
                clear hg hf hbel HF HGR
                rcases hstar with hs | hs
                · have q2 : (((P[p]'hpl).toNat : Int) == 42) = true := by rw [← hpc, hs]; rfl
                  go_wp2
                  refine ⟨HST.out _ HV.out, ?_⟩
                  simp [intOf] <;> omega
                · have q2 : (((P[p]'hpl).toNat : Int) == 42) = false := by rw [← hpc, hs]; rfl
                  have q3 : (((P[p]'hpl).toNat : Int) == 37) = true := by rw [← hpc, hs]; rfl
                  go_wp2
                  refine ⟨HST.out _ HV.out, ?_⟩
                  simp [intOf] <;> omega
              | succ k =>
                have hk : k < N.size := by omega
                have hki : (k : Int) < (N.size : Int) := by omega
                have hnc := byt_at N k hk
                have hgk := hg.1 k (by omega)
                rw [if_pos (Nat.lt_succ_self _)] at hgk
                have hGk : G (k + 1) = (F (k + 1) || (G k && (byt P p == 42 || byt N k != 47))) := by
                  rw [← HG.out]
                  show (if byt P p = 42 ∨ byt P p = 37 then _ else _) = _
                  rw [if_pos hstar]
                have hw1 : IntKind.i64.wrap ((k : Int) + 1 - 1) = (k : Int) := by rw [IntWalk.i64_in _ (by omega)]; omega
                rw [hFn, Bool.false_or] at hGk
                cases hGG : G k with
                | false =>
                  rw [hGG] at hgk hGk
                  have HV : Hid (false = G (k + 1)) := Lib.hid hGk.symm
                  clear hg hf hbel HF HGR hGk
                  rcases hstar with hs | hs
                  · have q2 : (((P[p]'hpl).toNat : Int) == 42) = true := by rw [← hpc, hs]; rfl
                    go_wp2
                    refine ⟨HST.out _ HV.out, ?_⟩
                    simp [intOf] <;> omega
                  · have q2 : (((P[p]'hpl).toNat : Int) == 42) = false := by rw [← hpc, hs]; rfl
                    have q3 : (((P[p]'hpl).toNat : Int) == 37) = true := by rw [← hpc, hs]; rfl
                    go_wp2
                    refine ⟨HST.out _ HV.out, ?_⟩
                    simp [intOf] <;> omega
                | true =>
                  rw [hGG] at hgk hGk
                  rw [Bool.true_and] at hGk
                  rcases hstar with hs | hs
                  · have q2 : (((P[p]'hpl).toNat : Int) == 42) = true := by rw [← hpc, hs]; rfl
                    have HV : Hid (true = G (k + 1)) := Lib.hid (by rw [hGk, hs]; rfl)
                    clear hg hf hbel HF HGR hGk
                    go_wp2
                    refine ⟨HST.out _ HV.out, ?_⟩
                    simp [intOf] <;> omega
                  · have q2 : (((P[p]'hpl).toNat : Int) == 42) = false := by rw [← hpc, hs]; rfl
                    have q3 : (((P[p]'hpl).toNat : Int) == 37) = true := by rw [← hpc, hs]; rfl
                    have HV : Hid ((((N[k]'hk).toNat : Int) != 47) = G (k + 1)) := Lib.hid (by
                      rw [hGk, hs, ← hnc]
                      show (!((byt N k : Int) == 47)) = (false || !(byt N k == 47))
                      rw [Bool.false_or]
                      congr 1
                      rw [Bool.eq_iff_iff, beq_iff_eq, beq_iff_eq]; omega)
                    clear hg hf hbel HF HGR hGk
                    go_wp2
                    refine ⟨HST.out _ HV.out, ?_⟩
                    simp [intOf] <;> omega
          · have q1 : ((((P[p]'hpl).toNat : Int) == 42) || (((P[p]'hpl).toNat : Int) == 37)) = false := by
              rw [← hpc, Bool.or_eq_false_iff, beq_eq_false_iff_ne, beq_eq_false_iff_ne]; omega
            have q2 : (((P[p]'hpl).toNat : Int) == 42) = false := by rw [← hpc, beq_eq_false_iff_ne]; omega
            have q3 : (((P[p]'hpl).toNat : Int) == 37) = false := by rw [← hpc, beq_eq_false_iff_ne]; omega
            cases n with
            | zero =>
              have HV : Hid (false = G 0) := Lib.hid (by rw [← HG.out]; simp [Gl.nextRow, hstar])
              clear hg hf hbel HF HGR
              go_wp2
              refine ⟨HST.out _ HV.out, ?_⟩
              simp [intOf] <;> omega
            | succ k =>
              have hk : k < N.size := by omega
              have hki : (k : Int) < (N.size : Int) := by omega
              have hnc := byt_at N k hk
              have hrn := hf.1 k (by omega)
              rw [if_pos (by omega)] at hrn
              have hGk : G (k + 1) = (F k && byt N k == byt P p) := by
                rw [← HG.out]
                show (if byt P p = 42 ∨ byt P p = 37 then _ else _) = _
                rw [if_neg hstar]
              have hw1 : IntKind.i64.wrap ((k : Int) + 1 - 1) = (k : Int) := by rw [IntWalk.i64_in _ (by omega)]; omega
              cases hFk : F k with
              | false =>
                rw [hFk] at hrn hGk
                have HV : Hid (false = G (k + 1)) := Lib.hid hGk.symm
                clear hg hf hbel HF HGR hGk
                go_wp2
                refine ⟨HST.out _ HV.out, ?_⟩
                simp [intOf] <;> omega
              | true =>
                rw [hFk] at hrn hGk
                have HV : Hid ((((N[k]'hk).toNat : Int) == ((P[p]'hpl).toNat : Int)) = G (k + 1)) := Lib.hid (by
                  rw [hGk, ← hnc, ← hpc, Bool.true_and, Bool.eq_iff_iff, beq_iff_eq, beq_iff_eq]; omega)
                clear hg hf hbel HF HGR hGk
                go_wp2
                refine ⟨HST.out _ HV.out, ?_⟩
                simp [intOf] <;> omega
        · have hne : n = N.size + 1 := by omega
          subst hne
          clear hg hf hbel
          go_wp2
          refine ⟨⟨p + 1, wO.heap.size, by omega, rfl, by go_num, by omega, by rw [HFG.out]; exact HGR.out, HBEL.out⟩, ?_⟩
          simp [intOf] <;> omega
    · have hpe : p = P.size := by omega
      subst hpe
      have hcell := hrow.1 N.size (Nat.le_refl _)
      rw [if_pos (Nat.lt_succ_self _)] at hcell
      have HBEL := Lib.hid hbel
      clear hrow hbel
      go_wp2
      go_ret
      exact ⟨rfl, HBEL.out⟩
end Go.Proofs.YtnglmaebmabdcaaDoor
