/- Coord: Redo. -/
import Derived.Test.YtleghofpabdkhaaY13
import Derived.Test.YtleghofpabdkhaaY15
import Derived.Test.YtleghofpabdkhaaY16
import Derived.Test.YtleghofpabdkhaaY17
namespace Go.Proofs.Ytleghofpabdkhaa
open Go Go.RowKit

/-- The name in what is left of a record, and whether it is right. -/
def nmX (c : Cd) (l : List UInt8) : Txn := ⟨c.node, (numV 4 l : Int), (numV 4 (restV 4 l) : Int)⟩
def nmR (c : Cd) (l : List UInt8) : Bool := countsB (nmX c l).boot && countsB (nmX c l).n
def nmL (l : List UInt8) : List UInt8 := restV 4 (restV 4 l)
def rsS (l : List UInt8) : St4 := (setE (shards (restV 1 l))).1
def rsR (l : List UInt8) : Bool := (setE (shards (restV 1 l))).2 && decide ((numV 1 l : Int) = ((restV 1 l).length : Int))
/-- Redo, in plain words. -/
def Cd.redo (c : Cd) (l : List UInt8) : Int × Cd :=
  if numV 1 l = 1 then (if countsB (numV 4 (restV 1 l) : Int) = true ∧ (restV 4 (restV 1 l)).length = 0 then c.live (numV 4 (restV 1 l) : Int) else (4, c))
  else if numV 1 l = 2 then (if nmR c (restV 1 l) = true ∧ rsR (nmL (restV 1 l)) = true then c.finish (nmX c (restV 1 l)) (rsS (nmL (restV 1 l))) else (4, c))
  else if numV 1 l = 3 then (if nmR c (restV 1 l) = true ∧ (nmL (restV 1 l)).length = 0 then c.over (nmX c (restV 1 l)) else (4, c))
  else (4, c)
theorem restV_len (n : Nat) (l : List UInt8) : (restV n l).length ≤ l.length := by unfold restV; split <;> (try rw [List.length_drop]) <;> omega
/-- The node behind a call that writes to the reader alone. -/
theorem rd_below {w W W' : World} {D : Nat} (hb : Below w.heap.size w W) (hD : w.heap.size ≤ D) (hf : Fr (· = D) W W') : Below w.heap.size w W' := hb.trans (hf.below hb.size (fun k e => by omega))
set_option maxHeartbeats 32000000 in
set_option maxRecDepth 100000 in
theorem redo_any (B p : Nat) (w : World) (c : Cd) (sv rv : Value) (l : List UInt8) (h : CdAt B w p c sv) (hr : Byz w rv l) (hB : B ≤ w.heap.size) (hn : c.under.length ≤ 900) (hl : l.length ≤ 1000000) :
    Calls Try.prog 13 #[.pointer (some ⟨p, 0, none⟩), rv] w fun e w' => e = .returned (.int .i64 (c.redo l).1) ∧ OpC B w p sv (c.redo l).2 w' := by
  obtain ⟨W0, hW0⟩ : ∃ W0, w.alloc (.cells #[rv] 89) = W0 := ⟨_, rfl⟩
  have hb0 : Below w.heap.size w W0 := by rw [← hW0]; exact (Below.refl _ w).alloc (Nat.le_refl _) _
  have hr0 : Rdr W0 w.heap.size rv l := ⟨by rw [← hW0]; exact heap_alloc_new w _, hr.below hb0, fun hne e => by have := hr.lt _ e hne; omega⟩
  obtain ⟨ra, rc, rfl⟩ := hr.1
  obtain ⟨K, hK⟩ : ∃ K, numV 1 l = K := ⟨_, rfl⟩
  obtain ⟨q, hq⟩ : ∃ q, restV 1 l = q := ⟨_, rfl⟩
  have hql : q.length ≤ 1000000 := by have := restV_len 1 l; rw [hq] at this; omega
  have hnum := number_any W0 w.heap.size _ l 1 hr0 (by decide) (by decide) (by omega)
  unfold NumR at hnum
  rw [hK, hq] at hnum
  have HNUM := Lib.hid hnum
  have HW0 := Lib.hid hW0
  have HH := Lib.hid h
  have HB0 := Lib.hid hb0
  have HSB := Lib.hid hB
  obtain ⟨R, hR⟩ : ∃ R, c.redo l = R := ⟨_, rfl⟩
  rw [hR]
  unfold Cd.redo at hR
  rw [hK, hq] at hR
  have HSAME : Hid (∀ W, Below w.heap.size w W → OpC B w p sv c W) := Lib.hid (fun W hW => OpC.same h hW)
  have hplt := h.lt
  clear h hr hB hb0 hr0 hW0 hK hq hnum
  go_enter Try.func13, Try.ntmps13
  go_wp2_with (first | rw [HW0.out])
  refine HNUM.out.mono ?_
  rintro e w1 ⟨s1, rfl, hr1, _, hf1⟩
  have HB1 := Lib.hid (rd_below HB0.out (Nat.le_refl _) hf1)
  have HR1 := Lib.hid hr1
  clear HNUM HW0 HB0 hr1 hf1
  rcases (by omega : K = 1 ∨ K = 2 ∨ K = 3 ∨ (K ≠ 1 ∧ K ≠ 2 ∧ K ≠ 3)) with hk | hk | hk | ⟨k1, k2, k3⟩
  · -- a life
    rw [if_pos hk] at hR
    have e1 : ((K : Int) == 1) = true := by rw [hk]; rfl
    obtain ⟨n, hn4⟩ : ∃ n, numV 4 q = n := ⟨_, rfl⟩
    obtain ⟨t, ht4⟩ : ∃ t, restV 4 q = t := ⟨_, rfl⟩
    have hnum := number_any w1 w.heap.size _ q 4 HR1.out (by decide) (by decide) (by omega)
    unfold NumR at hnum
    rw [hn4, ht4] at hnum hR
    have HNUM := Lib.hid hnum
    clear hnum hn4 ht4 hk
    go_wp2_with fail
    refine HNUM.out.mono ?_
    rintro e w2 ⟨s2, rfl, hr2, _, hf2⟩
    have hb2 := rd_below HB1.out (Nat.le_refl _) hf2
    obtain ⟨sa, sc, rfl⟩ := hr2.byz.1
    have c0 : w2.cell? ⟨w.heap.size, 0, none⟩ = some (.slice sa t.length sc) := cell_of_row _ _ _ _ _ _ hr2.blk
    have HCN := Lib.hid (counts_any (n : Int) w2)
    have HC2 := Lib.hid (HH.out.below hb2)
    have HB2 := Lib.hid hb2
    have HS2 := Lib.hid (HSAME.out _ hb2)
    clear HNUM HB1 HR1 hr2 hf2 hb2 e1
    go_wp2_with fail
    refine HCN.out.mono ?_
    rintro e w3 ⟨rfl, rfl⟩
    clear HCN
    cases hcn : countsB (n : Int) with
    | false =>
      have HR : Hid (R = (4, c)) := Lib.hid (by rw [← hR, hcn]; simp)
      clear hR hcn
      go_wp2
      go_ret
      rw [HR.out]
      exact ⟨rfl, HS2.out⟩
    | true =>
      by_cases ht : t.length = 0
      · have e2 : ((t.length : Int) == 0) = true := by rw [ht]; rfl
        have HR : Hid (R = c.live (n : Int)) := Lib.hid (by rw [← hR, if_pos ⟨hcn, ht⟩])
        have HLV := Lib.hid (live_any B p w2 c _ (n : Int) HC2.out (by omega))
        clear hR hcn ht
        go_wp2_with fail
        refine HLV.out.mono ?_
        rintro e w4 ⟨rfl, hop⟩
        have HE := Lib.hid (OpC.lift HB2.out hop)
        clear hop HLV HB2 HC2 HS2 c0
        go_wp2
        go_ret
        rw [HR.out]
        exact ⟨rfl, HE.out⟩
      · have e2 : ((t.length : Int) == 0) = false := beq_eq_false_iff_ne.2 (by omega)
        have HR : Hid (R = (4, c)) := Lib.hid (by rw [← hR, if_neg (by rintro ⟨_, h⟩; exact ht h)])
        clear hR hcn ht
        go_wp2
        go_ret
        rw [HR.out]
        exact ⟨rfl, HS2.out⟩
  · -- one that is done
    rw [if_neg (by omega), if_pos hk] at hR
    have e1 : ((K : Int) == 1) = false := beq_eq_false_iff_ne.2 (by omega)
    have e2 : ((K : Int) == 2) = true := by rw [hk]; rfl
    have hc1 := HH.out.below HB1.out
    have hnm := name_any B p w.heap.size w1 c _ _ q hc1 HR1.out (by omega) (by omega)
    unfold NameR at hnm
    obtain ⟨X, hX⟩ : ∃ X, nmX c q = X := ⟨_, rfl⟩
    obtain ⟨b1, hb1⟩ : ∃ b, nmR c q = b := ⟨_, rfl⟩
    obtain ⟨t, ht⟩ : ∃ t, nmL q = t := ⟨_, rfl⟩
    have htl : t.length ≤ 1000000 := by rw [← ht]; unfold nmL; have := restV_len 4 (restV 4 q); have := restV_len 4 q; omega
    rw [hb1, hX, ht] at hR
    have hX2 : (⟨c.node, (numV 4 q : Int), (numV 4 (restV 4 q) : Int)⟩ : Txn) = X := hX
    have ht2 : restV 4 (restV 4 q) = t := ht
    have hb12 : (countsB X.boot && countsB X.n) = b1 := by rw [← hb1, ← hX]; rfl
    rw [hX2, ht2, hb12] at hnm
    have HNM := Lib.hid hnm
    have HCX : Hid (b1 = true → 0 ≤ X.n ∧ X.n ≤ 2147483647) := Lib.hid (fun e => by
      rw [e] at hb12
      unfold countsB at hb12
      simp only [Bool.and_eq_true, decide_eq_true_eq] at hb12
      omega)
    clear hc1 hnm hX hb1 ht hX2 ht2 hb12 hk
    go_wp2_with fail
    refine HNM.out.mono ?_
    rintro e w2 ⟨s2, rfl, hr2, _, hf2⟩
    have hb2 := rd_below HB1.out (Nat.le_refl _) hf2
    obtain ⟨w3, hw3⟩ : ∃ w3, w2.alloc (.cells (txA X) 33) = w3 := ⟨_, rfl⟩
    have hb23 : Below w2.heap.size w2 w3 := by rw [← hw3]; exact (Below.refl _ w2).alloc (Nat.le_refl _) _
    have hrx : w3.heap[w2.heap.size]? = some (.cells (txA X) 33 (0, 0)) := by rw [← hw3]; exact heap_alloc_new w2 _
    have hb3 : Below w.heap.size w w3 := hb2.trans (hb23.mono hb2.size)
    have hrs := rset_any w.heap.size w3 _ t (hr2.below hb23) htl
    obtain ⟨S, hS⟩ : ∃ S, rsS t = S := ⟨_, rfl⟩
    obtain ⟨r2, hrr⟩ : ∃ r2, rsR t = r2 := ⟨_, rfl⟩
    rw [hS, hrr] at hR
    have hS2 : (setE (shards (restV 1 t))).1 = S := hS
    have hrr2 : ((setE (shards (restV 1 t))).2 && decide ((numV 1 t : Int) = ((restV 1 t).length : Int))) = r2 := hrr
    unfold RSetR at hrs
    rw [hS2, hrr2] at hrs
    have HRS := Lib.hid hrs
    have HW3 := Lib.hid hw3
    have HRX := Lib.hid hrx
    have HB3 := Lib.hid hb3
    have HSZ : Hid (w.heap.size < w2.heap.size) := Lib.hid hr2.lt
    unfold txA at HW3
    unfold txV
    clear HNM HB1 HR1 hr2 hf2 hb2 hb23 hrx hb3 hrs hS hrr hS2 hrr2 hw3 e1
    go_wp2_with (first | rw [HW3.out])
    refine HRS.out.mono ?_
    rintro e w4 ⟨rfl, hf4⟩
    obtain ⟨w5, hw5⟩ : ∃ w5, w4.alloc (.cells (setA S) 74) = w5 := ⟨_, rfl⟩
    have hb45 : Below w4.heap.size w4 w5 := by rw [← hw5]; exact (Below.refl _ w4).alloc (Nat.le_refl _) _
    have hrs5 : w5.heap[w4.heap.size]? = some (.cells (setA S) 74 (0, 0)) := by rw [← hw5]; exact heap_alloc_new w4 _
    have hb4 := rd_below HB3.out (Nat.le_refl _) hf4
    have hb5 : Below w.heap.size w w5 := hb4.trans (hb45.mono hb4.size)
    have hrx4 := (hf4.block _ (lt_of_row' HRX.out) (by have := HSZ.out; omega)).trans HRX.out
    have hrx5 := (hb45.block _ (lt_of_row' hrx4)).trans hrx4
    have HW5 := Lib.hid hw5
    have HRX5 := Lib.hid hrx5
    have HRS5 := Lib.hid hrs5
    have HB5 := Lib.hid hb5
    have HS5 := Lib.hid (HSAME.out _ hb5)
    have HIX := Lib.hid (infoTx X)
    have HIS := Lib.hid (infoS4 S)
    unfold setA at HW5 HRS5 HIS
    unfold txA at HRX5 HIX
    unfold setV
    clear HRS HW3 HRX HB3 HSZ hw5 hb45 hrs5 hb4 hb5 hrx4 hrx5 hf4
    cases b1 with
    | false =>
      have HR : Hid (R = (4, c)) := Lib.hid (by rw [← hR]; simp)
      clear hR HCX
      go_wp2_with (first | rw [HW5.out])
      go_ret
      rw [HR.out]
      exact ⟨rfl, HS5.out⟩
    | true =>
      cases r2 with
      | false =>
        have HR : Hid (R = (4, c)) := Lib.hid (by rw [← hR]; simp)
        clear hR HCX
        go_wp2_with (first | rw [HW5.out])
        go_ret
        rw [HR.out]
        exact ⟨rfl, HS5.out⟩
      | true =>
        have HR : Hid (R = c.finish X S) := Lib.hid (by rw [← hR]; rfl)
        obtain ⟨x1, x2⟩ := HCX.out rfl
        have hfi := finish_any B p w5 c _ X S (HH.out.below HB5.out) (Nat.le_trans HSB.out HB5.out.size) hn x1 x2
        unfold txV setV at hfi
        have HFI := Lib.hid hfi
        clear hR HCX hfi x1 x2
        go_wp2_with (first
          | rw [HW5.out]
          | (refine wpList_load_row rfl 33 _ rfl w2.heap.size rfl 33 _ (0, 0) _ HRX5.out Try.underlying33 rfl HIX.out ?_)
          | (refine wpList_load_row rfl 74 _ rfl w4.heap.size rfl 74 _ (0, 0) _ HRS5.out Try.underlying74 rfl HIS.out ?_))
        refine HFI.out.mono ?_
        rintro e w6 ⟨rfl, hop⟩
        have HE := Lib.hid (OpC.lift HB5.out hop)
        clear hop HFI HB5 HS5 HW5 HRX5 HRS5
        go_wp2
        go_ret
        rw [HR.out]
        exact ⟨rfl, HE.out⟩
  · -- one that is over
    rw [if_neg (by omega), if_neg (by omega), if_pos hk] at hR
    have e1 : ((K : Int) == 1) = false := beq_eq_false_iff_ne.2 (by omega)
    have e2 : ((K : Int) == 2) = false := beq_eq_false_iff_ne.2 (by omega)
    have e3 : ((K : Int) == 3) = true := by rw [hk]; rfl
    have hc1 := HH.out.below HB1.out
    have hnm := name_any B p w.heap.size w1 c _ _ q hc1 HR1.out (by omega) (by omega)
    unfold NameR at hnm
    obtain ⟨X, hX⟩ : ∃ X, nmX c q = X := ⟨_, rfl⟩
    obtain ⟨b1, hb1⟩ : ∃ b, nmR c q = b := ⟨_, rfl⟩
    obtain ⟨t, ht⟩ : ∃ t, nmL q = t := ⟨_, rfl⟩
    rw [hb1, hX, ht] at hR
    have hX2 : (⟨c.node, (numV 4 q : Int), (numV 4 (restV 4 q) : Int)⟩ : Txn) = X := hX
    have ht2 : restV 4 (restV 4 q) = t := ht
    have hb12 : (countsB X.boot && countsB X.n) = b1 := by rw [← hb1, ← hX]; rfl
    rw [hX2, ht2, hb12] at hnm
    have HNM := Lib.hid hnm
    clear hc1 hnm hX hb1 ht hX2 ht2 hb12 hk
    go_wp2_with fail
    refine HNM.out.mono ?_
    rintro e w2 ⟨s2, rfl, hr2, _, hf2⟩
    have hb2 := rd_below HB1.out (Nat.le_refl _) hf2
    obtain ⟨w3, hw3⟩ : ∃ w3, w2.alloc (.cells (txA X) 33) = w3 := ⟨_, rfl⟩
    have hb23 : Below w2.heap.size w2 w3 := by rw [← hw3]; exact (Below.refl _ w2).alloc (Nat.le_refl _) _
    have hrx : w3.heap[w2.heap.size]? = some (.cells (txA X) 33 (0, 0)) := by rw [← hw3]; exact heap_alloc_new w2 _
    have hb3 : Below w.heap.size w w3 := hb2.trans (hb23.mono hb2.size)
    obtain ⟨sa, sc, rfl⟩ := hr2.byz.1
    have c0 : w3.cell? ⟨w.heap.size, 0, none⟩ = some (.slice sa t.length sc) := cell_of_row _ _ _ _ _ _ (hr2.below hb23).blk
    have HW3 := Lib.hid hw3
    have HRX := Lib.hid hrx
    have HB3 := Lib.hid hb3
    have HS3 := Lib.hid (HSAME.out _ hb3)
    have HIX := Lib.hid (infoTx X)
    unfold txA at HW3 HRX HIX
    unfold txV
    clear HNM HB1 HR1 hr2 hf2 hb2 hb23 hrx hb3 hw3 e1 e2
    cases b1 with
    | false =>
      have HR : Hid (R = (4, c)) := Lib.hid (by rw [← hR]; simp)
      clear hR
      go_wp2_with (first | rw [HW3.out])
      go_ret
      rw [HR.out]
      exact ⟨rfl, HS3.out⟩
    | true =>
      by_cases ht : t.length = 0
      · have e4 : ((t.length : Int) == 0) = true := by rw [ht]; rfl
        have HR : Hid (R = c.over X) := Lib.hid (by rw [← hR, if_pos ⟨rfl, ht⟩])
        have hov := end_any B p w3 c _ X (HH.out.below HB3.out) (by omega)
        unfold txV at hov
        have HOV := Lib.hid hov
        clear hR ht hov
        go_wp2_with (first
          | rw [HW3.out]
          | (refine wpList_load_row rfl 33 _ rfl w2.heap.size rfl 33 _ (0, 0) _ HRX.out Try.underlying33 rfl HIX.out ?_))
        refine HOV.out.mono ?_
        rintro e w4 ⟨rfl, hop⟩
        have HE := Lib.hid (OpC.lift HB3.out hop)
        clear hop HOV HB3 HS3 HW3 HRX c0
        go_wp2
        go_ret
        rw [HR.out]
        exact ⟨rfl, HE.out⟩
      · have e4 : ((t.length : Int) == 0) = false := beq_eq_false_iff_ne.2 (by omega)
        have HR : Hid (R = (4, c)) := Lib.hid (by rw [← hR, if_neg (by rintro ⟨_, h⟩; exact ht h)])
        clear hR ht
        go_wp2_with (first | rw [HW3.out])
        go_ret
        rw [HR.out]
        exact ⟨rfl, HS3.out⟩
  · rw [if_neg k1, if_neg k2, if_neg k3] at hR
    have e1 : ((K : Int) == 1) = false := beq_eq_false_iff_ne.2 (by omega)
    have e2 : ((K : Int) == 2) = false := beq_eq_false_iff_ne.2 (by omega)
    have e3 : ((K : Int) == 3) = false := beq_eq_false_iff_ne.2 (by omega)
    have HR : Hid (R = (4, c)) := Lib.hid hR.symm
    have HS1 := Lib.hid (HSAME.out _ HB1.out)
    clear hR k1 k2 k3
    go_wp2
    go_ret
    rw [HR.out]
    exact ⟨rfl, HS1.out⟩
end Go.Proofs.Ytleghofpabdkhaa
