/- Frame: what One tells, over lists; One by the code. -/
import Derived.Test.YtjlhcgimijcghaaF9
import Derived.Deep.RegionHeld3
import Derived.BigQuiet
import Derived.Laws.Cover3
namespace Go.Proofs.Ytjlhcgimijcghaa
open Go Go.RowKit

/-- What the frame at a place holds, the place behind it, and the fault. -/
def oneP (b : List UInt8) (k : Nat) : List UInt8 × Int × Int :=
  if b.length < k then ([], 0, 2) else if b.length - k < 6 then ([], 0, 3) else
  if numF ((b.drop k).take 2) 0 = 0 ∨ 2000 < numF ((b.drop k).take 2) 0 then ([], 0, 4) else
  if b.length - k - 6 < numF ((b.drop k).take 2) 0 then ([], 0, 3) else
  if numF (((b.drop k).drop 2).take 4) 0 = crcN ((b.drop k).take 2 ++ ((b.drop k).drop 6).take (numF ((b.drop k).take 2) 0)) then
    (((b.drop k).drop 6).take (numF ((b.drop k).take 2) 0), ((k + 6 + numF ((b.drop k).take 2) 0 : Nat) : Int), 0) else ([], 0, 5)

theorem bel_draws {B : Nat} {a w : World} (h : Below B a w) (n : Nat) : Below B a (w.drewN n) := h.trans ⟨rfl, rfl, rfl, Nat.le_refl _, fun _ _ => rfl⟩
theorem cutA_zero {w : World} {a : Option Addr} {n cap : Nat} {l : List UInt8} (h : Byt w (.slice a n cap) l) : cutA a 0 cap = a := by
  obtain ⟨a', cap', hv, h2, h3, h4⟩ := h
  injection hv with e1 e2 e3
  subst e1 e3
  unfold cutA
  split
  · rfl
  · cases a with
    | none => rfl
    | some ad =>
      obtain ⟨g, off, rfl, _⟩ := h4 _ rfl
      simp [addr_plus]

set_option maxHeartbeats 1000000 in
theorem clone_any (a : Option Addr) (c : Nat) (l : List UInt8) (w : World) (hv : Byt w (.slice a l.length c) l) (h0 : l.length ≠ 0) (hl : l.length ≤ 140737488355328) :
    Calls Try.prog 23 #[.slice a l.length c] w fun e w' => ∃ v, e = .returned v ∧ Row w.heap.size w' v l ∧ Below w.heap.size w w' := by
  obtain ⟨g, off, rfl, _, _, _⟩ := hv.at (j := 0) (by omega)
  have hE := Row.made w 5 [] #[] rfl (Nat.le_refl _) (by decide)
  rw [List.length_nil] at hE
  have hb : Below w.heap.size w (w.alloc (.cells #[] 5)) := (Below.refl _ w).alloc (Nat.le_refl _) _
  obtain ⟨v1, w1, r1, R1, g1, _⟩ := app_row _ hE (hv.below hb) (by simp) (by simp; omega)
  rw [List.nil_append] at R1
  have hb1 := below_grow hb hE hb.size g1
  obtain ⟨a1, k1, rfl, hcap1⟩ := R1.1.shape
  have hnil : (binOp .eql 22 (.slice (some ⟨g, off, none⟩) l.length c) (.slice none 0 0)).run Try.prog w = .ok (.bool false) w := by
    simp only [binOp]
    simp [run_equal_slice_nil w 22 5 _ _ _ Try.underlying22]
  have K1 := Lib.hid r1
  have HB := Lib.hid hb1
  have HR := Lib.hid R1
  clear r1 hb1 R1 g1 hE hb hv
  go_enter Try.func23, Try.ntmps23
  go_wp2_with (at_builtin; refine wpList_append_run _ rfl _ _ 22 22 rfl _ _ rfl rfl _ w1 K1.out ?_)
  go_ret
  exact ⟨_, rfl, HR.out, HB.out⟩

theorem one_neg (v : Value) (i : Int) (w : World) (hi : i < 0) :
    Calls Try.prog 14 #[v, .int .i64 i] w fun e w' => e = .returned (.tuple #[.slice none 0 0, .int .i64 0, .int .i64 2]) ∧ w' = w := by
  go_enter Try.func14, Try.ntmps14
  go_wp2
  go_ret3
  exact ⟨rfl, rfl⟩
theorem one_past (v : Value) (l : List UInt8) (k : Nat) (w : World) (hv : Byt w v l) (hk : l.length < k) :
    Calls Try.prog 14 #[v, .int .i64 (k : Int)] w fun e w' => e = .returned (.tuple #[.slice none 0 0, .int .i64 0, .int .i64 2]) ∧ w' = w := by
  obtain ⟨a, c, rfl, hcap⟩ := hv.shape
  go_enter Try.func14, Try.ntmps14
  go_wp2
  go_ret3
  exact ⟨rfl, rfl⟩

set_option maxHeartbeats 1000000 in
theorem one_short (v : Value) (l : List UInt8) (k : Nat) (w : World) (hv : Byt w v l) (hk : k ≤ l.length) (h6 : l.length - k < 6) :
    Calls Try.prog 14 #[v, .int .i64 (k : Int)] w fun e w' => e = .returned (.tuple #[.slice none 0 0, .int .i64 0, .int .i64 3]) ∧ w' = w := by
  obtain ⟨a, c, rfl, hcap⟩ := hv.shape
  have hcut := run_cut_from (P := Try.prog) w 22 5 Try.underlying22 sz5 a l.length c k hk
  generalize cutA a k c = a0 at hcut
  clear hv
  go_enter Try.func14, Try.ntmps14
  go_wp2
  go_ret3
  exact ⟨rfl, rfl⟩

set_option maxHeartbeats 2000000 in
theorem one_main (v : Value) (l : List UInt8) (k : Nat) (w : World) (hv : Byt w v l) (hk : k ≤ l.length) (h6 : ¬ l.length - k < 6) (hl : l.length ≤ 140737488355328) :
    Calls Try.prog 14 #[v, .int .i64 (k : Int)] w fun e w' => ∃ v', e = .returned (.tuple #[v', .int .i64 (oneP l k).2.1, .int .i64 (oneP l k).2.2]) ∧ Row w.heap.size w' v' (oneP l k).1 ∧ Below w.heap.size w w' := by
  have hP : oneP l k = if numF ((l.drop k).take 2) 0 = 0 ∨ 2000 < numF ((l.drop k).take 2) 0 then ([], 0, 4) else
      if l.length - k - 6 < numF ((l.drop k).take 2) 0 then ([], 0, 3) else
      if numF (((l.drop k).drop 2).take 4) 0 = crcN ((l.drop k).take 2 ++ ((l.drop k).drop 6).take (numF ((l.drop k).take 2) 0)) then
        (((l.drop k).drop 6).take (numF ((l.drop k).take 2) 0), ((k + 6 + numF ((l.drop k).take 2) 0 : Nat) : Int), 0) else ([], 0, 5) := by
    unfold oneP
    rw [if_neg (by omega), if_neg h6]
  generalize oneP l k = O at *
  obtain ⟨a, c, rfl, hcap⟩ := hv.shape
  have hc0 := run_cut_from (P := Try.prog) w 22 5 Try.underlying22 sz5 a l.length c k hk
  have hv0 := hv.cut k l.length c hk (Nat.le_refl _) hcap (Nat.le_refl _)
  rw [List.take_of_length_le (by rw [List.length_drop]; omega)] at hv0
  have hn0 : (l.drop k).length = l.length - k := List.length_drop
  generalize l.drop k = r at *
  generalize cutA a k c = a0 at *
  generalize hN : l.length - k = N at *
  generalize hC : c - k = C at *
  have hNC : N ≤ C := by omega
  have q0 := cutA_zero hv0
  have hvL := hv0.cut 0 2 C (by omega) (by omega) (by omega) (Nat.le_refl _)
  have hv2 := hv0.cut 2 N C (by omega) (Nat.le_refl _) hNC (Nat.le_refl _)
  have c1 : ∀ W : World, (Instr.slice 22 (.slice a0 N C) none (some (.int .i64 2)) none).run Try.prog W = .ok (.slice (cutA a0 0 C) 2 C) W := fun W => run_cut_to (P := Try.prog) W 22 5 Try.underlying22 sz5 a0 N C 2 (by omega)
  have c2 : ∀ W : World, (Instr.slice 22 (.slice a0 N C) (some (.int .i64 2)) none none).run Try.prog W = .ok (.slice (cutA a0 2 C) (N - 2) (C - 2)) W := fun W => run_cut_from (P := Try.prog) W 22 5 Try.underlying22 sz5 a0 N C 2 (by omega)
  rw [q0] at hvL c1
  rw [Nat.sub_zero, Nat.sub_zero, List.drop_zero] at hvL
  rw [List.take_of_length_le (by rw [List.length_drop]; omega)] at hv2
  generalize cutA a0 2 C = a2 at *
  have q2 := cutA_zero hv2
  have hvC := hv2.cut 0 4 (C - 2) (by omega) (by omega) (by omega) (Nat.le_refl _)
  have hv3 := hv2.cut 4 (N - 2) (C - 2) (by omega) (Nat.le_refl _) (by omega) (Nat.le_refl _)
  have c3 : ∀ W : World, (Instr.slice 22 (.slice a2 (N - 2) (C - 2)) none (some (.int .i64 4)) none).run Try.prog W = .ok (.slice (cutA a2 0 (C - 2)) 4 (C - 2)) W := fun W => run_cut_to (P := Try.prog) W 22 5 Try.underlying22 sz5 a2 (N - 2) (C - 2) 4 (by omega)
  have c4 : ∀ W : World, (Instr.slice 22 (.slice a2 (N - 2) (C - 2)) (some (.int .i64 4)) none none).run Try.prog W = .ok (.slice (cutA a2 4 (C - 2)) (N - 2 - 4) (C - 2 - 4)) W := fun W => run_cut_from (P := Try.prog) W 22 5 Try.underlying22 sz5 a2 (N - 2) (C - 2) 4 (by omega)
  rw [q2] at hvC c3
  rw [Nat.sub_zero, Nat.sub_zero, List.drop_zero] at hvC
  rw [List.take_of_length_le (by simp only [List.length_drop]; omega), List.drop_drop, show 2 + 4 = 6 from rfl] at hv3
  generalize cutA a2 4 (C - 2) = a3 at *
  have hNl : numF (r.take 2) 0 < 65536 := by
    match r, hn0 with
    | [], h => simp at h; omega
    | [_], h => simp at h; omega
    | x :: y :: t, _ =>
      have := x.toNat_lt; have := y.toNat_lt
      simp [numF]; omega
  have cnum : ∀ W, Below w.heap.size w W → Calls Try.prog 22 #[.slice a0 2 C] W fun e w' => e = .returned (.int .u32 (numF (r.take 2) 0 : Nat)) ∧ Below w.heap.size w w' := fun W hb => (number_any _ _ W (hvL.below hb) (by rw [List.length_take]; omega)).mono fun e w' ⟨h1, h2⟩ => ⟨h1, hb.trans (h2.mono hb.size)⟩
  generalize numF (r.take 2) 0 = n at *
  have HCN := Lib.hid cnum
  have HV0 := Lib.hid hv0
  have HVL := Lib.hid hvL
  have HVC := Lib.hid hvC
  have HV3 := Lib.hid hv3
  have HP := Lib.hid hP
  clear hv0 hvL hv2 hvC hv3 hP q0 q2 hv cnum
  go_enter Try.func14, Try.ntmps14
  go_wp2_with fail
  go_quiet (fail)
  have bq := bel_draws (Below.refl w.heap.size w) nq
  generalize w.drewN nq = wp at bq ⊢
  go_wp2_with fail
  go_quiet (fail)
  have bq2 := bel_draws bq nq
  clear bq
  generalize wp.drewN nq = wq at bq2 ⊢
  go_wp2_with fail
  refine (HCN.out _ bq2).mono ?_
  rintro e w1 ⟨rfl, b1⟩
  clear bq2
  by_cases hn : n = 0 ∨ 2000 < n
  · have HO := HP.out
    rw [if_pos hn] at HO
    subst HO
    have HB := Lib.hid b1
    clear HV0 HVL HVC HV3 HP HCN b1
    by_cases h0 : n = 0
    · subst h0
      go_wp2
      go_ret3
      exact ⟨_, rfl, Row.nil _ _, HB.out⟩
    · have hnb : ((n : Int) == 0) = false := by rw [beq_eq_false_iff_ne]; omega
      have hnn : (2000 : Int) < (n : Int) := by omega
      go_wp2
      go_ret3
      exact ⟨_, rfl, Row.nil _ _, HB.out⟩
  · have hnb : ((n : Int) == 0) = false := by rw [beq_eq_false_iff_ne]; omega
    have hnn : ¬ (2000 : Int) < (n : Int) := by omega
    by_cases hs : N - 6 < n
    · have HO := HP.out
      rw [if_neg hn, if_pos hs] at HO
      subst HO
      have HB := Lib.hid b1
      clear HV0 HVL HVC HV3 HP HCN b1
      have hss : ((N - 2 - 4 : Nat) : Int) < (n : Int) := by omega
      go_wp2
      go_ret3
      exact ⟨_, rfl, Row.nil _ _, HB.out⟩
    · have hss : ¬ ((N - 2 - 4 : Nat) : Int) < (n : Int) := by omega
      have hv3 := HV3.out
      have c5 : ∀ W : World, (Instr.slice 22 (.slice a3 (N - 2 - 4) (C - 2 - 4)) none (some (.int .i64 (n : Int))) none).run Try.prog W = .ok (.slice (cutA a3 0 (C - 2 - 4)) n (C - 2 - 4)) W := fun W => run_cut_to (P := Try.prog) W 22 5 Try.underlying22 sz5 a3 (N - 2 - 4) (C - 2 - 4) n (by omega)
      have hvP := hv3.cut 0 n (C - 2 - 4) (by omega) (by omega) (by omega) (Nat.le_refl _)
      rw [cutA_zero hv3] at hvP c5
      rw [Nat.sub_zero, Nat.sub_zero, List.drop_zero] at hvP
      have hlP : ((r.drop 6).take n).length = n := by rw [List.length_take, List.length_drop]; omega
      have hvL1 := HVL.out.below b1
      have hvP1 := hvP.below b1
      have hvC1 := HVC.out.below b1
      have HO := HP.out
      rw [if_neg hn, if_neg hs] at HO
      have cn : ∀ W, Below w1.heap.size w1 W → Calls Try.prog 22 #[.slice a2 4 (C - 2)] W fun e w' => e = .returned (.int .u32 (numF ((r.drop 2).take 4) 0 : Nat)) ∧ Below w1.heap.size w1 w' ∧ Below W.heap.size W w' := fun W hb => (number_any _ _ W (hvC1.below hb) (by rw [List.length_take]; omega)).mono fun e w' ⟨h1, h2⟩ => ⟨h1, hb.trans (h2.mono hb.size), h2⟩
      have cs : ∀ W1 G, G = W1.heap.size → Below w1.heap.size w1 W1 → ∀ W2, Below (W1.alloc (.cells #[.slice a0 2 C, .slice a3 n (C - 2 - 4)] 22)).heap.size (W1.alloc (.cells #[.slice a0 2 C, .slice a3 n (C - 2 - 4)] 22)) W2 →
          Calls Try.prog 19 #[.slice (some ⟨G, 0, none⟩) 2 2] W2 fun e w' => e = .returned (.int .u32 (crcN (r.take 2 ++ (r.drop 6).take n) : Nat)) ∧ Below w1.heap.size w1 w' := by
        intro W1 G hG hb1 W2 hb2
        subst hG
        have hR := (rd_two (hvL1.below hb1) (hvP1.below hb1) 22).below hb2
        have hba : Below w1.heap.size w1 (W1.alloc (.cells #[.slice a0 2 C, .slice a3 n (C - 2 - 4)] 22)) := hb1.alloc hb1.size _
        have hb3 := hba.trans (hb2.mono hba.size)
        have := sum_any W1.heap.size 2 [.slice a0 2 C, .slice a3 n (C - 2 - 4)] [r.take 2, (r.drop 6).take n] W2 (by simp) (by simp; omega) hR (by have := hb2.size; simp at this; omega)
        simp only [List.flatten_cons, List.flatten_nil, List.append_nil, List.length_cons, List.length_nil] at this
        exact this.mono fun e w' ⟨h1, h2⟩ => ⟨h1, hb3.trans (h2.mono hb3.size)⟩
      have cs2 : ∀ W2, Below (w1.alloc (.cells #[.slice a0 2 C, .slice a3 n (C - 2 - 4)] 22)).drew.heap.size (w1.alloc (.cells #[.slice a0 2 C, .slice a3 n (C - 2 - 4)] 22)).drew W2 →
          Calls Try.prog 19 #[.slice (some ⟨w1.heap.size, 0, none⟩) 2 2] W2 fun e w' => e = .returned (.int .u32 (crcN (r.take 2 ++ (r.drop 6).take n) : Nat)) ∧ Below w1.heap.size w1 w' :=
        fun W2 h => cs w1 _ rfl (Below.refl _ _) W2 ⟨h.os, h.tape, h.output, h.size, h.block⟩
      have bd : Below w1.heap.size w1 w1.drew := ⟨rfl, rfl, rfl, Nat.le_refl _, fun _ _ => rfl⟩
      have HB := Lib.hid b1
      have HVP := Lib.hid hvP1
      have HLP := Lib.hid hlP
      generalize numF ((r.drop 2).take 4) 0 = y at *
      generalize crcN (r.take 2 ++ (r.drop 6).take n) = z at *
      generalize (r.drop 6).take n = P at *
      have HOO := Lib.hid HO
      clear HV0 HVL HVC HV3 HP HCN b1 hv3 hvP hvL1 hvP1 hvC1 hlP HO
      go_wp2_with fail
      go_region_held3 (fun wx => Below w1.heap.size w1 wx) (first | assumption | (exact Below.alloc (by assumption) (Below.size (B := w1.heap.size) (by assumption)) _)) (first
        | (go_at_call 22; ((with_reducible refine (cn _ (by assumption)).mono ?_); rintro e wn ⟨rfl, hBn, hBm⟩))
        | (go_at_call 19; ((first | (with_reducible refine (cs2 _ (by assumption)).mono ?_) | (with_reducible refine (cs2 _ (Below.refl _ _)).mono ?_) | (with_reducible refine (cs _ _ rfl (by assumption) _ (Below.refl _ _)).mono ?_)); rintro e wn ⟨rfl, hBn⟩)))
      all_goals
        have HBn := Lib.hid (HB.out.trans (hBn.mono HB.out.size))
        have hvn := HVP.out.below hBn
        have hcl := clone_any a3 (C - 2 - 4) P wn (by rw [HLP.out]; exact hvn) (by rw [HLP.out]; omega) (by rw [HLP.out]; omega)
        rw [HLP.out] at hcl
        have HCL := Lib.hid hcl
        have HO := HOO.out
        clear hBn hcl hvn HB HVP cn cs cs2 bd
        by_cases hy : y = z
        · rw [if_pos hy, Int.natCast_add, Int.natCast_add] at HO
          have hyb : ((y : Int) != (z : Int)) = false := by rw [hy]; simp
          subst HO
          clear hy
          go_wp2_with fail
          refine HCL.out.mono ?_
          rintro e w5 ⟨v5, rfl, R5, b5⟩
          have HB5 := Lib.hid (HBn.out.trans (b5.mono HBn.out.size))
          have HR5 := Lib.hid (R5.less HBn.out.size)
          obtain ⟨a5, k5, rfl, hcap5⟩ := R5.1.shape
          clear R5 b5
          rw [HLP.out] at *
          go_wp2
          go_ret3
          exact ⟨_, rfl, HR5.out, HB5.out⟩
        · rw [if_neg hy] at HO
          have hyb : ((y : Int) != (z : Int)) = true := by rw [bne_iff_ne]; omega
          subst HO
          clear hy
          go_wp2_with fail
          go_ret3
          exact ⟨_, rfl, Row.nil _ _, HBn.out⟩
/-- One, wherever it is asked. -/
theorem one_any (v : Value) (l : List UInt8) (k : Nat) (w : World) (hv : Byt w v l) (hl : l.length ≤ 140737488355328) :
    Calls Try.prog 14 #[v, .int .i64 (k : Int)] w fun e w' => ∃ v', e = .returned (.tuple #[v', .int .i64 (oneP l k).2.1, .int .i64 (oneP l k).2.2]) ∧ Row w.heap.size w' v' (oneP l k).1 ∧ Below w.heap.size w w' := by
  by_cases hk : l.length < k
  · refine (one_past v l k w hv hk).mono ?_
    rintro e w' ⟨rfl, rfl⟩
    have : oneP l k = ([], 0, 2) := by unfold oneP; rw [if_pos hk]
    rw [this]
    exact ⟨_, rfl, Row.nil _ _, Below.refl _ _⟩
  · by_cases h6 : l.length - k < 6
    · refine (one_short v l k w hv (by omega) h6).mono ?_
      rintro e w' ⟨rfl, rfl⟩
      have : oneP l k = ([], 0, 3) := by unfold oneP; rw [if_neg hk, if_pos h6]
      rw [this]
      exact ⟨_, rfl, Row.nil _ _, Below.refl _ _⟩
    · exact one_main v l k w hv (by omega) h6 hl
end Go.Proofs.Ytjlhcgimijcghaa
