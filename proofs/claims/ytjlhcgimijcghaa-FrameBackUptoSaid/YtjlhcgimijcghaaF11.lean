/- Frame: One by the reference. -/
import Derived.Test.YtjlhcgimijcghaaF10
namespace Go.Proofs.Ytjlhcgimijcghaa
open Go Go.RowKit

theorem rowL_back2 (x y : UInt8) : rowL (numF [x, y] 0) 2 = [x, y] := by
  have hx := x.toNat_lt
  have hy := y.toNat_lt
  rw [rowL_two]
  have e : numF [x, y] 0 = x.toNat * 256 + y.toNat := by simp [numF]; omega
  rw [e]
  congr 1
  · apply UInt8.toNat_inj.1; rw [UInt8.toNat_ofNat']; omega
  · congr 1
    apply UInt8.toNat_inj.1; rw [UInt8.toNat_ofNat']; omega
theorem rowL_back4 (x y z t : UInt8) : rowL (numF [x, y, z, t] 0) 4 = [x, y, z, t] := by
  have hx := x.toNat_lt
  have hy := y.toNat_lt
  have hz := z.toNat_lt
  have ht := t.toNat_lt
  rw [rowL_four]
  have e : numF [x, y, z, t] 0 = x.toNat * 16777216 + y.toNat * 65536 + z.toNat * 256 + t.toNat := by simp [numF]; omega
  rw [e]
  congr 1
  · apply UInt8.toNat_inj.1; rw [UInt8.toNat_ofNat']; omega
  · congr 1
    · apply UInt8.toNat_inj.1; rw [UInt8.toNat_ofNat']; omega
    · congr 1
      · apply UInt8.toNat_inj.1; rw [UInt8.toNat_ofNat']; omega
      · congr 1
        apply UInt8.toNat_inj.1; rw [UInt8.toNat_ofNat']; omega
theorem numF_rowL4 (c : Nat) (h : c < 4294967296) : numF (rowL c 4) 0 = c := by
  rw [rowL_four]; simp [numF, UInt8.toNat_ofNat']; omega
theorem list2 (l : List UInt8) (h : l.length = 2) : ∃ x y, l = [x, y] := by
  match l, h with
  | [x, y], _ => exact ⟨x, y, rfl⟩
theorem list4 (l : List UInt8) (h : l.length = 4) : ∃ x y z t, l = [x, y, z, t] := by
  match l, h with
  | [x, y, z, t], _ => exact ⟨x, y, z, t, rfl⟩
/-- The sum that stands is the sum just if the frame is the one that what it holds makes. -/
theorem pack_iff (r : List UInt8) (n : Nat) (h6 : 6 + n ≤ r.length) (hn : numF (r.take 2) 0 = n) :
    packL ((r.drop 6).take n) = r.take (6 + n) ↔ numF ((r.drop 2).take 4) 0 = crcN (r.take 2 ++ (r.drop 6).take n) := by
  have hP : ((r.drop 6).take n).length = n := by rw [List.length_take, List.length_drop]; omega
  have e1 : rowL n 2 = r.take 2 := by
    obtain ⟨x, y, e⟩ := list2 (r.take 2) (by rw [List.length_take]; omega)
    rw [e] at hn ⊢
    rw [← hn, rowL_back2]
  have e2 : r.take (6 + n) = r.take 2 ++ ((r.drop 2).take 4 ++ (r.drop 6).take n) := by
    rw [show 6 + n = 2 + (4 + n) by omega, List.take_add, List.take_add, List.drop_drop]
  unfold packL
  rw [hP, e1, e2]
  have hc := crcN_lt (r.take 2 ++ (r.drop 6).take n)
  constructor
  · intro h
    have h2 := List.append_cancel_left h
    obtain ⟨h3, _⟩ := List.append_inj h2 (by rw [rowL_len, List.length_take, List.length_drop]; omega)
    rw [← h3, numF_rowL4 _ hc]
  · intro h
    obtain ⟨x, y, z, t, e⟩ := list4 ((r.drop 2).take 4) (by rw [List.length_take, List.length_drop]; omega)
    rw [← h, e, rowL_back4]

theorem rone_neg (v : Value) (i : Int) (w : World) (hi : i < 0) :
    Calls Try.prog 15 #[v, .int .i64 i] w fun e w' => e = .returned (.tuple #[.slice none 0 0, .int .i64 0, .int .i64 2]) ∧ w' = w := by
  go_enter Try.func15, Try.ntmps15
  go_wp2
  go_ret3
  exact ⟨rfl, rfl⟩
theorem rone_past (v : Value) (l : List UInt8) (k : Nat) (w : World) (hv : Byt w v l) (hk : l.length < k) :
    Calls Try.prog 15 #[v, .int .i64 (k : Int)] w fun e w' => e = .returned (.tuple #[.slice none 0 0, .int .i64 0, .int .i64 2]) ∧ w' = w := by
  obtain ⟨a, c, rfl, hcap⟩ := hv.shape
  go_enter Try.func15, Try.ntmps15
  go_wp2
  go_ret3
  exact ⟨rfl, rfl⟩
theorem rone_short (v : Value) (l : List UInt8) (k : Nat) (w : World) (hv : Byt w v l) (hk : k ≤ l.length) (h6 : l.length - k < 6) (hl : l.length ≤ 140737488355328) :
    Calls Try.prog 15 #[v, .int .i64 (k : Int)] w fun e w' => e = .returned (.tuple #[.slice none 0 0, .int .i64 0, .int .i64 3]) ∧ w' = w := by
  obtain ⟨a, c, rfl, hcap⟩ := hv.shape
  go_enter Try.func15, Try.ntmps15
  go_wp2
  go_ret3
  exact ⟨rfl, rfl⟩

set_option maxHeartbeats 2000000 in
theorem rone_main (v : Value) (l : List UInt8) (k : Nat) (w : World) (hv : Byt w v l) (hk : k ≤ l.length) (h6 : ¬ l.length - k < 6) (hl : l.length ≤ 140737488355328) :
    Calls Try.prog 15 #[v, .int .i64 (k : Int)] w fun e w' => ∃ v', e = .returned (.tuple #[v', .int .i64 (oneP l k).2.1, .int .i64 (oneP l k).2.2]) ∧ Row w.heap.size w' v' (oneP l k).1 ∧ Below w.heap.size w w' := by
  have hP : oneP l k = if numF ((l.drop k).take 2) 0 = 0 ∨ 2000 < numF ((l.drop k).take 2) 0 then ([], 0, 4) else
      if l.length - k - 6 < numF ((l.drop k).take 2) 0 then ([], 0, 3) else
      if numF (((l.drop k).drop 2).take 4) 0 = crcN ((l.drop k).take 2 ++ ((l.drop k).drop 6).take (numF ((l.drop k).take 2) 0)) then
        (((l.drop k).drop 6).take (numF ((l.drop k).take 2) 0), ((k + 6 + numF ((l.drop k).take 2) 0 : Nat) : Int), 0) else ([], 0, 5) := by
    unfold oneP
    rw [if_neg (by omega), if_neg h6]
  generalize oneP l k = O at *
  obtain ⟨a, c, rfl, hcap⟩ := hv.shape
  obtain ⟨g, off, rfl, _, _, hc⟩ := hv.at (j := k) (by omega)
  have hx0 := hc k (by omega)
  have hx1 := hc (k + 1) (by omega)
  have h2 : (l.drop k).take 2 = [l[k], l[k + 1]] := by
    rw [List.drop_eq_getElem_cons (by omega), List.drop_eq_getElem_cons (by omega)]
    rfl
  have hlx := (l[k]'(by omega)).toNat_lt
  have hly := (l[k + 1]'(by omega)).toNat_lt
  have hn : numF ((l.drop k).take 2) 0 = 256 * (l[k]'(by omega)).toNat + (l[k + 1]'(by omega)).toNat := by
    rw [h2]; simp [numF]; omega
  have hiff := fun h => pack_iff (l.drop k) _ h rfl
  rw [hn] at hP hiff
  generalize (l[k]'(by omega)).toNat = x at *
  generalize (l[k + 1]'(by omega)).toNat = y at *
  have HP := Lib.hid hP
  have HI := Lib.hid hiff
  have HV := Lib.hid hv
  clear hP hiff hv h2 hn hc
  go_enter Try.func15, Try.ntmps15
  go_wp2_with fail
  go_quiet (fail)
  have bq := bel_draws (Below.refl w.heap.size w) nq
  generalize w.drewN nq = wq at bq ⊢
  have hnx : (256 : Int) * (x : Int) + (y : Int) = ((256 * x + y : Nat) : Int) := by omega
  rw [hnx]
  clear hnx
  have hnl : 256 * x + y < 65536 := by omega
  generalize 256 * x + y = n at *
  clear hx0 hx1
  have HB := Lib.hid bq
  by_cases hn : n = 0 ∨ 2000 < n
  · have HO := HP.out
    rw [if_pos hn] at HO
    subst HO
    clear HP HI HV bq
    by_cases h0 : n = 0
    · subst h0
      go_wp2
      go_ret3
      exact ⟨_, rfl, Row.nil _ _, HB.out⟩
    · have hnb : ¬ (n : Int) < 1 := by omega
      have hnn : (2000 : Int) < (n : Int) := by omega
      go_wp2
      go_ret3
      exact ⟨_, rfl, Row.nil _ _, HB.out⟩
  · have hnb : ¬ (n : Int) < 1 := by omega
    have hnn : ¬ (2000 : Int) < (n : Int) := by omega
    by_cases hs : l.length - k - 6 < n
    · have HO := HP.out
      rw [if_neg hn, if_pos hs] at HO
      subst HO
      clear HP HI HV bq
      have hss : (l.length : Int) - (k : Int) < 6 + (n : Int) := by omega
      go_wp2
      go_ret3
      exact ⟨_, rfl, Row.nil _ _, HB.out⟩
    · have HO := HP.out
      rw [if_neg hn, if_neg hs] at HO
      have hss : ¬ (l.length : Int) - (k : Int) < 6 + (n : Int) := by omega
      have hlr : (l.drop k).length = l.length - k := List.length_drop
      have hI := HI.out (by omega)
      have hvq := HV.out.below bq
      have hE := Row.made wq 5 [] #[] rfl (Nat.le_refl _) (by decide)
      rw [List.length_nil] at hE
      have hbE : Below wq.heap.size wq (wq.alloc (.cells #[] 5)) := (Below.refl _ wq).alloc (Nat.le_refl _) _
      have hcP := (hvq.below hbE).cut (k + 6) (k + 6 + n) c (by omega) (by omega) (by omega) (Nat.le_refl _)
      rw [show k + 6 + n - (k + 6) = n by omega, ← List.drop_drop] at hcP
      have hrP : (Instr.slice 22 (.slice (some ⟨g, off, none⟩) l.length c) (some (.int .i64 ((k : Int) + 6))) (some (.int .i64 ((k : Int) + 6 + (n : Int)))) none).run Try.prog (wq.alloc (.cells #[] 5)) = .ok (.slice (cutA (some ⟨g, off, none⟩) (k + 6) c) n (c - (k + 6))) (wq.alloc (.cells #[] 5)) := by
        have := run_cut_both (P := Try.prog) (wq.alloc (.cells #[] 5)) 22 5 Try.underlying22 sz5 (some ⟨g, off, none⟩) l.length c (k + 6) (k + 6 + n) (by omega) (by omega)
        rw [show k + 6 + n - (k + 6) = n by omega, Int.natCast_add, Int.natCast_add] at this
        exact this
      generalize cutA (some ⟨g, off, none⟩) (k + 6) c = aP at hcP hrP
      have hlP : (((l.drop k).drop 6).take n).length = n := by rw [List.length_take, List.length_drop, hlr]; omega
      obtain ⟨v1, w1, r1, R1, g1, _⟩ := app_row _ hE hcP (by simp) (by rw [hlP]; simp; omega)
      rw [List.nil_append] at R1
      have hb1 := below_grow hbE hE hbE.size g1
      have hpk := rpack_any v1 _ w1 R1.1 (by rw [hlP]; omega) (by rw [hlP]; omega)
      have HPK := Lib.hid hpk
      have K1 := Lib.hid r1
      have HB1 := Lib.hid (bq.trans (hb1.mono bq.size))
      have HR1 := Lib.hid (R1.less bq.size)
      have HIF := Lib.hid hI
      have HO2 := Lib.hid HO
      have HLR := Lib.hid hlr
      have hs1 : w.heap.size ≤ w1.heap.size := Nat.le_trans bq.size hb1.size
      have HS1 := Lib.hid hs1
      obtain ⟨a1, k1, rfl, hcap1⟩ := R1.1.shape
      rw [hlP] at *
      clear HP HI bq hI hvq hE hbE hcP r1 R1 g1 hb1 hpk HO hlr hs1
      go_wp2_with (at_builtin; refine wpList_append_run _ rfl _ _ 22 22 rfl _ _ rfl rfl _ w1 K1.out ?_)
      refine HPK.out.mono ?_
      rintro e w2 ⟨v2, rfl, R2, b2⟩
      have hs2 := b2.size
      have hb2 := HB1.out.trans (b2.mono HS1.out)
      have hv2 := HV.out.below hb2
      have hcw := fun m => run_byt_string (P := Try.prog) (w2.drewN m) 22 9 5 Try.underlying22 Try.underlying5 Try.underlying9 (R2.1.below (bel_draws (Below.refl _ w2) m))
      have hcQ := hv2.cut k (k + 6 + n) c (by omega) (by omega) (by omega) (Nat.le_refl _)
      rw [show k + 6 + n - k = 6 + n by omega] at hcQ
      have hrQ : ∀ W : World, (Instr.slice 22 (.slice (some ⟨g, off, none⟩) l.length c) (some (.int .i64 (k : Int))) (some (.int .i64 ((k : Int) + 6 + (n : Int)))) none).run Try.prog W = .ok (.slice (cutA (some ⟨g, off, none⟩) k c) (6 + n) (c - k)) W := fun W => by
        have := run_cut_both (P := Try.prog) W 22 5 Try.underlying22 sz5 (some ⟨g, off, none⟩) l.length c k (k + 6 + n) (by omega) (by omega)
        rw [show k + 6 + n - k = 6 + n by omega, Int.natCast_add, Int.natCast_add] at this
        exact this
      generalize cutA (some ⟨g, off, none⟩) k c = aQ at hcQ hrQ
      have hcq := fun m => run_byt_string (P := Try.prog) (w2.drewN m) 22 9 5 Try.underlying22 Try.underlying5 Try.underlying9 (hcQ.below (bel_draws (Below.refl _ w2) m))
      have HB2 := Lib.hid hb2
      have HR2 := Lib.hid (HR1.out.below b2)
      have hI := HIF.out
      have hO := HO2.out
      generalize packL (((l.drop k).drop 6).take n) = X at *
      generalize (l.drop k).take (6 + n) = Y at *
      generalize numF (((l.drop k).drop 2).take 4) 0 = u at *
      generalize crcN ((l.drop k).take 2 ++ ((l.drop k).drop 6).take n) = z at *
      have hR2 := HR2.out
      generalize ((l.drop k).drop 6).take n = PP at *
      have HR2 := Lib.hid hR2
      clear hR2
      obtain ⟨aw, cw, rfl, hcapw⟩ := R2.1.shape
      clear R2 b2 hs2 hb2 hv2 hcQ HIF HO2 HPK K1 HR1 HLR HV
      by_cases hXY : X = Y
      · subst hXY
        rw [if_pos (hI.1 rfl), Int.natCast_add, Int.natCast_add] at hO
        subst hO
        clear hI
        go_wp2_with fail
        go_quiet (fail)
        have HB3 := Lib.hid (bel_draws HB2.out nq)
        have HR3 := Lib.hid (HR2.out.below (bel_draws (Below.refl _ w2) nq))
        clear HB2 HR2 HB1 HB hcq hcw
        generalize w2.drewN nq = w3 at *
        go_wp2
        go_ret3
        exact ⟨_, rfl, HR3.out, HB3.out⟩
      · rw [if_neg (fun h => hXY (hI.2 h))] at hO
        subst hO
        have hne : (X == Y) = false := by rw [beq_eq_false_iff_ne]; exact hXY
        clear hI
        go_wp2_with fail
        go_quiet (fail)
        have HB3 := Lib.hid (bel_draws HB2.out nq)
        clear HB2 HR2 HB1 HB hcq hcw
        generalize w2.drewN nq = w3 at *
        go_wp2
        go_ret3
        exact ⟨_, rfl, Row.nil _ _, HB3.out⟩
/-- One by the reference, wherever it is asked. -/
theorem rone_any (v : Value) (l : List UInt8) (k : Nat) (w : World) (hv : Byt w v l) (hl : l.length ≤ 140737488355328) :
    Calls Try.prog 15 #[v, .int .i64 (k : Int)] w fun e w' => ∃ v', e = .returned (.tuple #[v', .int .i64 (oneP l k).2.1, .int .i64 (oneP l k).2.2]) ∧ Row w.heap.size w' v' (oneP l k).1 ∧ Below w.heap.size w w' := by
  by_cases hk : l.length < k
  · refine (rone_past v l k w hv hk).mono ?_
    rintro e w' ⟨rfl, rfl⟩
    have : oneP l k = ([], 0, 2) := by unfold oneP; rw [if_pos hk]
    rw [this]
    exact ⟨_, rfl, Row.nil _ _, Below.refl _ _⟩
  · by_cases h6 : l.length - k < 6
    · refine (rone_short v l k w hv (by omega) h6 hl).mono ?_
      rintro e w' ⟨rfl, rfl⟩
      have : oneP l k = ([], 0, 3) := by unfold oneP; rw [if_neg hk, if_pos h6]
      rw [this]
      exact ⟨_, rfl, Row.nil _ _, Below.refl _ _⟩
    · exact rone_main v l k w hv (by omega) h6 hl
end Go.Proofs.Ytjlhcgimijcghaa
