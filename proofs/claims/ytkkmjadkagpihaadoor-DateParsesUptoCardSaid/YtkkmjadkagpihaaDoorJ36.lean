/- Date: the document's letter (a word's beginning). -/
import Derived.Test.YtkkmjadkagpihaaDoorJ35
namespace Go.Proofs.YtkkmjadkagpihaaDoor
open Go Go.RowKit

theorem add_to2 (x y z : List UInt8) (h : z = x ++ y) (hz : z.length ≤ 4398046611104) (w : World) : (Op.stringOp .add ⟨x.toArray⟩ ⟨y.toArray⟩).run Tryd.prog w = .ok (.string ⟨z.toArray⟩) w := by
  rw [h] at hz ⊢
  exact run_add_lists w x y (by rw [List.length_append] at hz; omega)
def isA (y : UInt8) : Prop := (65 ≤ y.toNat ∧ y.toNat ≤ 90) ∨ (97 ≤ y.toNat ∧ y.toNat ≤ 122)
/-- The letters ahead are single bytes. -/
def Pre (L : List ByteArray) (bs : List UInt8) (i : Nat) : Prop := i ≤ bs.length ∧ ∀ k, k < i → ∃ h : k < L.length, ∃ h2 : k < bs.length, L[k] = ⟨#[bs[k]]⟩
/-- Where a word begins. -/
structure Bck (bs : List UInt8) (i f : Nat) : Prop where
  le : f ≤ i
  two : i ≤ f + 2
  isA : ∀ k (h : k < bs.length), f ≤ k → k < i → isA bs[k]
  stop : i = f + 2 ∨ f = 0 ∨ ∃ h : f - 1 < bs.length, ¬ Go.Proofs.YtkkmjadkagpihaaDoor.isA bs[f - 1]
def catL (L : List ByteArray) (f k : Nat) : List UInt8 := low (((L.drop f).take (k - f)).flatMap fun x => x.data.toList)
theorem low_append (a b : List UInt8) : low (a ++ b) = low a ++ low b := List.map_append
theorem catL_nil (L : List ByteArray) (f : Nat) : catL L f f = [] := by unfold catL; rw [Nat.sub_self, List.take_zero]; rfl
theorem catL_snoc (L : List ByteArray) (f k : Nat) (h : f ≤ k) (hk : k < L.length) : catL L f (k + 1) = catL L f k ++ low L[k].data.toList := by
  unfold catL
  have e : k + 1 - f = (k - f) + 1 := by omega
  have h1 : k - f < (L.drop f).length := by rw [List.length_drop]; omega
  rw [e, List.take_succ_eq_append_getElem h1, List.flatMap_append, low_append, List.getElem_drop]
  congr 2
  simp only [List.flatMap_cons, List.flatMap_nil, List.append_nil]
  congr 2
  simp only [show f + (k - f) = k by omega]
def hitR (l : List UInt8) (n : Nat) (X : List UInt8) : Bool := (List.range n).any fun k => decide (X.length ≤ 3 ∧ (low (nthL l k)).take X.length = X)
theorem hit_true (l : List UInt8) (n : Nat) (X : List UInt8) (k : Nat) (hk : k < n) (h1 : X.length ≤ 3) (h2 : (low (nthL l k)).take X.length = X) : hitR l n X = true := by
  unfold hitR; rw [List.any_eq_true]; exact ⟨k, List.mem_range.2 hk, decide_eq_true ⟨h1, h2⟩⟩
theorem hit_false (l : List UInt8) (n : Nat) (X : List UInt8) (h : ∀ k, k < n → ¬ (X.length ≤ 3 ∧ (low (nthL l k)).take X.length = X)) : hitR l n X = false := by
  unfold hitR; rw [List.any_eq_false]; intro k hk; rw [decide_eq_true_eq]; exact h k (List.mem_range.1 hk)
theorem mon_len : ∀ k, k < 12 → (nthL monthsL k).length = 3 := by decide
theorem wee_len : ∀ k, k < 7 → (nthL weeksL k).length = 3 := by decide

set_option maxRecDepth 100000 in
set_option maxHeartbeats 2000000 in
theorem letter_m (w : World) (v : Value) (L : List ByteArray) (bs : List UInt8) (hv : Ltr w v L) (i f : Nat) (hi : i < L.length) (hP : Pre L bs i) (hB : Bck bs i f) (hz : L[i].size ≤ 4398046511104) (hil : i ≤ 1000) (R : Bool) (hR : hitR monthsL 12 (catL L f (i + 1)) = R) :
    Calls Tryd.prog 92 #[v, .int .i64 (i : Int), .int .u8 77] w fun e w' => e = .returned (.bool R) ∧ Below w.heap.size w w' := by
  obtain ⟨g, cp, rfl, hcp, hg, hcell⟩ := hv.at (by omega)
  have HM := Lib.hid (refMonths w)
  have HC := Lib.hid hcell
  have HP := Lib.hid hP
  have HB := Lib.hid hB
  have HR := Lib.hid hR
  have HZ := Lib.hid hz
  have hB1 := hB.le
  have hB2 := hB.two
  clear hv hcell hP hB hR hz
  go_enter Tryd.func92, Tryd.ntmps92
  go_wp2_with fail
  refine HM.out.mono ?_
  rintro e w1 ⟨rfl, hb1, hn1⟩
  have HN := Lib.hid hn1
  have HBL := Lib.hid hb1
  clear hb1 hn1 HM
  generalize w1 = wb at *
  go_wp2
  go_loop [8] (fun fr => ∃ p : Nat, f ≤ p ∧ p ≤ i ∧ fr = .int .i64 (p : Int)) (fun fr => (intOf fr).toNat)
  case atStart => exact ⟨i, hB1, Nat.le_refl _, rfl⟩
  case round =>
    obtain ⟨p, hp1, hp2, rfl⟩ := hrel
    by_cases hpf : f < p
    · have hp0 : 0 < p := by omega
      obtain ⟨q, rfl⟩ : ∃ q, p = q + 1 := ⟨p - 1, by omega⟩
      obtain ⟨h1, h2, h3⟩ := HP.out.2 q (by omega)
      have hA := HB.out.isA q h2 (by omega) (by omega)
      have hcl := HC.out q h1
      rw [h3] at hcl
      have hcl2 := (HBL.out.cell hg).trans hcl
      clear hcl h3
      unfold isA at hA
      generalize bs[q] = cc at *
      obtain ⟨S1, hS1⟩ : ∃ S1 : ByteArray, (⟨#[cc]⟩ : ByteArray) = S1 := ⟨_, rfl⟩
      have hz0 : ∀ (h : 0 < S1.size), (S1[0]'h).toNat = cc.toNat := fun h => by subst hS1; rfl
      have hz1 : S1.size = 1 := by subst hS1; rfl
      rw [hS1] at hcl2
      clear hS1
      generalize cc.toNat = cv at *
      have k1 : ((q + 1 : Nat) : Int) > 0 := by omega
      have k2 : (i : Int) - ((q + 1 : Nat) : Int) < 2 := by omega
      have k3 : (((q + 1 : Nat) : Int) - 1).toNat = q := by omega
      have k4 : ((q + 1 : Nat) : Int) - 1 = (q : Int) := by omega
      rcases hA with ⟨a1, a2⟩ | ⟨a1, a2⟩
      · go_wp2
        go_round
        case rel => exact ⟨q, by omega, by omega, by go_num⟩
        case measure => simp [intOf]
      · have a3 : ¬ cv ≤ 90 := by omega
        go_wp2
        go_round
        case rel => exact ⟨q, by omega, by omega, by go_num⟩
        case measure => simp [intOf]
    · obtain rfl : f = p := by omega
      clear hpf hp1 hp2
      by_cases k1 : f = 0
      · clear hB1 hB2
        have q1 : ¬ (f : Int) > 0 := by omega
        clear k1
        go_wp2
        go_loopw [9, 10] (fun so kk wr => ∃ k : Nat, f ≤ k ∧ k ≤ i + 1 ∧ kk = .int .i64 (k : Int) ∧ so = .string ⟨(catL L f k).toArray⟩ ∧ (k ≤ i → (catL L f k).length ≤ k - f) ∧ Below wb.heap.size wb wr) (fun _ kk _ => i + 1 - (intOf kk).toNat)
        case atStart => exact ⟨f, Nat.le_refl _, by omega, rfl, by rw [catL_nil], fun _ => by rw [catL_nil]; exact Nat.zero_le _, Below.refl _ _⟩
        case round =>
          obtain ⟨k, kf, ki, rfl, rfl, hkl, hbr⟩ := hrel
          by_cases hki : k ≤ i
          · have hkL : k < L.length := by omega
            have hcl := (hbr.cell (Nat.lt_of_lt_of_le hg HBL.out.size)).trans ((HBL.out.cell hg).trans (HC.out k hkL))
            have hsz : L[k].size ≤ 4398046511104 := by
              by_cases e : k = i
              · subst e; exact HZ.out
              · obtain ⟨_, _, h3⟩ := HP.out.2 k (by omega)
                rw [h3]; show 1 ≤ _; omega
            have hsn := catL_snoc L f k kf hkL
            have hl2 : (low L[k].data.toList).length = L[k].size := by rw [low_length, Lib.size_eq]
            have hkl' := hkl hki
            have ad := add_to2 _ _ _ hsn (by rw [hsn, List.length_append, hl2]; omega)
            have hnx : k + 1 ≤ i → (catL L f (k + 1)).length ≤ k + 1 - f := fun h => by
              obtain ⟨_, _, h3⟩ := HP.out.2 k (by omega)
              rw [hsn, List.length_append, hl2, h3]
              have : (⟨#[bs[k]]⟩ : ByteArray).size = 1 := rfl
              omega
            have HL := Lib.hid (fun w => refLower L[k] w (by omega))
            have HNX := Lib.hid hnx
            clear hsn hl2 hkl hkl' hnx hsz
            generalize hC2 : catL L f (k + 1) = C2 at *
            have HC2 := Lib.hid hC2
            clear hC2
            generalize catL L f k = C1 at *
            generalize low L[k].data.toList = C3 at *
            generalize L[k] = S3 at *
            go_wp2_with fail
            refine (HL.out _).mono ?_
            rintro e w3 ⟨rfl, hb3⟩
            have HB3 := Lib.hid (hbr.trans (hb3.mono hbr.size))
            clear hbr hb3
            go_wp2
            go_roundw
            case rel => exact ⟨k + 1, by omega, by omega, by go_num, by rw [HC2.out], fun h => by rw [HC2.out]; exact HNX.out h, HB3.out⟩
            case measure => simp [intOf]; omega
          · obtain rfl : k = i + 1 := by omega
            have HBR := Lib.hid hbr
            have HR' := HR.out
            clear hkl hbr
            generalize catL L f (i + 1) = X at *
            have HRR := Lib.hid HR'
            clear HR' HR HP HB
            obtain ⟨ti, hti⟩ : ∃ ti : Int, ((i + 1 : Nat) : Int) = ti := ⟨_, rfl⟩
            rw [hti]
            have hti2 : ¬ ti ≤ (i : Int) := by omega
            clear hti
            go_wp2
            go_loopw [11] (fun kk wq => ∃ k : Nat, k ≤ 12 ∧ kk = .int .i64 (k : Int) ∧ (∀ j, j < k → ¬ (X.length ≤ 3 ∧ (low (nthL monthsL j)).take X.length = X)) ∧ Below wr.heap.size wr wq) (fun kk _ => 12 - (intOf kk).toNat)
            case atStart => exact ⟨0, Nat.zero_le _, rfl, fun j hj => absurd hj (Nat.not_lt_zero _), Below.refl _ _⟩
            case round =>
              obtain ⟨k, hk, rfl, hno, hbq⟩ := hrel
              by_cases hlt : k < 12
              · have hki2 : (k : Int) < 12 := by omega
                by_cases hx3 : X.length ≤ 3
                · have hnl := mon_len k hlt
                  have hcn := (hbq.cell (Nat.lt_of_lt_of_le HN.out.1 HBR.out.size)).trans ((HBR.out.cell HN.out.1).trans (HN.out.2 k hlt))
                  have HL := Lib.hid (fun w => refLower ⟨(nthL monthsL k).toArray⟩ w (by rw [size_mk, hnl]; omega))
                  rw [data_mk] at HL
                  have hll : (⟨(low (nthL monthsL k)).toArray⟩ : ByteArray).size = 3 := by rw [size_mk, low_length, hnl]
                  have hsz : (⟨X.toArray⟩ : ByteArray).size = X.length := size_mk X
                  have htk : ((⟨(low (nthL monthsL k)).toArray⟩ : ByteArray).extract 0 X.length).toList = (low (nthL monthsL k)).take X.length := by
                    rw [Lib.toList_data, Lib.extract_data, data_mk, List.drop_zero, Nat.sub_zero]
                  have hxl : (⟨X.toArray⟩ : ByteArray).toList = X := by rw [Lib.toList_data, data_mk]
                  have hx4 : (X.length : Int) ≤ 3 := by omega
                  by_cases hh : (low (nthL monthsL k)).take X.length = X
                  · have HT := Lib.hid ((hit_true _ _ _ k hlt hx3 hh).symm.trans HRR.out)
                    have hbe : (((⟨(low (nthL monthsL k)).toArray⟩ : ByteArray).extract 0 X.length).toList == (⟨X.toArray⟩ : ByteArray).toList) = true := by rw [htk, hxl, hh]; simp
                    clear hno hh htk hxl hx3 hnl
                    generalize (⟨X.toArray⟩ : ByteArray) = XB at *
                    generalize (⟨(low (nthL monthsL k)).toArray⟩ : ByteArray) = LN at *
                    generalize (⟨(nthL monthsL k).toArray⟩ : ByteArray) = NN at *
                    go_wp2_with fail
                    refine (HL.out _).mono ?_
                    rintro e w4 ⟨rfl, hb4⟩
                    have HB4 := Lib.hid (hbq.trans (hb4.mono hbq.size))
                    clear hbq hb4
                    go_wp2
                    go_ret
                    exact ⟨by rw [← HT.out]; rfl, HBL.out.trans ((HBR.out.trans (HB4.out.mono HBR.out.size)).mono HBL.out.size)⟩
                  · have HNO := Lib.hid (show ∀ j, j < k + 1 → ¬ (X.length ≤ 3 ∧ (low (nthL monthsL j)).take X.length = X) from fun j hj h => by
                      rcases Nat.lt_or_ge j k with h1 | h1
                      · exact hno j h1 h
                      · obtain rfl : j = k := by omega
                        exact hh h.2)
                    have hbe : (((⟨(low (nthL monthsL k)).toArray⟩ : ByteArray).extract 0 X.length).toList == (⟨X.toArray⟩ : ByteArray).toList) = false := by rw [htk, hxl, beq_eq_false_iff_ne]; exact hh
                    clear hno hh htk hxl hx3 hnl
                    generalize (⟨X.toArray⟩ : ByteArray) = XB at *
                    generalize (⟨(low (nthL monthsL k)).toArray⟩ : ByteArray) = LN at *
                    generalize (⟨(nthL monthsL k).toArray⟩ : ByteArray) = NN at *
                    go_wp2_with fail
                    refine (HL.out _).mono ?_
                    rintro e w4 ⟨rfl, hb4⟩
                    have HB4 := Lib.hid (hbq.trans (hb4.mono hbq.size))
                    clear hbq hb4
                    go_wp2
                    go_roundw
                    case rel => exact ⟨k + 1, by omega, by go_num, HNO.out, HB4.out⟩
                    case measure => simp [intOf]; omega
                · have HNO := Lib.hid (show ∀ j, j < k + 1 → ¬ (X.length ≤ 3 ∧ (low (nthL monthsL j)).take X.length = X) from fun j _ h => hx3 h.1)
                  have hsz : (⟨X.toArray⟩ : ByteArray).size = X.length := size_mk X
                  clear hno
                  generalize (⟨X.toArray⟩ : ByteArray) = XB at *
                  have hx4 : ¬ ((X.length : Int) ≤ 3) := by omega
                  go_wp2
                  go_roundw
                  case rel => exact ⟨k + 1, by omega, by go_num, HNO.out, hbq⟩
                  case measure => simp [intOf]; omega
              · obtain rfl : k = 12 := by omega
                have HF := Lib.hid ((hit_false _ _ _ hno).symm.trans HRR.out)
                clear hno
                go_wp2
                go_ret
                exact ⟨by rw [← HF.out]; rfl, HBL.out.trans ((HBR.out.trans (hbq.mono HBR.out.size)).mono HBL.out.size)⟩
      · have k2 : (f : Int) > 0 := by omega
        by_cases k3 : i = f + 2
        · have k4 : ¬ ((i : Int) - (f : Int) < 2) := by omega
          clear k3
          go_wp2
          go_loopw [9, 10] (fun so kk wr => ∃ k : Nat, f ≤ k ∧ k ≤ i + 1 ∧ kk = .int .i64 (k : Int) ∧ so = .string ⟨(catL L f k).toArray⟩ ∧ (k ≤ i → (catL L f k).length ≤ k - f) ∧ Below wb.heap.size wb wr) (fun _ kk _ => i + 1 - (intOf kk).toNat)
          case atStart => exact ⟨f, Nat.le_refl _, by omega, rfl, by rw [catL_nil], fun _ => by rw [catL_nil]; exact Nat.zero_le _, Below.refl _ _⟩
          case round =>
            obtain ⟨k, kf, ki, rfl, rfl, hkl, hbr⟩ := hrel
            by_cases hki : k ≤ i
            · have hkL : k < L.length := by omega
              have hcl := (hbr.cell (Nat.lt_of_lt_of_le hg HBL.out.size)).trans ((HBL.out.cell hg).trans (HC.out k hkL))
              have hsz : L[k].size ≤ 4398046511104 := by
                by_cases e : k = i
                · subst e; exact HZ.out
                · obtain ⟨_, _, h3⟩ := HP.out.2 k (by omega)
                  rw [h3]; show 1 ≤ _; omega
              have hsn := catL_snoc L f k kf hkL
              have hl2 : (low L[k].data.toList).length = L[k].size := by rw [low_length, Lib.size_eq]
              have hkl' := hkl hki
              have ad := add_to2 _ _ _ hsn (by rw [hsn, List.length_append, hl2]; omega)
              have hnx : k + 1 ≤ i → (catL L f (k + 1)).length ≤ k + 1 - f := fun h => by
                obtain ⟨_, _, h3⟩ := HP.out.2 k (by omega)
                rw [hsn, List.length_append, hl2, h3]
                have : (⟨#[bs[k]]⟩ : ByteArray).size = 1 := rfl
                omega
              have HL := Lib.hid (fun w => refLower L[k] w (by omega))
              have HNX := Lib.hid hnx
              clear hsn hl2 hkl hkl' hnx hsz
              generalize hC2 : catL L f (k + 1) = C2 at *
              have HC2 := Lib.hid hC2
              clear hC2
              generalize catL L f k = C1 at *
              generalize low L[k].data.toList = C3 at *
              generalize L[k] = S3 at *
              go_wp2_with fail
              refine (HL.out _).mono ?_
              rintro e w3 ⟨rfl, hb3⟩
              have HB3 := Lib.hid (hbr.trans (hb3.mono hbr.size))
              clear hbr hb3
              go_wp2
              go_roundw
              case rel => exact ⟨k + 1, by omega, by omega, by go_num, by rw [HC2.out], fun h => by rw [HC2.out]; exact HNX.out h, HB3.out⟩
              case measure => simp [intOf]; omega
            · obtain rfl : k = i + 1 := by omega
              have HBR := Lib.hid hbr
              have HR' := HR.out
              clear hkl hbr
              generalize catL L f (i + 1) = X at *
              have HRR := Lib.hid HR'
              clear HR' HR HP HB
              obtain ⟨ti, hti⟩ : ∃ ti : Int, ((i + 1 : Nat) : Int) = ti := ⟨_, rfl⟩
              rw [hti]
              have hti2 : ¬ ti ≤ (i : Int) := by omega
              clear hti
              go_wp2
              go_loopw [11] (fun kk wq => ∃ k : Nat, k ≤ 12 ∧ kk = .int .i64 (k : Int) ∧ (∀ j, j < k → ¬ (X.length ≤ 3 ∧ (low (nthL monthsL j)).take X.length = X)) ∧ Below wr.heap.size wr wq) (fun kk _ => 12 - (intOf kk).toNat)
              case atStart => exact ⟨0, Nat.zero_le _, rfl, fun j hj => absurd hj (Nat.not_lt_zero _), Below.refl _ _⟩
              case round =>
                obtain ⟨k, hk, rfl, hno, hbq⟩ := hrel
                by_cases hlt : k < 12
                · have hki2 : (k : Int) < 12 := by omega
                  by_cases hx3 : X.length ≤ 3
                  · have hnl := mon_len k hlt
                    have hcn := (hbq.cell (Nat.lt_of_lt_of_le HN.out.1 HBR.out.size)).trans ((HBR.out.cell HN.out.1).trans (HN.out.2 k hlt))
                    have HL := Lib.hid (fun w => refLower ⟨(nthL monthsL k).toArray⟩ w (by rw [size_mk, hnl]; omega))
                    rw [data_mk] at HL
                    have hll : (⟨(low (nthL monthsL k)).toArray⟩ : ByteArray).size = 3 := by rw [size_mk, low_length, hnl]
                    have hsz : (⟨X.toArray⟩ : ByteArray).size = X.length := size_mk X
                    have htk : ((⟨(low (nthL monthsL k)).toArray⟩ : ByteArray).extract 0 X.length).toList = (low (nthL monthsL k)).take X.length := by
                      rw [Lib.toList_data, Lib.extract_data, data_mk, List.drop_zero, Nat.sub_zero]
                    have hxl : (⟨X.toArray⟩ : ByteArray).toList = X := by rw [Lib.toList_data, data_mk]
                    have hx4 : (X.length : Int) ≤ 3 := by omega
                    by_cases hh : (low (nthL monthsL k)).take X.length = X
                    · have HT := Lib.hid ((hit_true _ _ _ k hlt hx3 hh).symm.trans HRR.out)
                      have hbe : (((⟨(low (nthL monthsL k)).toArray⟩ : ByteArray).extract 0 X.length).toList == (⟨X.toArray⟩ : ByteArray).toList) = true := by rw [htk, hxl, hh]; simp
                      clear hno hh htk hxl hx3 hnl
                      generalize (⟨X.toArray⟩ : ByteArray) = XB at *
                      generalize (⟨(low (nthL monthsL k)).toArray⟩ : ByteArray) = LN at *
                      generalize (⟨(nthL monthsL k).toArray⟩ : ByteArray) = NN at *
                      go_wp2_with fail
                      refine (HL.out _).mono ?_
                      rintro e w4 ⟨rfl, hb4⟩
                      have HB4 := Lib.hid (hbq.trans (hb4.mono hbq.size))
                      clear hbq hb4
                      go_wp2
                      go_ret
                      exact ⟨by rw [← HT.out]; rfl, HBL.out.trans ((HBR.out.trans (HB4.out.mono HBR.out.size)).mono HBL.out.size)⟩
                    · have HNO := Lib.hid (show ∀ j, j < k + 1 → ¬ (X.length ≤ 3 ∧ (low (nthL monthsL j)).take X.length = X) from fun j hj h => by
                        rcases Nat.lt_or_ge j k with h1 | h1
                        · exact hno j h1 h
                        · obtain rfl : j = k := by omega
                          exact hh h.2)
                      have hbe : (((⟨(low (nthL monthsL k)).toArray⟩ : ByteArray).extract 0 X.length).toList == (⟨X.toArray⟩ : ByteArray).toList) = false := by rw [htk, hxl, beq_eq_false_iff_ne]; exact hh
                      clear hno hh htk hxl hx3 hnl
                      generalize (⟨X.toArray⟩ : ByteArray) = XB at *
                      generalize (⟨(low (nthL monthsL k)).toArray⟩ : ByteArray) = LN at *
                      generalize (⟨(nthL monthsL k).toArray⟩ : ByteArray) = NN at *
                      go_wp2_with fail
                      refine (HL.out _).mono ?_
                      rintro e w4 ⟨rfl, hb4⟩
                      have HB4 := Lib.hid (hbq.trans (hb4.mono hbq.size))
                      clear hbq hb4
                      go_wp2
                      go_roundw
                      case rel => exact ⟨k + 1, by omega, by go_num, HNO.out, HB4.out⟩
                      case measure => simp [intOf]; omega
                  · have HNO := Lib.hid (show ∀ j, j < k + 1 → ¬ (X.length ≤ 3 ∧ (low (nthL monthsL j)).take X.length = X) from fun j _ h => hx3 h.1)
                    have hsz : (⟨X.toArray⟩ : ByteArray).size = X.length := size_mk X
                    clear hno
                    generalize (⟨X.toArray⟩ : ByteArray) = XB at *
                    have hx4 : ¬ ((X.length : Int) ≤ 3) := by omega
                    go_wp2
                    go_roundw
                    case rel => exact ⟨k + 1, by omega, by go_num, HNO.out, hbq⟩
                    case measure => simp [intOf]; omega
                · obtain rfl : k = 12 := by omega
                  have HF := Lib.hid ((hit_false _ _ _ hno).symm.trans HRR.out)
                  clear hno
                  go_wp2
                  go_ret
                  exact ⟨by rw [← HF.out]; rfl, HBL.out.trans ((HBR.out.trans (hbq.mono HBR.out.size)).mono HBL.out.size)⟩
        · have k4 : (i : Int) - (f : Int) < 2 := by omega
          have hst : ∃ h : f - 1 < bs.length, ¬ isA bs[f - 1] := by
            rcases HB.out.stop with e | e | e
            · exact absurd e k3
            · exact absurd e k1
            · exact e
          obtain ⟨q, hq⟩ : ∃ q, f = q + 1 := ⟨f - 1, by omega⟩
          obtain ⟨h2, hA⟩ := hst
          have hfq : f - 1 = q := by omega
          simp only [hfq] at hA h2
          obtain ⟨h1, _, h3⟩ := HP.out.2 q (by omega)
          have hcl := HC.out q h1
          rw [h3] at hcl
          have hcl2 := (HBL.out.cell hg).trans hcl
          clear hcl h3
          unfold isA at hA
          generalize bs[q] = cc at *
          obtain ⟨S1, hS1⟩ : ∃ S1 : ByteArray, (⟨#[cc]⟩ : ByteArray) = S1 := ⟨_, rfl⟩
          have hz0 : ∀ (h : 0 < S1.size), (S1[0]'h).toNat = cc.toNat := fun h => by subst hS1; rfl
          have hz1 : S1.size = 1 := by subst hS1; rfl
          rw [hS1] at hcl2
          clear hS1
          generalize cc.toNat = cv at *
          have k5 : ((f : Int) - 1).toNat = q := by omega
          have k6 : (f : Int) - 1 = (q : Int) := by omega
          clear hq hfq
          by_cases a1 : 65 ≤ cv
          · have a2 : ¬ cv ≤ 90 := fun h => hA (Or.inl ⟨a1, h⟩)
            by_cases a3 : 97 ≤ cv
            · have a4 : ¬ cv ≤ 122 := fun h => hA (Or.inr ⟨a3, h⟩)
              clear hA
              go_wp2
              go_loopw [9, 10] (fun so kk wr => ∃ k : Nat, f ≤ k ∧ k ≤ i + 1 ∧ kk = .int .i64 (k : Int) ∧ so = .string ⟨(catL L f k).toArray⟩ ∧ (k ≤ i → (catL L f k).length ≤ k - f) ∧ Below wb.heap.size wb wr) (fun _ kk _ => i + 1 - (intOf kk).toNat)
              case atStart => exact ⟨f, Nat.le_refl _, by omega, rfl, by rw [catL_nil], fun _ => by rw [catL_nil]; exact Nat.zero_le _, Below.refl _ _⟩
              case round =>
                obtain ⟨k, kf, ki, rfl, rfl, hkl, hbr⟩ := hrel
                by_cases hki : k ≤ i
                · have hkL : k < L.length := by omega
                  have hcl := (hbr.cell (Nat.lt_of_lt_of_le hg HBL.out.size)).trans ((HBL.out.cell hg).trans (HC.out k hkL))
                  have hsz : L[k].size ≤ 4398046511104 := by
                    by_cases e : k = i
                    · subst e; exact HZ.out
                    · obtain ⟨_, _, h3⟩ := HP.out.2 k (by omega)
                      rw [h3]; show 1 ≤ _; omega
                  have hsn := catL_snoc L f k kf hkL
                  have hl2 : (low L[k].data.toList).length = L[k].size := by rw [low_length, Lib.size_eq]
                  have hkl' := hkl hki
                  have ad := add_to2 _ _ _ hsn (by rw [hsn, List.length_append, hl2]; omega)
                  have hnx : k + 1 ≤ i → (catL L f (k + 1)).length ≤ k + 1 - f := fun h => by
                    obtain ⟨_, _, h3⟩ := HP.out.2 k (by omega)
                    rw [hsn, List.length_append, hl2, h3]
                    have : (⟨#[bs[k]]⟩ : ByteArray).size = 1 := rfl
                    omega
                  have HL := Lib.hid (fun w => refLower L[k] w (by omega))
                  have HNX := Lib.hid hnx
                  clear hsn hl2 hkl hkl' hnx hsz
                  generalize hC2 : catL L f (k + 1) = C2 at *
                  have HC2 := Lib.hid hC2
                  clear hC2
                  generalize catL L f k = C1 at *
                  generalize low L[k].data.toList = C3 at *
                  generalize L[k] = S3 at *
                  go_wp2_with fail
                  refine (HL.out _).mono ?_
                  rintro e w3 ⟨rfl, hb3⟩
                  have HB3 := Lib.hid (hbr.trans (hb3.mono hbr.size))
                  clear hbr hb3
                  go_wp2
                  go_roundw
                  case rel => exact ⟨k + 1, by omega, by omega, by go_num, by rw [HC2.out], fun h => by rw [HC2.out]; exact HNX.out h, HB3.out⟩
                  case measure => simp [intOf]; omega
                · obtain rfl : k = i + 1 := by omega
                  have HBR := Lib.hid hbr
                  have HR' := HR.out
                  clear hkl hbr
                  generalize catL L f (i + 1) = X at *
                  have HRR := Lib.hid HR'
                  clear HR' HR HP HB
                  obtain ⟨ti, hti⟩ : ∃ ti : Int, ((i + 1 : Nat) : Int) = ti := ⟨_, rfl⟩
                  rw [hti]
                  have hti2 : ¬ ti ≤ (i : Int) := by omega
                  clear hti
                  go_wp2
                  go_loopw [11] (fun kk wq => ∃ k : Nat, k ≤ 12 ∧ kk = .int .i64 (k : Int) ∧ (∀ j, j < k → ¬ (X.length ≤ 3 ∧ (low (nthL monthsL j)).take X.length = X)) ∧ Below wr.heap.size wr wq) (fun kk _ => 12 - (intOf kk).toNat)
                  case atStart => exact ⟨0, Nat.zero_le _, rfl, fun j hj => absurd hj (Nat.not_lt_zero _), Below.refl _ _⟩
                  case round =>
                    obtain ⟨k, hk, rfl, hno, hbq⟩ := hrel
                    by_cases hlt : k < 12
                    · have hki2 : (k : Int) < 12 := by omega
                      by_cases hx3 : X.length ≤ 3
                      · have hnl := mon_len k hlt
                        have hcn := (hbq.cell (Nat.lt_of_lt_of_le HN.out.1 HBR.out.size)).trans ((HBR.out.cell HN.out.1).trans (HN.out.2 k hlt))
                        have HL := Lib.hid (fun w => refLower ⟨(nthL monthsL k).toArray⟩ w (by rw [size_mk, hnl]; omega))
                        rw [data_mk] at HL
                        have hll : (⟨(low (nthL monthsL k)).toArray⟩ : ByteArray).size = 3 := by rw [size_mk, low_length, hnl]
                        have hsz : (⟨X.toArray⟩ : ByteArray).size = X.length := size_mk X
                        have htk : ((⟨(low (nthL monthsL k)).toArray⟩ : ByteArray).extract 0 X.length).toList = (low (nthL monthsL k)).take X.length := by
                          rw [Lib.toList_data, Lib.extract_data, data_mk, List.drop_zero, Nat.sub_zero]
                        have hxl : (⟨X.toArray⟩ : ByteArray).toList = X := by rw [Lib.toList_data, data_mk]
                        have hx4 : (X.length : Int) ≤ 3 := by omega
                        by_cases hh : (low (nthL monthsL k)).take X.length = X
                        · have HT := Lib.hid ((hit_true _ _ _ k hlt hx3 hh).symm.trans HRR.out)
                          have hbe : (((⟨(low (nthL monthsL k)).toArray⟩ : ByteArray).extract 0 X.length).toList == (⟨X.toArray⟩ : ByteArray).toList) = true := by rw [htk, hxl, hh]; simp
                          clear hno hh htk hxl hx3 hnl
                          generalize (⟨X.toArray⟩ : ByteArray) = XB at *
                          generalize (⟨(low (nthL monthsL k)).toArray⟩ : ByteArray) = LN at *
                          generalize (⟨(nthL monthsL k).toArray⟩ : ByteArray) = NN at *
                          go_wp2_with fail
                          refine (HL.out _).mono ?_
                          rintro e w4 ⟨rfl, hb4⟩
                          have HB4 := Lib.hid (hbq.trans (hb4.mono hbq.size))
                          clear hbq hb4
                          go_wp2
                          go_ret
                          exact ⟨by rw [← HT.out]; rfl, HBL.out.trans ((HBR.out.trans (HB4.out.mono HBR.out.size)).mono HBL.out.size)⟩
                        · have HNO := Lib.hid (show ∀ j, j < k + 1 → ¬ (X.length ≤ 3 ∧ (low (nthL monthsL j)).take X.length = X) from fun j hj h => by
                            rcases Nat.lt_or_ge j k with h1 | h1
                            · exact hno j h1 h
                            · obtain rfl : j = k := by omega
                              exact hh h.2)
                          have hbe : (((⟨(low (nthL monthsL k)).toArray⟩ : ByteArray).extract 0 X.length).toList == (⟨X.toArray⟩ : ByteArray).toList) = false := by rw [htk, hxl, beq_eq_false_iff_ne]; exact hh
                          clear hno hh htk hxl hx3 hnl
                          generalize (⟨X.toArray⟩ : ByteArray) = XB at *
                          generalize (⟨(low (nthL monthsL k)).toArray⟩ : ByteArray) = LN at *
                          generalize (⟨(nthL monthsL k).toArray⟩ : ByteArray) = NN at *
                          go_wp2_with fail
                          refine (HL.out _).mono ?_
                          rintro e w4 ⟨rfl, hb4⟩
                          have HB4 := Lib.hid (hbq.trans (hb4.mono hbq.size))
                          clear hbq hb4
                          go_wp2
                          go_roundw
                          case rel => exact ⟨k + 1, by omega, by go_num, HNO.out, HB4.out⟩
                          case measure => simp [intOf]; omega
                      · have HNO := Lib.hid (show ∀ j, j < k + 1 → ¬ (X.length ≤ 3 ∧ (low (nthL monthsL j)).take X.length = X) from fun j _ h => hx3 h.1)
                        have hsz : (⟨X.toArray⟩ : ByteArray).size = X.length := size_mk X
                        clear hno
                        generalize (⟨X.toArray⟩ : ByteArray) = XB at *
                        have hx4 : ¬ ((X.length : Int) ≤ 3) := by omega
                        go_wp2
                        go_roundw
                        case rel => exact ⟨k + 1, by omega, by go_num, HNO.out, hbq⟩
                        case measure => simp [intOf]; omega
                    · obtain rfl : k = 12 := by omega
                      have HF := Lib.hid ((hit_false _ _ _ hno).symm.trans HRR.out)
                      clear hno
                      go_wp2
                      go_ret
                      exact ⟨by rw [← HF.out]; rfl, HBL.out.trans ((HBR.out.trans (hbq.mono HBR.out.size)).mono HBL.out.size)⟩
            · clear hA
              go_wp2
              go_loopw [9, 10] (fun so kk wr => ∃ k : Nat, f ≤ k ∧ k ≤ i + 1 ∧ kk = .int .i64 (k : Int) ∧ so = .string ⟨(catL L f k).toArray⟩ ∧ (k ≤ i → (catL L f k).length ≤ k - f) ∧ Below wb.heap.size wb wr) (fun _ kk _ => i + 1 - (intOf kk).toNat)
              case atStart => exact ⟨f, Nat.le_refl _, by omega, rfl, by rw [catL_nil], fun _ => by rw [catL_nil]; exact Nat.zero_le _, Below.refl _ _⟩
              case round =>
                obtain ⟨k, kf, ki, rfl, rfl, hkl, hbr⟩ := hrel
                by_cases hki : k ≤ i
                · have hkL : k < L.length := by omega
                  have hcl := (hbr.cell (Nat.lt_of_lt_of_le hg HBL.out.size)).trans ((HBL.out.cell hg).trans (HC.out k hkL))
                  have hsz : L[k].size ≤ 4398046511104 := by
                    by_cases e : k = i
                    · subst e; exact HZ.out
                    · obtain ⟨_, _, h3⟩ := HP.out.2 k (by omega)
                      rw [h3]; show 1 ≤ _; omega
                  have hsn := catL_snoc L f k kf hkL
                  have hl2 : (low L[k].data.toList).length = L[k].size := by rw [low_length, Lib.size_eq]
                  have hkl' := hkl hki
                  have ad := add_to2 _ _ _ hsn (by rw [hsn, List.length_append, hl2]; omega)
                  have hnx : k + 1 ≤ i → (catL L f (k + 1)).length ≤ k + 1 - f := fun h => by
                    obtain ⟨_, _, h3⟩ := HP.out.2 k (by omega)
                    rw [hsn, List.length_append, hl2, h3]
                    have : (⟨#[bs[k]]⟩ : ByteArray).size = 1 := rfl
                    omega
                  have HL := Lib.hid (fun w => refLower L[k] w (by omega))
                  have HNX := Lib.hid hnx
                  clear hsn hl2 hkl hkl' hnx hsz
                  generalize hC2 : catL L f (k + 1) = C2 at *
                  have HC2 := Lib.hid hC2
                  clear hC2
                  generalize catL L f k = C1 at *
                  generalize low L[k].data.toList = C3 at *
                  generalize L[k] = S3 at *
                  go_wp2_with fail
                  refine (HL.out _).mono ?_
                  rintro e w3 ⟨rfl, hb3⟩
                  have HB3 := Lib.hid (hbr.trans (hb3.mono hbr.size))
                  clear hbr hb3
                  go_wp2
                  go_roundw
                  case rel => exact ⟨k + 1, by omega, by omega, by go_num, by rw [HC2.out], fun h => by rw [HC2.out]; exact HNX.out h, HB3.out⟩
                  case measure => simp [intOf]; omega
                · obtain rfl : k = i + 1 := by omega
                  have HBR := Lib.hid hbr
                  have HR' := HR.out
                  clear hkl hbr
                  generalize catL L f (i + 1) = X at *
                  have HRR := Lib.hid HR'
                  clear HR' HR HP HB
                  obtain ⟨ti, hti⟩ : ∃ ti : Int, ((i + 1 : Nat) : Int) = ti := ⟨_, rfl⟩
                  rw [hti]
                  have hti2 : ¬ ti ≤ (i : Int) := by omega
                  clear hti
                  go_wp2
                  go_loopw [11] (fun kk wq => ∃ k : Nat, k ≤ 12 ∧ kk = .int .i64 (k : Int) ∧ (∀ j, j < k → ¬ (X.length ≤ 3 ∧ (low (nthL monthsL j)).take X.length = X)) ∧ Below wr.heap.size wr wq) (fun kk _ => 12 - (intOf kk).toNat)
                  case atStart => exact ⟨0, Nat.zero_le _, rfl, fun j hj => absurd hj (Nat.not_lt_zero _), Below.refl _ _⟩
                  case round =>
                    obtain ⟨k, hk, rfl, hno, hbq⟩ := hrel
                    by_cases hlt : k < 12
                    · have hki2 : (k : Int) < 12 := by omega
                      by_cases hx3 : X.length ≤ 3
                      · have hnl := mon_len k hlt
                        have hcn := (hbq.cell (Nat.lt_of_lt_of_le HN.out.1 HBR.out.size)).trans ((HBR.out.cell HN.out.1).trans (HN.out.2 k hlt))
                        have HL := Lib.hid (fun w => refLower ⟨(nthL monthsL k).toArray⟩ w (by rw [size_mk, hnl]; omega))
                        rw [data_mk] at HL
                        have hll : (⟨(low (nthL monthsL k)).toArray⟩ : ByteArray).size = 3 := by rw [size_mk, low_length, hnl]
                        have hsz : (⟨X.toArray⟩ : ByteArray).size = X.length := size_mk X
                        have htk : ((⟨(low (nthL monthsL k)).toArray⟩ : ByteArray).extract 0 X.length).toList = (low (nthL monthsL k)).take X.length := by
                          rw [Lib.toList_data, Lib.extract_data, data_mk, List.drop_zero, Nat.sub_zero]
                        have hxl : (⟨X.toArray⟩ : ByteArray).toList = X := by rw [Lib.toList_data, data_mk]
                        have hx4 : (X.length : Int) ≤ 3 := by omega
                        by_cases hh : (low (nthL monthsL k)).take X.length = X
                        · have HT := Lib.hid ((hit_true _ _ _ k hlt hx3 hh).symm.trans HRR.out)
                          have hbe : (((⟨(low (nthL monthsL k)).toArray⟩ : ByteArray).extract 0 X.length).toList == (⟨X.toArray⟩ : ByteArray).toList) = true := by rw [htk, hxl, hh]; simp
                          clear hno hh htk hxl hx3 hnl
                          generalize (⟨X.toArray⟩ : ByteArray) = XB at *
                          generalize (⟨(low (nthL monthsL k)).toArray⟩ : ByteArray) = LN at *
                          generalize (⟨(nthL monthsL k).toArray⟩ : ByteArray) = NN at *
                          go_wp2_with fail
                          refine (HL.out _).mono ?_
                          rintro e w4 ⟨rfl, hb4⟩
                          have HB4 := Lib.hid (hbq.trans (hb4.mono hbq.size))
                          clear hbq hb4
                          go_wp2
                          go_ret
                          exact ⟨by rw [← HT.out]; rfl, HBL.out.trans ((HBR.out.trans (HB4.out.mono HBR.out.size)).mono HBL.out.size)⟩
                        · have HNO := Lib.hid (show ∀ j, j < k + 1 → ¬ (X.length ≤ 3 ∧ (low (nthL monthsL j)).take X.length = X) from fun j hj h => by
                            rcases Nat.lt_or_ge j k with h1 | h1
                            · exact hno j h1 h
                            · obtain rfl : j = k := by omega
                              exact hh h.2)
                          have hbe : (((⟨(low (nthL monthsL k)).toArray⟩ : ByteArray).extract 0 X.length).toList == (⟨X.toArray⟩ : ByteArray).toList) = false := by rw [htk, hxl, beq_eq_false_iff_ne]; exact hh
                          clear hno hh htk hxl hx3 hnl
                          generalize (⟨X.toArray⟩ : ByteArray) = XB at *
                          generalize (⟨(low (nthL monthsL k)).toArray⟩ : ByteArray) = LN at *
                          generalize (⟨(nthL monthsL k).toArray⟩ : ByteArray) = NN at *
                          go_wp2_with fail
                          refine (HL.out _).mono ?_
                          rintro e w4 ⟨rfl, hb4⟩
                          have HB4 := Lib.hid (hbq.trans (hb4.mono hbq.size))
                          clear hbq hb4
                          go_wp2
                          go_roundw
                          case rel => exact ⟨k + 1, by omega, by go_num, HNO.out, HB4.out⟩
                          case measure => simp [intOf]; omega
                      · have HNO := Lib.hid (show ∀ j, j < k + 1 → ¬ (X.length ≤ 3 ∧ (low (nthL monthsL j)).take X.length = X) from fun j _ h => hx3 h.1)
                        have hsz : (⟨X.toArray⟩ : ByteArray).size = X.length := size_mk X
                        clear hno
                        generalize (⟨X.toArray⟩ : ByteArray) = XB at *
                        have hx4 : ¬ ((X.length : Int) ≤ 3) := by omega
                        go_wp2
                        go_roundw
                        case rel => exact ⟨k + 1, by omega, by go_num, HNO.out, hbq⟩
                        case measure => simp [intOf]; omega
                    · obtain rfl : k = 12 := by omega
                      have HF := Lib.hid ((hit_false _ _ _ hno).symm.trans HRR.out)
                      clear hno
                      go_wp2
                      go_ret
                      exact ⟨by rw [← HF.out]; rfl, HBL.out.trans ((HBR.out.trans (hbq.mono HBR.out.size)).mono HBL.out.size)⟩
          · have a3 : ¬ 97 ≤ cv := by omega
            clear hA
            go_wp2
            go_loopw [9, 10] (fun so kk wr => ∃ k : Nat, f ≤ k ∧ k ≤ i + 1 ∧ kk = .int .i64 (k : Int) ∧ so = .string ⟨(catL L f k).toArray⟩ ∧ (k ≤ i → (catL L f k).length ≤ k - f) ∧ Below wb.heap.size wb wr) (fun _ kk _ => i + 1 - (intOf kk).toNat)
            case atStart => exact ⟨f, Nat.le_refl _, by omega, rfl, by rw [catL_nil], fun _ => by rw [catL_nil]; exact Nat.zero_le _, Below.refl _ _⟩
            case round =>
              obtain ⟨k, kf, ki, rfl, rfl, hkl, hbr⟩ := hrel
              by_cases hki : k ≤ i
              · have hkL : k < L.length := by omega
                have hcl := (hbr.cell (Nat.lt_of_lt_of_le hg HBL.out.size)).trans ((HBL.out.cell hg).trans (HC.out k hkL))
                have hsz : L[k].size ≤ 4398046511104 := by
                  by_cases e : k = i
                  · subst e; exact HZ.out
                  · obtain ⟨_, _, h3⟩ := HP.out.2 k (by omega)
                    rw [h3]; show 1 ≤ _; omega
                have hsn := catL_snoc L f k kf hkL
                have hl2 : (low L[k].data.toList).length = L[k].size := by rw [low_length, Lib.size_eq]
                have hkl' := hkl hki
                have ad := add_to2 _ _ _ hsn (by rw [hsn, List.length_append, hl2]; omega)
                have hnx : k + 1 ≤ i → (catL L f (k + 1)).length ≤ k + 1 - f := fun h => by
                  obtain ⟨_, _, h3⟩ := HP.out.2 k (by omega)
                  rw [hsn, List.length_append, hl2, h3]
                  have : (⟨#[bs[k]]⟩ : ByteArray).size = 1 := rfl
                  omega
                have HL := Lib.hid (fun w => refLower L[k] w (by omega))
                have HNX := Lib.hid hnx
                clear hsn hl2 hkl hkl' hnx hsz
                generalize hC2 : catL L f (k + 1) = C2 at *
                have HC2 := Lib.hid hC2
                clear hC2
                generalize catL L f k = C1 at *
                generalize low L[k].data.toList = C3 at *
                generalize L[k] = S3 at *
                go_wp2_with fail
                refine (HL.out _).mono ?_
                rintro e w3 ⟨rfl, hb3⟩
                have HB3 := Lib.hid (hbr.trans (hb3.mono hbr.size))
                clear hbr hb3
                go_wp2
                go_roundw
                case rel => exact ⟨k + 1, by omega, by omega, by go_num, by rw [HC2.out], fun h => by rw [HC2.out]; exact HNX.out h, HB3.out⟩
                case measure => simp [intOf]; omega
              · obtain rfl : k = i + 1 := by omega
                have HBR := Lib.hid hbr
                have HR' := HR.out
                clear hkl hbr
                generalize catL L f (i + 1) = X at *
                have HRR := Lib.hid HR'
                clear HR' HR HP HB
                obtain ⟨ti, hti⟩ : ∃ ti : Int, ((i + 1 : Nat) : Int) = ti := ⟨_, rfl⟩
                rw [hti]
                have hti2 : ¬ ti ≤ (i : Int) := by omega
                clear hti
                go_wp2
                go_loopw [11] (fun kk wq => ∃ k : Nat, k ≤ 12 ∧ kk = .int .i64 (k : Int) ∧ (∀ j, j < k → ¬ (X.length ≤ 3 ∧ (low (nthL monthsL j)).take X.length = X)) ∧ Below wr.heap.size wr wq) (fun kk _ => 12 - (intOf kk).toNat)
                case atStart => exact ⟨0, Nat.zero_le _, rfl, fun j hj => absurd hj (Nat.not_lt_zero _), Below.refl _ _⟩
                case round =>
                  obtain ⟨k, hk, rfl, hno, hbq⟩ := hrel
                  by_cases hlt : k < 12
                  · have hki2 : (k : Int) < 12 := by omega
                    by_cases hx3 : X.length ≤ 3
                    · have hnl := mon_len k hlt
                      have hcn := (hbq.cell (Nat.lt_of_lt_of_le HN.out.1 HBR.out.size)).trans ((HBR.out.cell HN.out.1).trans (HN.out.2 k hlt))
                      have HL := Lib.hid (fun w => refLower ⟨(nthL monthsL k).toArray⟩ w (by rw [size_mk, hnl]; omega))
                      rw [data_mk] at HL
                      have hll : (⟨(low (nthL monthsL k)).toArray⟩ : ByteArray).size = 3 := by rw [size_mk, low_length, hnl]
                      have hsz : (⟨X.toArray⟩ : ByteArray).size = X.length := size_mk X
                      have htk : ((⟨(low (nthL monthsL k)).toArray⟩ : ByteArray).extract 0 X.length).toList = (low (nthL monthsL k)).take X.length := by
                        rw [Lib.toList_data, Lib.extract_data, data_mk, List.drop_zero, Nat.sub_zero]
                      have hxl : (⟨X.toArray⟩ : ByteArray).toList = X := by rw [Lib.toList_data, data_mk]
                      have hx4 : (X.length : Int) ≤ 3 := by omega
                      by_cases hh : (low (nthL monthsL k)).take X.length = X
                      · have HT := Lib.hid ((hit_true _ _ _ k hlt hx3 hh).symm.trans HRR.out)
                        have hbe : (((⟨(low (nthL monthsL k)).toArray⟩ : ByteArray).extract 0 X.length).toList == (⟨X.toArray⟩ : ByteArray).toList) = true := by rw [htk, hxl, hh]; simp
                        clear hno hh htk hxl hx3 hnl
                        generalize (⟨X.toArray⟩ : ByteArray) = XB at *
                        generalize (⟨(low (nthL monthsL k)).toArray⟩ : ByteArray) = LN at *
                        generalize (⟨(nthL monthsL k).toArray⟩ : ByteArray) = NN at *
                        go_wp2_with fail
                        refine (HL.out _).mono ?_
                        rintro e w4 ⟨rfl, hb4⟩
                        have HB4 := Lib.hid (hbq.trans (hb4.mono hbq.size))
                        clear hbq hb4
                        go_wp2
                        go_ret
                        exact ⟨by rw [← HT.out]; rfl, HBL.out.trans ((HBR.out.trans (HB4.out.mono HBR.out.size)).mono HBL.out.size)⟩
                      · have HNO := Lib.hid (show ∀ j, j < k + 1 → ¬ (X.length ≤ 3 ∧ (low (nthL monthsL j)).take X.length = X) from fun j hj h => by
                          rcases Nat.lt_or_ge j k with h1 | h1
                          · exact hno j h1 h
                          · obtain rfl : j = k := by omega
                            exact hh h.2)
                        have hbe : (((⟨(low (nthL monthsL k)).toArray⟩ : ByteArray).extract 0 X.length).toList == (⟨X.toArray⟩ : ByteArray).toList) = false := by rw [htk, hxl, beq_eq_false_iff_ne]; exact hh
                        clear hno hh htk hxl hx3 hnl
                        generalize (⟨X.toArray⟩ : ByteArray) = XB at *
                        generalize (⟨(low (nthL monthsL k)).toArray⟩ : ByteArray) = LN at *
                        generalize (⟨(nthL monthsL k).toArray⟩ : ByteArray) = NN at *
                        go_wp2_with fail
                        refine (HL.out _).mono ?_
                        rintro e w4 ⟨rfl, hb4⟩
                        have HB4 := Lib.hid (hbq.trans (hb4.mono hbq.size))
                        clear hbq hb4
                        go_wp2
                        go_roundw
                        case rel => exact ⟨k + 1, by omega, by go_num, HNO.out, HB4.out⟩
                        case measure => simp [intOf]; omega
                    · have HNO := Lib.hid (show ∀ j, j < k + 1 → ¬ (X.length ≤ 3 ∧ (low (nthL monthsL j)).take X.length = X) from fun j _ h => hx3 h.1)
                      have hsz : (⟨X.toArray⟩ : ByteArray).size = X.length := size_mk X
                      clear hno
                      generalize (⟨X.toArray⟩ : ByteArray) = XB at *
                      have hx4 : ¬ ((X.length : Int) ≤ 3) := by omega
                      go_wp2
                      go_roundw
                      case rel => exact ⟨k + 1, by omega, by go_num, HNO.out, hbq⟩
                      case measure => simp [intOf]; omega
                  · obtain rfl : k = 12 := by omega
                    have HF := Lib.hid ((hit_false _ _ _ hno).symm.trans HRR.out)
                    clear hno
                    go_wp2
                    go_ret
                    exact ⟨by rw [← HF.out]; rfl, HBL.out.trans ((HBR.out.trans (hbq.mono HBR.out.size)).mono HBL.out.size)⟩

set_option maxRecDepth 100000 in
set_option maxHeartbeats 2000000 in
theorem letter_w (w : World) (v : Value) (L : List ByteArray) (bs : List UInt8) (hv : Ltr w v L) (i f : Nat) (hi : i < L.length) (hP : Pre L bs i) (hB : Bck bs i f) (hz : L[i].size ≤ 4398046511104) (hil : i ≤ 1000) (R : Bool) (hR : hitR weeksL 7 (catL L f (i + 1)) = R) :
    Calls Tryd.prog 92 #[v, .int .i64 (i : Int), .int .u8 87] w fun e w' => e = .returned (.bool R) ∧ Below w.heap.size w w' := by
  obtain ⟨g, cp, rfl, hcp, hg, hcell⟩ := hv.at (by omega)
  have HM := Lib.hid (refMonths w)
  have HC := Lib.hid hcell
  have HP := Lib.hid hP
  have HB := Lib.hid hB
  have HR := Lib.hid hR
  have HZ := Lib.hid hz
  have hB1 := hB.le
  have hB2 := hB.two
  clear hv hcell hP hB hR hz
  go_enter Tryd.func92, Tryd.ntmps92
  go_wp2_with fail
  refine HM.out.mono ?_
  rintro e w1 ⟨rfl, hb1, hn1⟩
  have HW := Lib.hid (refWeeks w1)
  go_wp2_with fail
  refine HW.out.mono ?_
  rintro e w2 ⟨rfl, hb2, hn2⟩
  have hb3 := hb1.trans (hb2.mono hb1.size)
  have HN := Lib.hid hn2
  have HBL := Lib.hid hb3
  clear hb1 hn1 HM HW hb2 hn2 hb3
  generalize w2 = wb at *
  go_wp2
  go_loop [8] (fun fr => ∃ p : Nat, f ≤ p ∧ p ≤ i ∧ fr = .int .i64 (p : Int)) (fun fr => (intOf fr).toNat)
  case atStart => exact ⟨i, hB1, Nat.le_refl _, rfl⟩
  case round =>
    obtain ⟨p, hp1, hp2, rfl⟩ := hrel
    by_cases hpf : f < p
    · have hp0 : 0 < p := by omega
      obtain ⟨q, rfl⟩ : ∃ q, p = q + 1 := ⟨p - 1, by omega⟩
      obtain ⟨h1, h2, h3⟩ := HP.out.2 q (by omega)
      have hA := HB.out.isA q h2 (by omega) (by omega)
      have hcl := HC.out q h1
      rw [h3] at hcl
      have hcl2 := (HBL.out.cell hg).trans hcl
      clear hcl h3
      unfold isA at hA
      generalize bs[q] = cc at *
      obtain ⟨S1, hS1⟩ : ∃ S1 : ByteArray, (⟨#[cc]⟩ : ByteArray) = S1 := ⟨_, rfl⟩
      have hz0 : ∀ (h : 0 < S1.size), (S1[0]'h).toNat = cc.toNat := fun h => by subst hS1; rfl
      have hz1 : S1.size = 1 := by subst hS1; rfl
      rw [hS1] at hcl2
      clear hS1
      generalize cc.toNat = cv at *
      have k1 : ((q + 1 : Nat) : Int) > 0 := by omega
      have k2 : (i : Int) - ((q + 1 : Nat) : Int) < 2 := by omega
      have k3 : (((q + 1 : Nat) : Int) - 1).toNat = q := by omega
      have k4 : ((q + 1 : Nat) : Int) - 1 = (q : Int) := by omega
      rcases hA with ⟨a1, a2⟩ | ⟨a1, a2⟩
      · go_wp2
        go_round
        case rel => exact ⟨q, by omega, by omega, by go_num⟩
        case measure => simp [intOf]
      · have a3 : ¬ cv ≤ 90 := by omega
        go_wp2
        go_round
        case rel => exact ⟨q, by omega, by omega, by go_num⟩
        case measure => simp [intOf]
    · obtain rfl : f = p := by omega
      clear hpf hp1 hp2
      by_cases k1 : f = 0
      · clear hB1 hB2
        have q1 : ¬ (f : Int) > 0 := by omega
        clear k1
        go_wp2
        go_loopw [9, 10] (fun so kk wr => ∃ k : Nat, f ≤ k ∧ k ≤ i + 1 ∧ kk = .int .i64 (k : Int) ∧ so = .string ⟨(catL L f k).toArray⟩ ∧ (k ≤ i → (catL L f k).length ≤ k - f) ∧ Below wb.heap.size wb wr) (fun _ kk _ => i + 1 - (intOf kk).toNat)
        case atStart => exact ⟨f, Nat.le_refl _, by omega, rfl, by rw [catL_nil], fun _ => by rw [catL_nil]; exact Nat.zero_le _, Below.refl _ _⟩
        case round =>
          obtain ⟨k, kf, ki, rfl, rfl, hkl, hbr⟩ := hrel
          by_cases hki : k ≤ i
          · have hkL : k < L.length := by omega
            have hcl := (hbr.cell (Nat.lt_of_lt_of_le hg HBL.out.size)).trans ((HBL.out.cell hg).trans (HC.out k hkL))
            have hsz : L[k].size ≤ 4398046511104 := by
              by_cases e : k = i
              · subst e; exact HZ.out
              · obtain ⟨_, _, h3⟩ := HP.out.2 k (by omega)
                rw [h3]; show 1 ≤ _; omega
            have hsn := catL_snoc L f k kf hkL
            have hl2 : (low L[k].data.toList).length = L[k].size := by rw [low_length, Lib.size_eq]
            have hkl' := hkl hki
            have ad := add_to2 _ _ _ hsn (by rw [hsn, List.length_append, hl2]; omega)
            have hnx : k + 1 ≤ i → (catL L f (k + 1)).length ≤ k + 1 - f := fun h => by
              obtain ⟨_, _, h3⟩ := HP.out.2 k (by omega)
              rw [hsn, List.length_append, hl2, h3]
              have : (⟨#[bs[k]]⟩ : ByteArray).size = 1 := rfl
              omega
            have HL := Lib.hid (fun w => refLower L[k] w (by omega))
            have HNX := Lib.hid hnx
            clear hsn hl2 hkl hkl' hnx hsz
            generalize hC2 : catL L f (k + 1) = C2 at *
            have HC2 := Lib.hid hC2
            clear hC2
            generalize catL L f k = C1 at *
            generalize low L[k].data.toList = C3 at *
            generalize L[k] = S3 at *
            go_wp2_with fail
            refine (HL.out _).mono ?_
            rintro e w3 ⟨rfl, hb3⟩
            have HB3 := Lib.hid (hbr.trans (hb3.mono hbr.size))
            clear hbr hb3
            go_wp2
            go_roundw
            case rel => exact ⟨k + 1, by omega, by omega, by go_num, by rw [HC2.out], fun h => by rw [HC2.out]; exact HNX.out h, HB3.out⟩
            case measure => simp [intOf]; omega
          · obtain rfl : k = i + 1 := by omega
            have HBR := Lib.hid hbr
            have HR' := HR.out
            clear hkl hbr
            generalize catL L f (i + 1) = X at *
            have HRR := Lib.hid HR'
            clear HR' HR HP HB
            obtain ⟨ti, hti⟩ : ∃ ti : Int, ((i + 1 : Nat) : Int) = ti := ⟨_, rfl⟩
            rw [hti]
            have hti2 : ¬ ti ≤ (i : Int) := by omega
            clear hti
            go_wp2
            go_loopw [11] (fun kk wq => ∃ k : Nat, k ≤ 7 ∧ kk = .int .i64 (k : Int) ∧ (∀ j, j < k → ¬ (X.length ≤ 3 ∧ (low (nthL weeksL j)).take X.length = X)) ∧ Below wr.heap.size wr wq) (fun kk _ => 7 - (intOf kk).toNat)
            case atStart => exact ⟨0, Nat.zero_le _, rfl, fun j hj => absurd hj (Nat.not_lt_zero _), Below.refl _ _⟩
            case round =>
              obtain ⟨k, hk, rfl, hno, hbq⟩ := hrel
              by_cases hlt : k < 7
              · have hki2 : (k : Int) < 7 := by omega
                by_cases hx3 : X.length ≤ 3
                · have hnl := wee_len k hlt
                  have hcn := (hbq.cell (Nat.lt_of_lt_of_le HN.out.1 HBR.out.size)).trans ((HBR.out.cell HN.out.1).trans (HN.out.2 k hlt))
                  have HL := Lib.hid (fun w => refLower ⟨(nthL weeksL k).toArray⟩ w (by rw [size_mk, hnl]; omega))
                  rw [data_mk] at HL
                  have hll : (⟨(low (nthL weeksL k)).toArray⟩ : ByteArray).size = 3 := by rw [size_mk, low_length, hnl]
                  have hsz : (⟨X.toArray⟩ : ByteArray).size = X.length := size_mk X
                  have htk : ((⟨(low (nthL weeksL k)).toArray⟩ : ByteArray).extract 0 X.length).toList = (low (nthL weeksL k)).take X.length := by
                    rw [Lib.toList_data, Lib.extract_data, data_mk, List.drop_zero, Nat.sub_zero]
                  have hxl : (⟨X.toArray⟩ : ByteArray).toList = X := by rw [Lib.toList_data, data_mk]
                  have hx4 : (X.length : Int) ≤ 3 := by omega
                  by_cases hh : (low (nthL weeksL k)).take X.length = X
                  · have HT := Lib.hid ((hit_true _ _ _ k hlt hx3 hh).symm.trans HRR.out)
                    have hbe : (((⟨(low (nthL weeksL k)).toArray⟩ : ByteArray).extract 0 X.length).toList == (⟨X.toArray⟩ : ByteArray).toList) = true := by rw [htk, hxl, hh]; simp
                    clear hno hh htk hxl hx3 hnl
                    generalize (⟨X.toArray⟩ : ByteArray) = XB at *
                    generalize (⟨(low (nthL weeksL k)).toArray⟩ : ByteArray) = LN at *
                    generalize (⟨(nthL weeksL k).toArray⟩ : ByteArray) = NN at *
                    go_wp2_with fail
                    refine (HL.out _).mono ?_
                    rintro e w4 ⟨rfl, hb4⟩
                    have HB4 := Lib.hid (hbq.trans (hb4.mono hbq.size))
                    clear hbq hb4
                    go_wp2
                    go_ret
                    exact ⟨by rw [← HT.out]; rfl, HBL.out.trans ((HBR.out.trans (HB4.out.mono HBR.out.size)).mono HBL.out.size)⟩
                  · have HNO := Lib.hid (show ∀ j, j < k + 1 → ¬ (X.length ≤ 3 ∧ (low (nthL weeksL j)).take X.length = X) from fun j hj h => by
                      rcases Nat.lt_or_ge j k with h1 | h1
                      · exact hno j h1 h
                      · obtain rfl : j = k := by omega
                        exact hh h.2)
                    have hbe : (((⟨(low (nthL weeksL k)).toArray⟩ : ByteArray).extract 0 X.length).toList == (⟨X.toArray⟩ : ByteArray).toList) = false := by rw [htk, hxl, beq_eq_false_iff_ne]; exact hh
                    clear hno hh htk hxl hx3 hnl
                    generalize (⟨X.toArray⟩ : ByteArray) = XB at *
                    generalize (⟨(low (nthL weeksL k)).toArray⟩ : ByteArray) = LN at *
                    generalize (⟨(nthL weeksL k).toArray⟩ : ByteArray) = NN at *
                    go_wp2_with fail
                    refine (HL.out _).mono ?_
                    rintro e w4 ⟨rfl, hb4⟩
                    have HB4 := Lib.hid (hbq.trans (hb4.mono hbq.size))
                    clear hbq hb4
                    go_wp2
                    go_roundw
                    case rel => exact ⟨k + 1, by omega, by go_num, HNO.out, HB4.out⟩
                    case measure => simp [intOf]; omega
                · have HNO := Lib.hid (show ∀ j, j < k + 1 → ¬ (X.length ≤ 3 ∧ (low (nthL weeksL j)).take X.length = X) from fun j _ h => hx3 h.1)
                  have hsz : (⟨X.toArray⟩ : ByteArray).size = X.length := size_mk X
                  clear hno
                  generalize (⟨X.toArray⟩ : ByteArray) = XB at *
                  have hx4 : ¬ ((X.length : Int) ≤ 3) := by omega
                  go_wp2
                  go_roundw
                  case rel => exact ⟨k + 1, by omega, by go_num, HNO.out, hbq⟩
                  case measure => simp [intOf]; omega
              · obtain rfl : k = 7 := by omega
                have HF := Lib.hid ((hit_false _ _ _ hno).symm.trans HRR.out)
                clear hno
                go_wp2
                go_ret
                exact ⟨by rw [← HF.out]; rfl, HBL.out.trans ((HBR.out.trans (hbq.mono HBR.out.size)).mono HBL.out.size)⟩
      · have k2 : (f : Int) > 0 := by omega
        by_cases k3 : i = f + 2
        · have k4 : ¬ ((i : Int) - (f : Int) < 2) := by omega
          clear k3
          go_wp2
          go_loopw [9, 10] (fun so kk wr => ∃ k : Nat, f ≤ k ∧ k ≤ i + 1 ∧ kk = .int .i64 (k : Int) ∧ so = .string ⟨(catL L f k).toArray⟩ ∧ (k ≤ i → (catL L f k).length ≤ k - f) ∧ Below wb.heap.size wb wr) (fun _ kk _ => i + 1 - (intOf kk).toNat)
          case atStart => exact ⟨f, Nat.le_refl _, by omega, rfl, by rw [catL_nil], fun _ => by rw [catL_nil]; exact Nat.zero_le _, Below.refl _ _⟩
          case round =>
            obtain ⟨k, kf, ki, rfl, rfl, hkl, hbr⟩ := hrel
            by_cases hki : k ≤ i
            · have hkL : k < L.length := by omega
              have hcl := (hbr.cell (Nat.lt_of_lt_of_le hg HBL.out.size)).trans ((HBL.out.cell hg).trans (HC.out k hkL))
              have hsz : L[k].size ≤ 4398046511104 := by
                by_cases e : k = i
                · subst e; exact HZ.out
                · obtain ⟨_, _, h3⟩ := HP.out.2 k (by omega)
                  rw [h3]; show 1 ≤ _; omega
              have hsn := catL_snoc L f k kf hkL
              have hl2 : (low L[k].data.toList).length = L[k].size := by rw [low_length, Lib.size_eq]
              have hkl' := hkl hki
              have ad := add_to2 _ _ _ hsn (by rw [hsn, List.length_append, hl2]; omega)
              have hnx : k + 1 ≤ i → (catL L f (k + 1)).length ≤ k + 1 - f := fun h => by
                obtain ⟨_, _, h3⟩ := HP.out.2 k (by omega)
                rw [hsn, List.length_append, hl2, h3]
                have : (⟨#[bs[k]]⟩ : ByteArray).size = 1 := rfl
                omega
              have HL := Lib.hid (fun w => refLower L[k] w (by omega))
              have HNX := Lib.hid hnx
              clear hsn hl2 hkl hkl' hnx hsz
              generalize hC2 : catL L f (k + 1) = C2 at *
              have HC2 := Lib.hid hC2
              clear hC2
              generalize catL L f k = C1 at *
              generalize low L[k].data.toList = C3 at *
              generalize L[k] = S3 at *
              go_wp2_with fail
              refine (HL.out _).mono ?_
              rintro e w3 ⟨rfl, hb3⟩
              have HB3 := Lib.hid (hbr.trans (hb3.mono hbr.size))
              clear hbr hb3
              go_wp2
              go_roundw
              case rel => exact ⟨k + 1, by omega, by omega, by go_num, by rw [HC2.out], fun h => by rw [HC2.out]; exact HNX.out h, HB3.out⟩
              case measure => simp [intOf]; omega
            · obtain rfl : k = i + 1 := by omega
              have HBR := Lib.hid hbr
              have HR' := HR.out
              clear hkl hbr
              generalize catL L f (i + 1) = X at *
              have HRR := Lib.hid HR'
              clear HR' HR HP HB
              obtain ⟨ti, hti⟩ : ∃ ti : Int, ((i + 1 : Nat) : Int) = ti := ⟨_, rfl⟩
              rw [hti]
              have hti2 : ¬ ti ≤ (i : Int) := by omega
              clear hti
              go_wp2
              go_loopw [11] (fun kk wq => ∃ k : Nat, k ≤ 7 ∧ kk = .int .i64 (k : Int) ∧ (∀ j, j < k → ¬ (X.length ≤ 3 ∧ (low (nthL weeksL j)).take X.length = X)) ∧ Below wr.heap.size wr wq) (fun kk _ => 7 - (intOf kk).toNat)
              case atStart => exact ⟨0, Nat.zero_le _, rfl, fun j hj => absurd hj (Nat.not_lt_zero _), Below.refl _ _⟩
              case round =>
                obtain ⟨k, hk, rfl, hno, hbq⟩ := hrel
                by_cases hlt : k < 7
                · have hki2 : (k : Int) < 7 := by omega
                  by_cases hx3 : X.length ≤ 3
                  · have hnl := wee_len k hlt
                    have hcn := (hbq.cell (Nat.lt_of_lt_of_le HN.out.1 HBR.out.size)).trans ((HBR.out.cell HN.out.1).trans (HN.out.2 k hlt))
                    have HL := Lib.hid (fun w => refLower ⟨(nthL weeksL k).toArray⟩ w (by rw [size_mk, hnl]; omega))
                    rw [data_mk] at HL
                    have hll : (⟨(low (nthL weeksL k)).toArray⟩ : ByteArray).size = 3 := by rw [size_mk, low_length, hnl]
                    have hsz : (⟨X.toArray⟩ : ByteArray).size = X.length := size_mk X
                    have htk : ((⟨(low (nthL weeksL k)).toArray⟩ : ByteArray).extract 0 X.length).toList = (low (nthL weeksL k)).take X.length := by
                      rw [Lib.toList_data, Lib.extract_data, data_mk, List.drop_zero, Nat.sub_zero]
                    have hxl : (⟨X.toArray⟩ : ByteArray).toList = X := by rw [Lib.toList_data, data_mk]
                    have hx4 : (X.length : Int) ≤ 3 := by omega
                    by_cases hh : (low (nthL weeksL k)).take X.length = X
                    · have HT := Lib.hid ((hit_true _ _ _ k hlt hx3 hh).symm.trans HRR.out)
                      have hbe : (((⟨(low (nthL weeksL k)).toArray⟩ : ByteArray).extract 0 X.length).toList == (⟨X.toArray⟩ : ByteArray).toList) = true := by rw [htk, hxl, hh]; simp
                      clear hno hh htk hxl hx3 hnl
                      generalize (⟨X.toArray⟩ : ByteArray) = XB at *
                      generalize (⟨(low (nthL weeksL k)).toArray⟩ : ByteArray) = LN at *
                      generalize (⟨(nthL weeksL k).toArray⟩ : ByteArray) = NN at *
                      go_wp2_with fail
                      refine (HL.out _).mono ?_
                      rintro e w4 ⟨rfl, hb4⟩
                      have HB4 := Lib.hid (hbq.trans (hb4.mono hbq.size))
                      clear hbq hb4
                      go_wp2
                      go_ret
                      exact ⟨by rw [← HT.out]; rfl, HBL.out.trans ((HBR.out.trans (HB4.out.mono HBR.out.size)).mono HBL.out.size)⟩
                    · have HNO := Lib.hid (show ∀ j, j < k + 1 → ¬ (X.length ≤ 3 ∧ (low (nthL weeksL j)).take X.length = X) from fun j hj h => by
                        rcases Nat.lt_or_ge j k with h1 | h1
                        · exact hno j h1 h
                        · obtain rfl : j = k := by omega
                          exact hh h.2)
                      have hbe : (((⟨(low (nthL weeksL k)).toArray⟩ : ByteArray).extract 0 X.length).toList == (⟨X.toArray⟩ : ByteArray).toList) = false := by rw [htk, hxl, beq_eq_false_iff_ne]; exact hh
                      clear hno hh htk hxl hx3 hnl
                      generalize (⟨X.toArray⟩ : ByteArray) = XB at *
                      generalize (⟨(low (nthL weeksL k)).toArray⟩ : ByteArray) = LN at *
                      generalize (⟨(nthL weeksL k).toArray⟩ : ByteArray) = NN at *
                      go_wp2_with fail
                      refine (HL.out _).mono ?_
                      rintro e w4 ⟨rfl, hb4⟩
                      have HB4 := Lib.hid (hbq.trans (hb4.mono hbq.size))
                      clear hbq hb4
                      go_wp2
                      go_roundw
                      case rel => exact ⟨k + 1, by omega, by go_num, HNO.out, HB4.out⟩
                      case measure => simp [intOf]; omega
                  · have HNO := Lib.hid (show ∀ j, j < k + 1 → ¬ (X.length ≤ 3 ∧ (low (nthL weeksL j)).take X.length = X) from fun j _ h => hx3 h.1)
                    have hsz : (⟨X.toArray⟩ : ByteArray).size = X.length := size_mk X
                    clear hno
                    generalize (⟨X.toArray⟩ : ByteArray) = XB at *
                    have hx4 : ¬ ((X.length : Int) ≤ 3) := by omega
                    go_wp2
                    go_roundw
                    case rel => exact ⟨k + 1, by omega, by go_num, HNO.out, hbq⟩
                    case measure => simp [intOf]; omega
                · obtain rfl : k = 7 := by omega
                  have HF := Lib.hid ((hit_false _ _ _ hno).symm.trans HRR.out)
                  clear hno
                  go_wp2
                  go_ret
                  exact ⟨by rw [← HF.out]; rfl, HBL.out.trans ((HBR.out.trans (hbq.mono HBR.out.size)).mono HBL.out.size)⟩
        · have k4 : (i : Int) - (f : Int) < 2 := by omega
          have hst : ∃ h : f - 1 < bs.length, ¬ isA bs[f - 1] := by
            rcases HB.out.stop with e | e | e
            · exact absurd e k3
            · exact absurd e k1
            · exact e
          obtain ⟨q, hq⟩ : ∃ q, f = q + 1 := ⟨f - 1, by omega⟩
          obtain ⟨h2, hA⟩ := hst
          have hfq : f - 1 = q := by omega
          simp only [hfq] at hA h2
          obtain ⟨h1, _, h3⟩ := HP.out.2 q (by omega)
          have hcl := HC.out q h1
          rw [h3] at hcl
          have hcl2 := (HBL.out.cell hg).trans hcl
          clear hcl h3
          unfold isA at hA
          generalize bs[q] = cc at *
          obtain ⟨S1, hS1⟩ : ∃ S1 : ByteArray, (⟨#[cc]⟩ : ByteArray) = S1 := ⟨_, rfl⟩
          have hz0 : ∀ (h : 0 < S1.size), (S1[0]'h).toNat = cc.toNat := fun h => by subst hS1; rfl
          have hz1 : S1.size = 1 := by subst hS1; rfl
          rw [hS1] at hcl2
          clear hS1
          generalize cc.toNat = cv at *
          have k5 : ((f : Int) - 1).toNat = q := by omega
          have k6 : (f : Int) - 1 = (q : Int) := by omega
          clear hq hfq
          by_cases a1 : 65 ≤ cv
          · have a2 : ¬ cv ≤ 90 := fun h => hA (Or.inl ⟨a1, h⟩)
            by_cases a3 : 97 ≤ cv
            · have a4 : ¬ cv ≤ 122 := fun h => hA (Or.inr ⟨a3, h⟩)
              clear hA
              go_wp2
              go_loopw [9, 10] (fun so kk wr => ∃ k : Nat, f ≤ k ∧ k ≤ i + 1 ∧ kk = .int .i64 (k : Int) ∧ so = .string ⟨(catL L f k).toArray⟩ ∧ (k ≤ i → (catL L f k).length ≤ k - f) ∧ Below wb.heap.size wb wr) (fun _ kk _ => i + 1 - (intOf kk).toNat)
              case atStart => exact ⟨f, Nat.le_refl _, by omega, rfl, by rw [catL_nil], fun _ => by rw [catL_nil]; exact Nat.zero_le _, Below.refl _ _⟩
              case round =>
                obtain ⟨k, kf, ki, rfl, rfl, hkl, hbr⟩ := hrel
                by_cases hki : k ≤ i
                · have hkL : k < L.length := by omega
                  have hcl := (hbr.cell (Nat.lt_of_lt_of_le hg HBL.out.size)).trans ((HBL.out.cell hg).trans (HC.out k hkL))
                  have hsz : L[k].size ≤ 4398046511104 := by
                    by_cases e : k = i
                    · subst e; exact HZ.out
                    · obtain ⟨_, _, h3⟩ := HP.out.2 k (by omega)
                      rw [h3]; show 1 ≤ _; omega
                  have hsn := catL_snoc L f k kf hkL
                  have hl2 : (low L[k].data.toList).length = L[k].size := by rw [low_length, Lib.size_eq]
                  have hkl' := hkl hki
                  have ad := add_to2 _ _ _ hsn (by rw [hsn, List.length_append, hl2]; omega)
                  have hnx : k + 1 ≤ i → (catL L f (k + 1)).length ≤ k + 1 - f := fun h => by
                    obtain ⟨_, _, h3⟩ := HP.out.2 k (by omega)
                    rw [hsn, List.length_append, hl2, h3]
                    have : (⟨#[bs[k]]⟩ : ByteArray).size = 1 := rfl
                    omega
                  have HL := Lib.hid (fun w => refLower L[k] w (by omega))
                  have HNX := Lib.hid hnx
                  clear hsn hl2 hkl hkl' hnx hsz
                  generalize hC2 : catL L f (k + 1) = C2 at *
                  have HC2 := Lib.hid hC2
                  clear hC2
                  generalize catL L f k = C1 at *
                  generalize low L[k].data.toList = C3 at *
                  generalize L[k] = S3 at *
                  go_wp2_with fail
                  refine (HL.out _).mono ?_
                  rintro e w3 ⟨rfl, hb3⟩
                  have HB3 := Lib.hid (hbr.trans (hb3.mono hbr.size))
                  clear hbr hb3
                  go_wp2
                  go_roundw
                  case rel => exact ⟨k + 1, by omega, by omega, by go_num, by rw [HC2.out], fun h => by rw [HC2.out]; exact HNX.out h, HB3.out⟩
                  case measure => simp [intOf]; omega
                · obtain rfl : k = i + 1 := by omega
                  have HBR := Lib.hid hbr
                  have HR' := HR.out
                  clear hkl hbr
                  generalize catL L f (i + 1) = X at *
                  have HRR := Lib.hid HR'
                  clear HR' HR HP HB
                  obtain ⟨ti, hti⟩ : ∃ ti : Int, ((i + 1 : Nat) : Int) = ti := ⟨_, rfl⟩
                  rw [hti]
                  have hti2 : ¬ ti ≤ (i : Int) := by omega
                  clear hti
                  go_wp2
                  go_loopw [11] (fun kk wq => ∃ k : Nat, k ≤ 7 ∧ kk = .int .i64 (k : Int) ∧ (∀ j, j < k → ¬ (X.length ≤ 3 ∧ (low (nthL weeksL j)).take X.length = X)) ∧ Below wr.heap.size wr wq) (fun kk _ => 7 - (intOf kk).toNat)
                  case atStart => exact ⟨0, Nat.zero_le _, rfl, fun j hj => absurd hj (Nat.not_lt_zero _), Below.refl _ _⟩
                  case round =>
                    obtain ⟨k, hk, rfl, hno, hbq⟩ := hrel
                    by_cases hlt : k < 7
                    · have hki2 : (k : Int) < 7 := by omega
                      by_cases hx3 : X.length ≤ 3
                      · have hnl := wee_len k hlt
                        have hcn := (hbq.cell (Nat.lt_of_lt_of_le HN.out.1 HBR.out.size)).trans ((HBR.out.cell HN.out.1).trans (HN.out.2 k hlt))
                        have HL := Lib.hid (fun w => refLower ⟨(nthL weeksL k).toArray⟩ w (by rw [size_mk, hnl]; omega))
                        rw [data_mk] at HL
                        have hll : (⟨(low (nthL weeksL k)).toArray⟩ : ByteArray).size = 3 := by rw [size_mk, low_length, hnl]
                        have hsz : (⟨X.toArray⟩ : ByteArray).size = X.length := size_mk X
                        have htk : ((⟨(low (nthL weeksL k)).toArray⟩ : ByteArray).extract 0 X.length).toList = (low (nthL weeksL k)).take X.length := by
                          rw [Lib.toList_data, Lib.extract_data, data_mk, List.drop_zero, Nat.sub_zero]
                        have hxl : (⟨X.toArray⟩ : ByteArray).toList = X := by rw [Lib.toList_data, data_mk]
                        have hx4 : (X.length : Int) ≤ 3 := by omega
                        by_cases hh : (low (nthL weeksL k)).take X.length = X
                        · have HT := Lib.hid ((hit_true _ _ _ k hlt hx3 hh).symm.trans HRR.out)
                          have hbe : (((⟨(low (nthL weeksL k)).toArray⟩ : ByteArray).extract 0 X.length).toList == (⟨X.toArray⟩ : ByteArray).toList) = true := by rw [htk, hxl, hh]; simp
                          clear hno hh htk hxl hx3 hnl
                          generalize (⟨X.toArray⟩ : ByteArray) = XB at *
                          generalize (⟨(low (nthL weeksL k)).toArray⟩ : ByteArray) = LN at *
                          generalize (⟨(nthL weeksL k).toArray⟩ : ByteArray) = NN at *
                          go_wp2_with fail
                          refine (HL.out _).mono ?_
                          rintro e w4 ⟨rfl, hb4⟩
                          have HB4 := Lib.hid (hbq.trans (hb4.mono hbq.size))
                          clear hbq hb4
                          go_wp2
                          go_ret
                          exact ⟨by rw [← HT.out]; rfl, HBL.out.trans ((HBR.out.trans (HB4.out.mono HBR.out.size)).mono HBL.out.size)⟩
                        · have HNO := Lib.hid (show ∀ j, j < k + 1 → ¬ (X.length ≤ 3 ∧ (low (nthL weeksL j)).take X.length = X) from fun j hj h => by
                            rcases Nat.lt_or_ge j k with h1 | h1
                            · exact hno j h1 h
                            · obtain rfl : j = k := by omega
                              exact hh h.2)
                          have hbe : (((⟨(low (nthL weeksL k)).toArray⟩ : ByteArray).extract 0 X.length).toList == (⟨X.toArray⟩ : ByteArray).toList) = false := by rw [htk, hxl, beq_eq_false_iff_ne]; exact hh
                          clear hno hh htk hxl hx3 hnl
                          generalize (⟨X.toArray⟩ : ByteArray) = XB at *
                          generalize (⟨(low (nthL weeksL k)).toArray⟩ : ByteArray) = LN at *
                          generalize (⟨(nthL weeksL k).toArray⟩ : ByteArray) = NN at *
                          go_wp2_with fail
                          refine (HL.out _).mono ?_
                          rintro e w4 ⟨rfl, hb4⟩
                          have HB4 := Lib.hid (hbq.trans (hb4.mono hbq.size))
                          clear hbq hb4
                          go_wp2
                          go_roundw
                          case rel => exact ⟨k + 1, by omega, by go_num, HNO.out, HB4.out⟩
                          case measure => simp [intOf]; omega
                      · have HNO := Lib.hid (show ∀ j, j < k + 1 → ¬ (X.length ≤ 3 ∧ (low (nthL weeksL j)).take X.length = X) from fun j _ h => hx3 h.1)
                        have hsz : (⟨X.toArray⟩ : ByteArray).size = X.length := size_mk X
                        clear hno
                        generalize (⟨X.toArray⟩ : ByteArray) = XB at *
                        have hx4 : ¬ ((X.length : Int) ≤ 3) := by omega
                        go_wp2
                        go_roundw
                        case rel => exact ⟨k + 1, by omega, by go_num, HNO.out, hbq⟩
                        case measure => simp [intOf]; omega
                    · obtain rfl : k = 7 := by omega
                      have HF := Lib.hid ((hit_false _ _ _ hno).symm.trans HRR.out)
                      clear hno
                      go_wp2
                      go_ret
                      exact ⟨by rw [← HF.out]; rfl, HBL.out.trans ((HBR.out.trans (hbq.mono HBR.out.size)).mono HBL.out.size)⟩
            · clear hA
              go_wp2
              go_loopw [9, 10] (fun so kk wr => ∃ k : Nat, f ≤ k ∧ k ≤ i + 1 ∧ kk = .int .i64 (k : Int) ∧ so = .string ⟨(catL L f k).toArray⟩ ∧ (k ≤ i → (catL L f k).length ≤ k - f) ∧ Below wb.heap.size wb wr) (fun _ kk _ => i + 1 - (intOf kk).toNat)
              case atStart => exact ⟨f, Nat.le_refl _, by omega, rfl, by rw [catL_nil], fun _ => by rw [catL_nil]; exact Nat.zero_le _, Below.refl _ _⟩
              case round =>
                obtain ⟨k, kf, ki, rfl, rfl, hkl, hbr⟩ := hrel
                by_cases hki : k ≤ i
                · have hkL : k < L.length := by omega
                  have hcl := (hbr.cell (Nat.lt_of_lt_of_le hg HBL.out.size)).trans ((HBL.out.cell hg).trans (HC.out k hkL))
                  have hsz : L[k].size ≤ 4398046511104 := by
                    by_cases e : k = i
                    · subst e; exact HZ.out
                    · obtain ⟨_, _, h3⟩ := HP.out.2 k (by omega)
                      rw [h3]; show 1 ≤ _; omega
                  have hsn := catL_snoc L f k kf hkL
                  have hl2 : (low L[k].data.toList).length = L[k].size := by rw [low_length, Lib.size_eq]
                  have hkl' := hkl hki
                  have ad := add_to2 _ _ _ hsn (by rw [hsn, List.length_append, hl2]; omega)
                  have hnx : k + 1 ≤ i → (catL L f (k + 1)).length ≤ k + 1 - f := fun h => by
                    obtain ⟨_, _, h3⟩ := HP.out.2 k (by omega)
                    rw [hsn, List.length_append, hl2, h3]
                    have : (⟨#[bs[k]]⟩ : ByteArray).size = 1 := rfl
                    omega
                  have HL := Lib.hid (fun w => refLower L[k] w (by omega))
                  have HNX := Lib.hid hnx
                  clear hsn hl2 hkl hkl' hnx hsz
                  generalize hC2 : catL L f (k + 1) = C2 at *
                  have HC2 := Lib.hid hC2
                  clear hC2
                  generalize catL L f k = C1 at *
                  generalize low L[k].data.toList = C3 at *
                  generalize L[k] = S3 at *
                  go_wp2_with fail
                  refine (HL.out _).mono ?_
                  rintro e w3 ⟨rfl, hb3⟩
                  have HB3 := Lib.hid (hbr.trans (hb3.mono hbr.size))
                  clear hbr hb3
                  go_wp2
                  go_roundw
                  case rel => exact ⟨k + 1, by omega, by omega, by go_num, by rw [HC2.out], fun h => by rw [HC2.out]; exact HNX.out h, HB3.out⟩
                  case measure => simp [intOf]; omega
                · obtain rfl : k = i + 1 := by omega
                  have HBR := Lib.hid hbr
                  have HR' := HR.out
                  clear hkl hbr
                  generalize catL L f (i + 1) = X at *
                  have HRR := Lib.hid HR'
                  clear HR' HR HP HB
                  obtain ⟨ti, hti⟩ : ∃ ti : Int, ((i + 1 : Nat) : Int) = ti := ⟨_, rfl⟩
                  rw [hti]
                  have hti2 : ¬ ti ≤ (i : Int) := by omega
                  clear hti
                  go_wp2
                  go_loopw [11] (fun kk wq => ∃ k : Nat, k ≤ 7 ∧ kk = .int .i64 (k : Int) ∧ (∀ j, j < k → ¬ (X.length ≤ 3 ∧ (low (nthL weeksL j)).take X.length = X)) ∧ Below wr.heap.size wr wq) (fun kk _ => 7 - (intOf kk).toNat)
                  case atStart => exact ⟨0, Nat.zero_le _, rfl, fun j hj => absurd hj (Nat.not_lt_zero _), Below.refl _ _⟩
                  case round =>
                    obtain ⟨k, hk, rfl, hno, hbq⟩ := hrel
                    by_cases hlt : k < 7
                    · have hki2 : (k : Int) < 7 := by omega
                      by_cases hx3 : X.length ≤ 3
                      · have hnl := wee_len k hlt
                        have hcn := (hbq.cell (Nat.lt_of_lt_of_le HN.out.1 HBR.out.size)).trans ((HBR.out.cell HN.out.1).trans (HN.out.2 k hlt))
                        have HL := Lib.hid (fun w => refLower ⟨(nthL weeksL k).toArray⟩ w (by rw [size_mk, hnl]; omega))
                        rw [data_mk] at HL
                        have hll : (⟨(low (nthL weeksL k)).toArray⟩ : ByteArray).size = 3 := by rw [size_mk, low_length, hnl]
                        have hsz : (⟨X.toArray⟩ : ByteArray).size = X.length := size_mk X
                        have htk : ((⟨(low (nthL weeksL k)).toArray⟩ : ByteArray).extract 0 X.length).toList = (low (nthL weeksL k)).take X.length := by
                          rw [Lib.toList_data, Lib.extract_data, data_mk, List.drop_zero, Nat.sub_zero]
                        have hxl : (⟨X.toArray⟩ : ByteArray).toList = X := by rw [Lib.toList_data, data_mk]
                        have hx4 : (X.length : Int) ≤ 3 := by omega
                        by_cases hh : (low (nthL weeksL k)).take X.length = X
                        · have HT := Lib.hid ((hit_true _ _ _ k hlt hx3 hh).symm.trans HRR.out)
                          have hbe : (((⟨(low (nthL weeksL k)).toArray⟩ : ByteArray).extract 0 X.length).toList == (⟨X.toArray⟩ : ByteArray).toList) = true := by rw [htk, hxl, hh]; simp
                          clear hno hh htk hxl hx3 hnl
                          generalize (⟨X.toArray⟩ : ByteArray) = XB at *
                          generalize (⟨(low (nthL weeksL k)).toArray⟩ : ByteArray) = LN at *
                          generalize (⟨(nthL weeksL k).toArray⟩ : ByteArray) = NN at *
                          go_wp2_with fail
                          refine (HL.out _).mono ?_
                          rintro e w4 ⟨rfl, hb4⟩
                          have HB4 := Lib.hid (hbq.trans (hb4.mono hbq.size))
                          clear hbq hb4
                          go_wp2
                          go_ret
                          exact ⟨by rw [← HT.out]; rfl, HBL.out.trans ((HBR.out.trans (HB4.out.mono HBR.out.size)).mono HBL.out.size)⟩
                        · have HNO := Lib.hid (show ∀ j, j < k + 1 → ¬ (X.length ≤ 3 ∧ (low (nthL weeksL j)).take X.length = X) from fun j hj h => by
                            rcases Nat.lt_or_ge j k with h1 | h1
                            · exact hno j h1 h
                            · obtain rfl : j = k := by omega
                              exact hh h.2)
                          have hbe : (((⟨(low (nthL weeksL k)).toArray⟩ : ByteArray).extract 0 X.length).toList == (⟨X.toArray⟩ : ByteArray).toList) = false := by rw [htk, hxl, beq_eq_false_iff_ne]; exact hh
                          clear hno hh htk hxl hx3 hnl
                          generalize (⟨X.toArray⟩ : ByteArray) = XB at *
                          generalize (⟨(low (nthL weeksL k)).toArray⟩ : ByteArray) = LN at *
                          generalize (⟨(nthL weeksL k).toArray⟩ : ByteArray) = NN at *
                          go_wp2_with fail
                          refine (HL.out _).mono ?_
                          rintro e w4 ⟨rfl, hb4⟩
                          have HB4 := Lib.hid (hbq.trans (hb4.mono hbq.size))
                          clear hbq hb4
                          go_wp2
                          go_roundw
                          case rel => exact ⟨k + 1, by omega, by go_num, HNO.out, HB4.out⟩
                          case measure => simp [intOf]; omega
                      · have HNO := Lib.hid (show ∀ j, j < k + 1 → ¬ (X.length ≤ 3 ∧ (low (nthL weeksL j)).take X.length = X) from fun j _ h => hx3 h.1)
                        have hsz : (⟨X.toArray⟩ : ByteArray).size = X.length := size_mk X
                        clear hno
                        generalize (⟨X.toArray⟩ : ByteArray) = XB at *
                        have hx4 : ¬ ((X.length : Int) ≤ 3) := by omega
                        go_wp2
                        go_roundw
                        case rel => exact ⟨k + 1, by omega, by go_num, HNO.out, hbq⟩
                        case measure => simp [intOf]; omega
                    · obtain rfl : k = 7 := by omega
                      have HF := Lib.hid ((hit_false _ _ _ hno).symm.trans HRR.out)
                      clear hno
                      go_wp2
                      go_ret
                      exact ⟨by rw [← HF.out]; rfl, HBL.out.trans ((HBR.out.trans (hbq.mono HBR.out.size)).mono HBL.out.size)⟩
          · have a3 : ¬ 97 ≤ cv := by omega
            clear hA
            go_wp2
            go_loopw [9, 10] (fun so kk wr => ∃ k : Nat, f ≤ k ∧ k ≤ i + 1 ∧ kk = .int .i64 (k : Int) ∧ so = .string ⟨(catL L f k).toArray⟩ ∧ (k ≤ i → (catL L f k).length ≤ k - f) ∧ Below wb.heap.size wb wr) (fun _ kk _ => i + 1 - (intOf kk).toNat)
            case atStart => exact ⟨f, Nat.le_refl _, by omega, rfl, by rw [catL_nil], fun _ => by rw [catL_nil]; exact Nat.zero_le _, Below.refl _ _⟩
            case round =>
              obtain ⟨k, kf, ki, rfl, rfl, hkl, hbr⟩ := hrel
              by_cases hki : k ≤ i
              · have hkL : k < L.length := by omega
                have hcl := (hbr.cell (Nat.lt_of_lt_of_le hg HBL.out.size)).trans ((HBL.out.cell hg).trans (HC.out k hkL))
                have hsz : L[k].size ≤ 4398046511104 := by
                  by_cases e : k = i
                  · subst e; exact HZ.out
                  · obtain ⟨_, _, h3⟩ := HP.out.2 k (by omega)
                    rw [h3]; show 1 ≤ _; omega
                have hsn := catL_snoc L f k kf hkL
                have hl2 : (low L[k].data.toList).length = L[k].size := by rw [low_length, Lib.size_eq]
                have hkl' := hkl hki
                have ad := add_to2 _ _ _ hsn (by rw [hsn, List.length_append, hl2]; omega)
                have hnx : k + 1 ≤ i → (catL L f (k + 1)).length ≤ k + 1 - f := fun h => by
                  obtain ⟨_, _, h3⟩ := HP.out.2 k (by omega)
                  rw [hsn, List.length_append, hl2, h3]
                  have : (⟨#[bs[k]]⟩ : ByteArray).size = 1 := rfl
                  omega
                have HL := Lib.hid (fun w => refLower L[k] w (by omega))
                have HNX := Lib.hid hnx
                clear hsn hl2 hkl hkl' hnx hsz
                generalize hC2 : catL L f (k + 1) = C2 at *
                have HC2 := Lib.hid hC2
                clear hC2
                generalize catL L f k = C1 at *
                generalize low L[k].data.toList = C3 at *
                generalize L[k] = S3 at *
                go_wp2_with fail
                refine (HL.out _).mono ?_
                rintro e w3 ⟨rfl, hb3⟩
                have HB3 := Lib.hid (hbr.trans (hb3.mono hbr.size))
                clear hbr hb3
                go_wp2
                go_roundw
                case rel => exact ⟨k + 1, by omega, by omega, by go_num, by rw [HC2.out], fun h => by rw [HC2.out]; exact HNX.out h, HB3.out⟩
                case measure => simp [intOf]; omega
              · obtain rfl : k = i + 1 := by omega
                have HBR := Lib.hid hbr
                have HR' := HR.out
                clear hkl hbr
                generalize catL L f (i + 1) = X at *
                have HRR := Lib.hid HR'
                clear HR' HR HP HB
                obtain ⟨ti, hti⟩ : ∃ ti : Int, ((i + 1 : Nat) : Int) = ti := ⟨_, rfl⟩
                rw [hti]
                have hti2 : ¬ ti ≤ (i : Int) := by omega
                clear hti
                go_wp2
                go_loopw [11] (fun kk wq => ∃ k : Nat, k ≤ 7 ∧ kk = .int .i64 (k : Int) ∧ (∀ j, j < k → ¬ (X.length ≤ 3 ∧ (low (nthL weeksL j)).take X.length = X)) ∧ Below wr.heap.size wr wq) (fun kk _ => 7 - (intOf kk).toNat)
                case atStart => exact ⟨0, Nat.zero_le _, rfl, fun j hj => absurd hj (Nat.not_lt_zero _), Below.refl _ _⟩
                case round =>
                  obtain ⟨k, hk, rfl, hno, hbq⟩ := hrel
                  by_cases hlt : k < 7
                  · have hki2 : (k : Int) < 7 := by omega
                    by_cases hx3 : X.length ≤ 3
                    · have hnl := wee_len k hlt
                      have hcn := (hbq.cell (Nat.lt_of_lt_of_le HN.out.1 HBR.out.size)).trans ((HBR.out.cell HN.out.1).trans (HN.out.2 k hlt))
                      have HL := Lib.hid (fun w => refLower ⟨(nthL weeksL k).toArray⟩ w (by rw [size_mk, hnl]; omega))
                      rw [data_mk] at HL
                      have hll : (⟨(low (nthL weeksL k)).toArray⟩ : ByteArray).size = 3 := by rw [size_mk, low_length, hnl]
                      have hsz : (⟨X.toArray⟩ : ByteArray).size = X.length := size_mk X
                      have htk : ((⟨(low (nthL weeksL k)).toArray⟩ : ByteArray).extract 0 X.length).toList = (low (nthL weeksL k)).take X.length := by
                        rw [Lib.toList_data, Lib.extract_data, data_mk, List.drop_zero, Nat.sub_zero]
                      have hxl : (⟨X.toArray⟩ : ByteArray).toList = X := by rw [Lib.toList_data, data_mk]
                      have hx4 : (X.length : Int) ≤ 3 := by omega
                      by_cases hh : (low (nthL weeksL k)).take X.length = X
                      · have HT := Lib.hid ((hit_true _ _ _ k hlt hx3 hh).symm.trans HRR.out)
                        have hbe : (((⟨(low (nthL weeksL k)).toArray⟩ : ByteArray).extract 0 X.length).toList == (⟨X.toArray⟩ : ByteArray).toList) = true := by rw [htk, hxl, hh]; simp
                        clear hno hh htk hxl hx3 hnl
                        generalize (⟨X.toArray⟩ : ByteArray) = XB at *
                        generalize (⟨(low (nthL weeksL k)).toArray⟩ : ByteArray) = LN at *
                        generalize (⟨(nthL weeksL k).toArray⟩ : ByteArray) = NN at *
                        go_wp2_with fail
                        refine (HL.out _).mono ?_
                        rintro e w4 ⟨rfl, hb4⟩
                        have HB4 := Lib.hid (hbq.trans (hb4.mono hbq.size))
                        clear hbq hb4
                        go_wp2
                        go_ret
                        exact ⟨by rw [← HT.out]; rfl, HBL.out.trans ((HBR.out.trans (HB4.out.mono HBR.out.size)).mono HBL.out.size)⟩
                      · have HNO := Lib.hid (show ∀ j, j < k + 1 → ¬ (X.length ≤ 3 ∧ (low (nthL weeksL j)).take X.length = X) from fun j hj h => by
                          rcases Nat.lt_or_ge j k with h1 | h1
                          · exact hno j h1 h
                          · obtain rfl : j = k := by omega
                            exact hh h.2)
                        have hbe : (((⟨(low (nthL weeksL k)).toArray⟩ : ByteArray).extract 0 X.length).toList == (⟨X.toArray⟩ : ByteArray).toList) = false := by rw [htk, hxl, beq_eq_false_iff_ne]; exact hh
                        clear hno hh htk hxl hx3 hnl
                        generalize (⟨X.toArray⟩ : ByteArray) = XB at *
                        generalize (⟨(low (nthL weeksL k)).toArray⟩ : ByteArray) = LN at *
                        generalize (⟨(nthL weeksL k).toArray⟩ : ByteArray) = NN at *
                        go_wp2_with fail
                        refine (HL.out _).mono ?_
                        rintro e w4 ⟨rfl, hb4⟩
                        have HB4 := Lib.hid (hbq.trans (hb4.mono hbq.size))
                        clear hbq hb4
                        go_wp2
                        go_roundw
                        case rel => exact ⟨k + 1, by omega, by go_num, HNO.out, HB4.out⟩
                        case measure => simp [intOf]; omega
                    · have HNO := Lib.hid (show ∀ j, j < k + 1 → ¬ (X.length ≤ 3 ∧ (low (nthL weeksL j)).take X.length = X) from fun j _ h => hx3 h.1)
                      have hsz : (⟨X.toArray⟩ : ByteArray).size = X.length := size_mk X
                      clear hno
                      generalize (⟨X.toArray⟩ : ByteArray) = XB at *
                      have hx4 : ¬ ((X.length : Int) ≤ 3) := by omega
                      go_wp2
                      go_roundw
                      case rel => exact ⟨k + 1, by omega, by go_num, HNO.out, hbq⟩
                      case measure => simp [intOf]; omega
                  · obtain rfl : k = 7 := by omega
                    have HF := Lib.hid ((hit_false _ _ _ hno).symm.trans HRR.out)
                    clear hno
                    go_wp2
                    go_ret
                    exact ⟨by rw [← HF.out]; rfl, HBL.out.trans ((HBR.out.trans (hbq.mono HBR.out.size)).mono HBL.out.size)⟩
end Go.Proofs.YtkkmjadkagpihaaDoor
