/- Date: the document's fits, for each sign of a pattern. -/
import Derived.Test.YtkkmjadkagpihaaDoorJ36
namespace Go.Proofs.YtkkmjadkagpihaaDoor
open Go Go.RowKit

theorem ret_bl {a b : Bool} (h : a = b) : Ending.returned (.bool a) = .returned (.bool b) := by rw [h]
theorem one_one (c : UInt8) : ∃ S : ByteArray, (⟨#[c]⟩ : ByteArray) = S ∧ (∀ h : 0 < S.size, (S[0]'h).toNat = c.toNat) ∧ S.size = 1 := ⟨_, rfl, fun _ => rfl, rfl⟩

theorem fits_57 (w : World) (v : Value) (L : List ByteArray) (hv : Ltr w v L) (i : Nat) (hi : i < L.length) (x : UInt8) (hx : L[i] = ⟨#[x]⟩) :
    Calls Tryd.prog 79 #[v, .int .i64 (i : Int), .int .u8 57] w fun e w' => e = .returned (.bool (decide (48 ≤ x.toNat ∧ x.toNat ≤ 57))) ∧ w = w' := by
  obtain ⟨g, cp, rfl, hcp, hg, hcell⟩ := hv.at (by omega)
  have hcl := hcell i hi
  rw [hx] at hcl
  obtain ⟨S, hS, hz0, hz1⟩ := one_one x
  rw [hS] at hcl
  clear hcell hx hS hv
  generalize x.toNat = cv at *
  by_cases a1 : 48 ≤ cv
  · by_cases a2 : cv ≤ 57
    · rw [decide_eq_true ⟨a1, a2⟩]
      go_enter Tryd.func79, Tryd.ntmps79
      go_wp2
      go_ret
      exact ⟨ret_bl (by first | rfl | exact decide_eq_true (by omega) | exact decide_eq_false (by omega)), rfl⟩
    · rw [decide_eq_false (fun h => a2 (by omega))]
      go_enter Tryd.func79, Tryd.ntmps79
      go_wp2
      go_ret
      exact ⟨ret_bl (by first | rfl | exact decide_eq_true (by omega) | exact decide_eq_false (by omega)), rfl⟩
  · rw [decide_eq_false (fun h => a1 h.1)]
    go_enter Tryd.func79, Tryd.ntmps79
    go_wp2
    go_ret
    exact ⟨ret_bl (by first | rfl | exact decide_eq_true (by omega) | exact decide_eq_false (by omega)), rfl⟩

theorem fits_50 (w : World) (v : Value) (L : List ByteArray) (hv : Ltr w v L) (i : Nat) (hi : i < L.length) (x : UInt8) (hx : L[i] = ⟨#[x]⟩) :
    Calls Tryd.prog 79 #[v, .int .i64 (i : Int), .int .u8 50] w fun e w' => e = .returned (.bool (decide (48 ≤ x.toNat ∧ x.toNat ≤ 50))) ∧ w = w' := by
  obtain ⟨g, cp, rfl, hcp, hg, hcell⟩ := hv.at (by omega)
  have hcl := hcell i hi
  rw [hx] at hcl
  obtain ⟨S, hS, hz0, hz1⟩ := one_one x
  rw [hS] at hcl
  clear hcell hx hS hv
  generalize x.toNat = cv at *
  by_cases a1 : 48 ≤ cv
  · by_cases a2 : cv ≤ 57
    · by_cases a3 : cv ≤ 50
      · rw [decide_eq_true ⟨a1, a3⟩]
        go_enter Tryd.func79, Tryd.ntmps79
        go_wp2
        go_ret
        exact ⟨ret_bl (by first | rfl | exact decide_eq_true (by omega) | exact decide_eq_false (by omega)), rfl⟩
      · rw [decide_eq_false (fun h => a3 h.2)]
        go_enter Tryd.func79, Tryd.ntmps79
        go_wp2
        go_ret
        exact ⟨ret_bl (by first | rfl | exact decide_eq_true (by omega) | exact decide_eq_false (by omega)), rfl⟩
    · rw [decide_eq_false (fun h => a2 (by omega))]
      go_enter Tryd.func79, Tryd.ntmps79
      go_wp2
      go_ret
      exact ⟨ret_bl (by first | rfl | exact decide_eq_true (by omega) | exact decide_eq_false (by omega)), rfl⟩
  · rw [decide_eq_false (fun h => a1 h.1)]
    go_enter Tryd.func79, Tryd.ntmps79
    go_wp2
    go_ret
    exact ⟨ret_bl (by first | rfl | exact decide_eq_true (by omega) | exact decide_eq_false (by omega)), rfl⟩

theorem fits_53 (w : World) (v : Value) (L : List ByteArray) (hv : Ltr w v L) (i : Nat) (hi : i < L.length) (x : UInt8) (hx : L[i] = ⟨#[x]⟩) :
    Calls Tryd.prog 79 #[v, .int .i64 (i : Int), .int .u8 53] w fun e w' => e = .returned (.bool (decide (48 ≤ x.toNat ∧ x.toNat ≤ 53))) ∧ w = w' := by
  obtain ⟨g, cp, rfl, hcp, hg, hcell⟩ := hv.at (by omega)
  have hcl := hcell i hi
  rw [hx] at hcl
  obtain ⟨S, hS, hz0, hz1⟩ := one_one x
  rw [hS] at hcl
  clear hcell hx hS hv
  generalize x.toNat = cv at *
  by_cases a1 : 48 ≤ cv
  · by_cases a2 : cv ≤ 57
    · by_cases a3 : cv ≤ 53
      · rw [decide_eq_true ⟨a1, a3⟩]
        go_enter Tryd.func79, Tryd.ntmps79
        go_wp2
        go_ret
        exact ⟨ret_bl (by first | rfl | exact decide_eq_true (by omega) | exact decide_eq_false (by omega)), rfl⟩
      · rw [decide_eq_false (fun h => a3 h.2)]
        go_enter Tryd.func79, Tryd.ntmps79
        go_wp2
        go_ret
        exact ⟨ret_bl (by first | rfl | exact decide_eq_true (by omega) | exact decide_eq_false (by omega)), rfl⟩
    · rw [decide_eq_false (fun h => a2 (by omega))]
      go_enter Tryd.func79, Tryd.ntmps79
      go_wp2
      go_ret
      exact ⟨ret_bl (by first | rfl | exact decide_eq_true (by omega) | exact decide_eq_false (by omega)), rfl⟩
  · rw [decide_eq_false (fun h => a1 h.1)]
    go_enter Tryd.func79, Tryd.ntmps79
    go_wp2
    go_ret
    exact ⟨ret_bl (by first | rfl | exact decide_eq_true (by omega) | exact decide_eq_false (by omega)), rfl⟩

theorem fitsM_57 (w : World) (v : Value) (L : List ByteArray) (hv : Ltr w v L) (i : Nat) (hi : i < L.length) (hx : L[i].size ≠ 1) :
    Calls Tryd.prog 79 #[v, .int .i64 (i : Int), .int .u8 57] w fun e w' => e = .returned (.bool false) ∧ w = w' := by
  obtain ⟨g, cp, rfl, hcp, hg, hcell⟩ := hv.at (by omega)
  have hcl := hcell i hi
  generalize L[i] = S at *
  have hxi : ¬ ((S.size : Int) = 1) := by omega
  clear hcell hv
  go_enter Tryd.func79, Tryd.ntmps79
  go_wp2
  go_ret
  exact ⟨ret_bl (by first | rfl | exact decide_eq_true (by omega) | exact decide_eq_false (by omega)), rfl⟩

theorem fitsM_50 (w : World) (v : Value) (L : List ByteArray) (hv : Ltr w v L) (i : Nat) (hi : i < L.length) (hx : L[i].size ≠ 1) :
    Calls Tryd.prog 79 #[v, .int .i64 (i : Int), .int .u8 50] w fun e w' => e = .returned (.bool false) ∧ w = w' := by
  obtain ⟨g, cp, rfl, hcp, hg, hcell⟩ := hv.at (by omega)
  have hcl := hcell i hi
  generalize L[i] = S at *
  have hxi : ¬ ((S.size : Int) = 1) := by omega
  clear hcell hv
  go_enter Tryd.func79, Tryd.ntmps79
  go_wp2
  go_ret
  exact ⟨ret_bl (by first | rfl | exact decide_eq_true (by omega) | exact decide_eq_false (by omega)), rfl⟩

theorem fitsM_53 (w : World) (v : Value) (L : List ByteArray) (hv : Ltr w v L) (i : Nat) (hi : i < L.length) (hx : L[i].size ≠ 1) :
    Calls Tryd.prog 79 #[v, .int .i64 (i : Int), .int .u8 53] w fun e w' => e = .returned (.bool false) ∧ w = w' := by
  obtain ⟨g, cp, rfl, hcp, hg, hcell⟩ := hv.at (by omega)
  have hcl := hcell i hi
  generalize L[i] = S at *
  have hxi : ¬ ((S.size : Int) = 1) := by omega
  clear hcell hv
  go_enter Tryd.func79, Tryd.ntmps79
  go_wp2
  go_ret
  exact ⟨ret_bl (by first | rfl | exact decide_eq_true (by omega) | exact decide_eq_false (by omega)), rfl⟩

theorem fitsM_51 (w : World) (v : Value) (L : List ByteArray) (hv : Ltr w v L) (i : Nat) (hi : i < L.length) (hx : L[i].size ≠ 1) :
    Calls Tryd.prog 79 #[v, .int .i64 (i : Int), .int .u8 51] w fun e w' => e = .returned (.bool false) ∧ w = w' := by
  obtain ⟨g, cp, rfl, hcp, hg, hcell⟩ := hv.at (by omega)
  have hcl := hcell i hi
  generalize L[i] = S at *
  have hxi : ¬ ((S.size : Int) = 1) := by omega
  clear hcell hv
  go_enter Tryd.func79, Tryd.ntmps79
  go_wp2
  go_ret
  exact ⟨ret_bl (by first | rfl | exact decide_eq_true (by omega) | exact decide_eq_false (by omega)), rfl⟩

theorem fits_51 (w : World) (v : Value) (L : List ByteArray) (hv : Ltr w v L) (i : Nat) (hi : i + 1 < L.length) (hil : i ≤ 1000) (x y : UInt8) (hx : L[i + 1] = ⟨#[x]⟩) (hy : L[i] = ⟨#[y]⟩) (n : Int) (hn : n = ((i + 1 : Nat) : Int)) :
    Calls Tryd.prog 79 #[v, .int .i64 n, .int .u8 51] w fun e w' => e = .returned (.bool (decide (48 ≤ x.toNat ∧ x.toNat ≤ 57 ∧ (x.toNat ≤ 51 ∨ y ≠ 50)))) ∧ w = w' := by
  obtain ⟨g, cp, rfl, hcp, hg, hcell⟩ := hv.at (by omega)
  have hcl := hcell (i + 1) hi
  have hcl2 := hcell i (by omega)
  rw [hx] at hcl
  rw [hy] at hcl2
  obtain ⟨S, hS, hz0, hz1⟩ := one_one x
  rw [hS] at hcl
  have hn1 : n.toNat = i + 1 := by omega
  have hn2 : n - 1 = (i : Int) := by omega
  have hn3 : 0 ≤ n := by omega
  have hn4 : n < (L.length : Int) := by omega
  have hn5 : (i : Int) < (L.length : Int) := by omega
  have hn6 : n ≤ 1001 := by omega
  have hpw : IntKind.i64.wrap (n - 1) = (i : Int) := by rw [hn2]; exact IntWalk.i64_in _ (by omega)
  have hye : (y = 50 → ((⟨#[y]⟩ : ByteArray).toList == [50]) = true) ∧ (y ≠ 50 → ((⟨#[y]⟩ : ByteArray).toList == [50]) = false) := by
    have e1 : (⟨#[y]⟩ : ByteArray).toList = [y] := by rw [Lib.toList_data]
    rw [e1]
    exact ⟨fun h => by simp [h], fun h => by simp [h]⟩
  clear hcell hx hy hS hv hn
  generalize x.toNat = cv at *
  by_cases a1 : 48 ≤ cv
  · by_cases a2 : cv ≤ 57
    · by_cases a3 : cv ≤ 51
      · rw [decide_eq_true ⟨a1, a2, Or.inl a3⟩]
        clear hye
        go_enter Tryd.func79, Tryd.ntmps79
        go_wp2
        go_ret
        exact ⟨ret_bl (by first | rfl | exact decide_eq_true (by omega) | exact decide_eq_false (by omega)), rfl⟩
      · by_cases a4 : y = 50
        · rw [decide_eq_false (fun h => by rcases h.2.2 with h | h; exact a3 h; exact h a4)]
          have hbe := hye.1 a4
          clear hye a4
          generalize (⟨#[y]⟩ : ByteArray) = YS at *
          go_enter Tryd.func79, Tryd.ntmps79
          go_wp2
          go_ret
          exact ⟨ret_bl (by first | rfl | exact decide_eq_false (by omega) | (rw [hbe]; first | rfl | (rw [decide_eq_false (by omega)]; rfl))), rfl⟩
        · rw [decide_eq_true ⟨a1, a2, Or.inr a4⟩]
          have hbe := hye.2 a4
          clear hye a4
          generalize (⟨#[y]⟩ : ByteArray) = YS at *
          go_enter Tryd.func79, Tryd.ntmps79
          go_wp2
          go_ret
          exact ⟨ret_bl (by first | rfl | exact decide_eq_false (by omega) | (rw [hbe]; first | rfl | (rw [decide_eq_false (by omega)]; rfl))), rfl⟩
    · rw [decide_eq_false (fun h => a2 h.2.1)]
      clear hye
      go_enter Tryd.func79, Tryd.ntmps79
      go_wp2
      go_ret
      exact ⟨ret_bl (by first | rfl | exact decide_eq_true (by omega) | exact decide_eq_false (by omega)), rfl⟩
  · rw [decide_eq_false (fun h => a1 h.1)]
    clear hye
    go_enter Tryd.func79, Tryd.ntmps79
    go_wp2
    go_ret
    exact ⟨ret_bl (by first | rfl | exact decide_eq_true (by omega) | exact decide_eq_false (by omega)), rfl⟩

theorem fits_77 (w : World) (v : Value) (L : List ByteArray) (bs : List UInt8) (hv : Ltr w v L) (i f : Nat) (hi : i < L.length) (hP : Pre L bs i) (hB : Bck bs i f) (hz : L[i].size ≤ 4398046511104) (hil : i ≤ 1000) (R : Bool) (hR : hitR monthsL 12 (catL L f (i + 1)) = R) :
    Calls Tryd.prog 79 #[v, .int .i64 (i : Int), .int .u8 77] w fun e w' => e = .returned (.bool R) ∧ Below w.heap.size w w' := by
  have HL := Lib.hid (letter_m w v L bs hv i f hi hP hB hz hil R hR)
  obtain ⟨g, cp, rfl, hcp, hg, hcell⟩ := hv.at (by omega)
  have hcl := hcell i hi
  generalize L[i] = S at *
  clear hcell hP hB hR hz hv
  by_cases h1 : S.size = 1
  · have hz1 : 0 < S.size := by omega
    obtain ⟨y, hy⟩ : ∃ y, S[0].toNat = y := ⟨_, rfl⟩
    by_cases a1 : 48 ≤ y
    · by_cases a2 : y ≤ 57
      all_goals
        go_enter Tryd.func79, Tryd.ntmps79
        go_wp2_with fail
        refine HL.out.mono ?_
        rintro e w2 ⟨rfl, hb⟩
        go_wp2
        go_ret
        exact ⟨rfl, hb⟩
    · skip
      go_enter Tryd.func79, Tryd.ntmps79
      go_wp2_with fail
      refine HL.out.mono ?_
      rintro e w2 ⟨rfl, hb⟩
      go_wp2
      go_ret
      exact ⟨rfl, hb⟩
  · have hxi : ¬ ((S.size : Int) = 1) := by omega
    go_enter Tryd.func79, Tryd.ntmps79
    go_wp2_with fail
    refine HL.out.mono ?_
    rintro e w2 ⟨rfl, hb⟩
    go_wp2
    go_ret
    exact ⟨rfl, hb⟩

theorem fits_87 (w : World) (v : Value) (L : List ByteArray) (bs : List UInt8) (hv : Ltr w v L) (i f : Nat) (hi : i < L.length) (hP : Pre L bs i) (hB : Bck bs i f) (hz : L[i].size ≤ 4398046511104) (hil : i ≤ 1000) (R : Bool) (hR : hitR weeksL 7 (catL L f (i + 1)) = R) :
    Calls Tryd.prog 79 #[v, .int .i64 (i : Int), .int .u8 87] w fun e w' => e = .returned (.bool R) ∧ Below w.heap.size w w' := by
  have HL := Lib.hid (letter_w w v L bs hv i f hi hP hB hz hil R hR)
  obtain ⟨g, cp, rfl, hcp, hg, hcell⟩ := hv.at (by omega)
  have hcl := hcell i hi
  generalize L[i] = S at *
  clear hcell hP hB hR hz hv
  by_cases h1 : S.size = 1
  · have hz1 : 0 < S.size := by omega
    obtain ⟨y, hy⟩ : ∃ y, S[0].toNat = y := ⟨_, rfl⟩
    by_cases a1 : 48 ≤ y
    · by_cases a2 : y ≤ 57
      all_goals
        go_enter Tryd.func79, Tryd.ntmps79
        go_wp2_with fail
        refine HL.out.mono ?_
        rintro e w2 ⟨rfl, hb⟩
        go_wp2
        go_ret
        exact ⟨rfl, hb⟩
    · skip
      go_enter Tryd.func79, Tryd.ntmps79
      go_wp2_with fail
      refine HL.out.mono ?_
      rintro e w2 ⟨rfl, hb⟩
      go_wp2
      go_ret
      exact ⟨rfl, hb⟩
  · have hxi : ¬ ((S.size : Int) = 1) := by omega
    go_enter Tryd.func79, Tryd.ntmps79
    go_wp2_with fail
    refine HL.out.mono ?_
    rintro e w2 ⟨rfl, hb⟩
    go_wp2
    go_ret
    exact ⟨rfl, hb⟩
end Go.Proofs.YtkkmjadkagpihaaDoor
