/- Box: the document's one, walked. -/
import Derived.Test.YtpmakbjchepkmaaDoorCS1
namespace Go.Proofs.YtpmakbjchepkmaaDoor
open Go.RowKit

theorem lst_one (c : UInt8) : (⟨#[c]⟩ : ByteArray).toList = [c] := by rw [Lib.toList_data]
theorem ne_sign {X : ByteArray} (hX : 2 ≤ X.size) (d : UInt8) : (X.toList == [d]) = false := by
  rw [beq_eq_false_iff_ne, Lib.toList_data]
  intro e
  have := congrArg List.length e
  rw [← Lib.size_eq] at this
  simp at this
  omega
theorem ne_one {c d : UInt8} (h : c ≠ d) : ((⟨#[c]⟩ : ByteArray).toList == [d]) = false := by
  rw [lst_one, beq_eq_false_iff_ne]
  intro e
  exact h (List.cons.inj e).1
theorem one_at (c : UInt8) : ((⟨#[c]⟩ : ByteArray)[0]'(by show 0 < 1; decide)).toNat = c.toNat := rfl
def resO (x : Int × Nat × Bool) : Value := .tuple #[.int .i64 x.1, .int .i64 (x.2.1 : Int), .bool x.2.2]
theorem ret_resO {x : Int × Nat × Bool} {a : Int} {b : Nat} {c : Bool} (h : (a, b, c) = x) : Ending.returned (.tuple #[.int .i64 a, .int .i64 (b : Int), .bool c]) = .returned (resO x) := by subst h; rfl

set_option maxRecDepth 100000 in
set_option maxHeartbeats 4000000 in
/-- No star stands there. -/
theorem one_num (w : World) (v : Value) (s : ByteArray) (at0 : Nat) (hv : Lts w v s) (ha : Ascii s at0) (hs : s.size ≤ 4398046511104) (hst : ∀ h : at0 < s.size, (s[at0]'h).toNat ≠ 42) :
    Calls Tryd.prog 25 #[v, .int .i64 (at0 : Int)] w fun e w' => e = .returned (resO ((digs (s.data.toList.drop at0) 0 at0).1, (digs (s.data.toList.drop at0) 0 at0).2.1, (digs (s.data.toList.drop at0) 0 at0).2.2 && decide (at0 < (digs (s.data.toList.drop at0) 0 at0).2.1))) ∧ w' = w := by
  obtain ⟨a, cap, rfl, hc⟩ := hv
  obtain ⟨hl, hlt⟩ := letV_len s at0 ha
  have HC := Lib.hid hc
  have HA := Lib.hid ha
  have hat := ha.1
  have hlen : (letsV s).length ≤ 4398046511104 := by
    have := lets_length s (s.size - 0) 0
    unfold letsV lets
    rw [List.length_map]
    omega
  have h0 : ¬ (at0 : Int) < ((letsV s).length : Int) ∨ ((at0 : Int) < ((letsV s).length : Int) ∧ ∃ (g off : Nat) (X : ByteArray), a = some ⟨g, off, none⟩ ∧ w.cell? ⟨g, off + at0, none⟩ = some (.string X) ∧ (X.toList == [42]) = false) := by
    by_cases h1 : at0 < s.size
    · right
      refine ⟨by have := hlt.2 h1; omega, ?_⟩
      rcases letter_at s at0 ha h1 with h2 | ⟨_, X, h2, h3⟩
      · obtain ⟨g, off, q1, _, q3⟩ := hc _ _ h2
        exact ⟨g, off, _, q1, q3, ne_one (fun e => hst h1 (by rw [e]; rfl))⟩
      · obtain ⟨g, off, q1, _, q3⟩ := hc _ _ h2
        exact ⟨g, off, _, q1, q3, ne_sign h3 42⟩
    · left
      have : ¬ at0 < (letsV s).length := fun h => h1 (hlt.1 h)
      omega
  clear hc ha hlt hst
  obtain ⟨R, hR⟩ : ∃ R, digs (s.data.toList.drop at0) 0 at0 = R := ⟨_, rfl⟩
  rw [hR]
  have HR := Lib.hid hR
  clear hR
  rcases h0 with h0 | ⟨h0, g0, off0, X0, rfl, hc0, hne⟩
  · have hz : ¬ at0 < s.size := fun h => by have := (letV_len s at0 HA.out).2.2 h; omega
    have hRe := HR.out
    rw [drop_no s at0 hz] at hRe
    unfold digs at hRe
    subst hRe
    go_enter Tryd.func25, Tryd.ntmps25
    go_wp2
    refine wp_loop_rounds 1 ?_
    rw [rounds_succ]
    go_wp2
    exact bodyPost_ret (v := .tuple #[.int .i64 0, .int .i64 (at0 : Int), .bool false]) (by simp [results, Tryd.results25, go_sem]) rfl ⟨ret_resO (by simp), rfl⟩
  · go_enter Tryd.func25, Tryd.ntmps25
    go_wp2_with fail
    go_loopw [7, 8] (fun nv iv wr => ∃ n i : Nat, nv = .int .i64 (n : Int) ∧ iv = .int .i64 (i : Int) ∧ at0 ≤ i ∧ i ≤ s.size ∧ n ≤ 4294967295 ∧ wr = w ∧ Hid (Ascii s i ∧ R = digs (s.data.toList.drop i) n i)) (fun _ iv _ => s.size - (intOf iv).toNat)
    case atStart => exact ⟨0, at0, rfl, rfl, Nat.le_refl _, by omega, by omega, rfl, Lib.hid ⟨HA.out, HR.out.symm⟩⟩
    case round =>
      obtain ⟨n, i, rfl, rfl, hi0, hi1, hn, rfl, hH⟩ := hrel
      obtain ⟨hA, hD⟩ := hH.out
      obtain ⟨hl1, hlt1⟩ := letV_len s i hA
      by_cases h1 : i < s.size
      · have hli : (i : Int) < ((letsV s).length : Int) := by have := hlt1.2 h1; omega
        rw [drop_s s i h1] at hD
        rcases letter_at s i hA h1 with h2 | ⟨hbig, X, h2, h3⟩
        · obtain ⟨g, off, q1, _, q3⟩ := HC.out _ _ h2
          have hN := fun hc => hA.next h1 hc
          generalize s[i] = c at *
          try cases q1
          by_cases hd : 48 ≤ c.toNat ∧ c.toNat ≤ 57
          · unfold digs at hD
            rw [if_pos hd] at hD
            obtain ⟨hd1, hd2⟩ := hd
            have hx1 := one_at c
            by_cases hm : 10 * n + (c.toNat - 48) = 0 ∨ 4294967295 < 10 * n + (c.toNat - 48)
            · rw [if_pos hm] at hD
              have HDD := Lib.hid hD
              clear hH hA hD hlt1 hN
              rcases hm with hm | hm
              · have hn0 : n = 0 := by omega
                have hc0 : c.toNat = 48 := by omega
                go_wp2
                exact bodyPost_ret (v := .tuple #[.int .i64 0, .int .i64 (i : Int), .bool false]) (by simp [results, Tryd.results25, go_sem]) rfl ⟨ret_resO (by rw [HDD.out]; simp), rfl⟩
              · have hm2 : ¬ 10 * (n : Int) + (c.toNat : Int) - 48 = 0 := by omega
                have hm3 : 4294967295 < 10 * (n : Int) + (c.toNat : Int) - 48 := by omega
                go_wp2
                exact bodyPost_ret (v := .tuple #[.int .i64 0, .int .i64 (i : Int), .bool false]) (by simp [results, Tryd.results25, go_sem]) rfl ⟨ret_resO (by rw [HDD.out]; simp), rfl⟩
            · rw [if_neg hm] at hD
              have HDD := Lib.hid (And.intro (hN (by omega)) hD)
              clear hH hA hD hlt1 hN
              have hm2 : ¬ 10 * (n : Int) + (c.toNat : Int) - 48 = 0 := by omega
              have hm3 : ¬ 4294967295 < 10 * (n : Int) + (c.toNat : Int) - 48 := by omega
              go_wp2
              go_roundw
              case rel => exact ⟨10 * n + (c.toNat - 48), i + 1, by go_num, by go_num, by omega, by omega, by omega, trivial, HDD⟩
              case measure => simp [intOf]; omega
          · unfold digs at hD
            rw [if_neg hd] at hD
            have HDD := Lib.hid hD
            have hx1 := one_at c
            clear hH hA hD hlt1 hN
            have hd' : ¬ 48 ≤ (c.toNat : Int) ∨ (48 ≤ (c.toNat : Int) ∧ ¬ (c.toNat : Int) ≤ 57) := by omega
            clear hd
            rcases hd' with hd | ⟨hd, hd2⟩
            all_goals
              go_wp2
              exact bodyPost_ret (v := .tuple #[.int .i64 n, .int .i64 (i : Int), .bool (decide (at0 < i))]) (by simp [results, Tryd.results25, go_sem]) rfl ⟨ret_resO (by rw [HDD.out]; simp), rfl⟩
        · obtain ⟨g, off, q1, _, q3⟩ := HC.out _ _ h2
          cases q1
          unfold digs at hD
          rw [if_neg (by omega)] at hD
          have HDD := Lib.hid hD
          have hX1 : ¬ (X.size : Int) = 1 := by omega
          clear hH hA hD hlt1
          go_wp2
          exact bodyPost_ret (v := .tuple #[.int .i64 n, .int .i64 (i : Int), .bool (decide (at0 < i))]) (by simp [results, Tryd.results25, go_sem]) rfl ⟨ret_resO (by rw [HDD.out]; simp), rfl⟩
      · have hli : ¬ (i : Int) < ((letsV s).length : Int) := by have : ¬ i < (letsV s).length := fun h => h1 (hlt1.1 h); omega
        rw [drop_no s i h1] at hD
        unfold digs at hD
        have HDD := Lib.hid hD
        clear hH hA hD hlt1
        go_wp2
        exact bodyPost_ret (v := .tuple #[.int .i64 n, .int .i64 (i : Int), .bool (decide (at0 < i))]) (by simp [results, Tryd.results25, go_sem]) rfl ⟨ret_resO (by rw [HDD.out]; simp), rfl⟩

set_option maxHeartbeats 1000000 in
theorem one_star (w : World) (v : Value) (s : ByteArray) (at0 : Nat) (hv : Lts w v s) (ha : Ascii s at0) (hs : s.size ≤ 4398046511104) (h1 : at0 < s.size) (hst : (s[at0]'h1) = 42) :
    Calls Tryd.prog 25 #[v, .int .i64 (at0 : Int)] w fun e w' => e = .returned (resO (-1, at0 + 1, true)) ∧ w' = w := by
  obtain ⟨a, cap, rfl, hc⟩ := hv
  have h0 : (at0 : Int) < ((letsV s).length : Int) := by have := (letV_len s at0 ha).2.2 h1; omega
  obtain ⟨g, off, rfl, hcell⟩ : ∃ g off, a = some ⟨g, off, none⟩ ∧ w.cell? ⟨g, off + at0, none⟩ = some (.string ⟨#[42]⟩) := by
    rcases letter_at s at0 ha h1 with h2 | ⟨hb, _⟩
    · obtain ⟨g, off, q1, _, q3⟩ := hc _ _ h2
      rw [hst] at q3
      exact ⟨g, off, q1, q3⟩
    · rw [hst] at hb
      exact absurd hb (by decide)
  have hl := lst_one 42
  clear hc ha hst
  go_enter Tryd.func25, Tryd.ntmps25
  go_wp2
  exact bodyPost_ret (v := .tuple #[.int .i64 (-1), .int .i64 ((at0 + 1 : Nat) : Int), .bool true]) (by simp [results, Tryd.results25, go_sem]) rfl ⟨rfl, rfl⟩
theorem one_any (w : World) (v : Value) (s : ByteArray) (at0 : Nat) (hv : Lts w v s) (ha : Ascii s at0) (hs : s.size ≤ 4398046511104) :
    Calls Tryd.prog 25 #[v, .int .i64 (at0 : Int)] w fun e w' => e = .returned (resO (oneB (s.data.toList.drop at0) at0)) ∧ w' = w := by
  by_cases h : ∃ h : at0 < s.size, (s[at0]'h) = 42
  · obtain ⟨h1, h2⟩ := h
    rw [drop_s s at0 h1, h2]
    exact one_star w v s at0 hv ha hs h1 h2
  · have hne : ∀ h1 : at0 < s.size, (s[at0]'h1) ≠ 42 := fun h1 e => h ⟨h1, e⟩
    have e : oneB (s.data.toList.drop at0) at0 = ((digs (s.data.toList.drop at0) 0 at0).1, (digs (s.data.toList.drop at0) 0 at0).2.1, (digs (s.data.toList.drop at0) 0 at0).2.2 && decide (at0 < (digs (s.data.toList.drop at0) 0 at0).2.1)) := by
      unfold oneB
      split
      · rename_i t he
        by_cases h1 : at0 < s.size
        · rw [drop_s s at0 h1] at he
          exact absurd (List.cons.inj he).1 (hne h1)
        · rw [drop_no s at0 h1] at he
          cases he
      · rfl
    rw [e]
    exact one_num w v s at0 hv ha hs (fun h1 e => hne h1 (UInt8.toNat_inj.1 (by rw [e]; rfl)))
end Go.Proofs.YtpmakbjchepkmaaDoor
