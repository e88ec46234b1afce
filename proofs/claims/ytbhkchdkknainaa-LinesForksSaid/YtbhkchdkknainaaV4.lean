import Derived.Test.YtbhkchdkknainaaV3
namespace Go.Proofs.Ytbhkchdkknainaa
open Go.RowKit

set_option maxHeartbeats 800000 in
theorem ends_any (v : Value) (l : List UInt8) (i : Nat) (w : World) (hv : Byt w v l) (hl : l.length ≤ 1073741824) (hi : i ≤ 2147483648) :
    Calls Try.prog 29 #[v, .int .i64 (i : Int)] w fun e w' => e = .returned (.bool (endsL l i)) ∧ Below w.heap.size w w' := by
  obtain ⟨a, cap, rfl, hcap⟩ := hv.shape
  by_cases h1 : i + 1 < l.length
  · obtain ⟨g, off, cap', hv', _, hg, hcell⟩ := hv.cell (by omega)
    injection hv' with hva _ hvc
    subst hva hvc
    have c0 := hcell i (by omega)
    have c1 := hcell (i + 1) h1
    have hE : endsL l i = (decide (l[i].toNat = 13) && decide (l[i + 1].toNat = 10)) := by
      unfold endsL
      have e1 : l.getD i 0 = l[i] := by simp [List.getD, show i < l.length by omega]
      have e2 : l.getD (i + 1) 0 = l[i + 1] := by simp [List.getD, h1]
      rw [e1, e2, decide_eq_true h1, Bool.true_and]
      congr 1
      · rw [Bool.eq_iff_iff, beq_iff_eq, decide_eq_true_iff]; exact ⟨fun h => by rw [h]; rfl, fun h => UInt8.toNat_inj.1 h⟩
      · rw [Bool.eq_iff_iff, beq_iff_eq, decide_eq_true_iff]; exact ⟨fun h => by rw [h]; rfl, fun h => UInt8.toNat_inj.1 h⟩
    rw [hE]
    clear hE hcell
    generalize l[i].toNat = x at c0
    generalize l[i + 1].toNat = y at c1
    by_cases hx : x = 13
    · subst hx
      by_cases hy : y = 10
      · subst hy
        go_enter Try.func29, Try.ntmps29
        go_wp2
        go_ret
        exact ⟨rfl, Below.refl _ _⟩
      · have hy2 : ((y : Int) == 10) = false := by rw [beq_eq_false_iff_ne]; omega
        rw [decide_eq_false hy]
        clear hy
        go_enter Try.func29, Try.ntmps29
        go_wp2
        go_ret
        exact ⟨rfl, Below.refl _ _⟩
    · have hx2 : ((x : Int) == 13) = false := by rw [beq_eq_false_iff_ne]; omega
      rw [decide_eq_false hx]
      clear hx
      go_enter Try.func29, Try.ntmps29
      go_wp2
      go_ret
      exact ⟨rfl, Below.refl _ _⟩
  · have hE : endsL l i = false := by unfold endsL; rw [decide_eq_false h1]; rfl
    rw [hE]
    clear hE
    go_enter Try.func29, Try.ntmps29
    go_wp2
    go_ret
    exact ⟨rfl, Below.refl _ _⟩

set_option maxHeartbeats 800000 in
theorem begins_any (v : Value) (l : List UInt8) (i : Nat) (w : World) (hv : Byt w v l) (hl : l.length ≤ 1073741824) (hi : i ≤ 2147483648) :
    Calls Try.prog 28 #[v, .int .i64 (i : Int)] w fun e w' => e = .returned (.bool (beginsL l i)) ∧ Below w.heap.size w w' := by
  by_cases h0 : i = 0
  · subst h0
    have hE : beginsL l 0 = true := by unfold beginsL; rfl
    rw [hE]
    clear hE
    go_enter Try.func28, Try.ntmps28
    go_wp2
    go_ret
    exact ⟨rfl, Below.refl _ _⟩
  · by_cases h2 : 2 ≤ i
    · have hE : beginsL l i = endsL l (i - 2) := by unfold beginsL; rw [decide_eq_false h0, decide_eq_true h2, Bool.false_or, Bool.true_and]
      rw [hE]
      clear hE
      have hc := ends_any v l (i - 2) w hv hl (by omega)
      rw [show ((i - 2 : Nat) : Int) = (i : Int) - 2 by omega] at hc
      have hz : ((i : Int) == 0) = false := by rw [beq_eq_false_iff_ne]; omega
      go_enter Try.func28, Try.ntmps28
      go_wp2_with fail
      refine hc.mono ?_
      rintro e w1 ⟨rfl, hb⟩
      go_wp2
      go_ret
      exact ⟨rfl, hb⟩
    · have hE : beginsL l i = false := by unfold beginsL; rw [decide_eq_false h0, decide_eq_false h2]; rfl
      rw [hE]
      clear hE
      have hz : ((i : Int) == 0) = false := by rw [beq_eq_false_iff_ne]; omega
      go_enter Try.func28, Try.ntmps28
      go_wp2
      go_ret
      exact ⟨rfl, Below.refl _ _⟩
end Go.Proofs.Ytbhkchdkknainaa
