/- Box: a set's reader goes over one as the document does: plain facts. -/
import Derived.Test.YtpmakbjchepkmaaDoorCQ
namespace Go.Proofs.YtpmakbjchepkmaaDoor
open Go Go.RowKit

/-- A star is the greatest number. -/
def starW (most v : Int) : Int := if v < 0 then most else v
/-- The reader behind a number or a star. -/
def Rd.at (r : Rd) (i : Nat) (f : Int) (v : Int) : Rd := Rd.lay { r with from' := i, far := f, starry := r.starry || decide (v < 0) } (starW r.most v)
theorem step_btw {s : ByteArray} {r : Rd} {i j : Nat} {f v : Int} (hf : f = 2 ∨ (f = 1 ∧ ((r.at i f v).dig s j).2 = false)) : (r.at i f v).step s j = (r.at i f v).btw (s.get! j) := by
  have hfar : (r.at i f v).far = f := rfl
  unfold Rd.step
  rw [hfar]
  rcases hf with rfl | ⟨rfl, h⟩
  · rw [if_neg (by decide), if_neg (by decide)]
  · rw [if_neg (by decide), if_pos rfl, h, if_neg (by decide)]
theorem oneB_star (t : List UInt8) (i : Nat) : oneB (42 :: t) i = (-1, i + 1, true) := rfl
theorem oneB_num {c : UInt8} (t : List UInt8) (i : Nat) (h : c ≠ 42) : oneB (c :: t) i = ((digs (c :: t) 0 i).1, (digs (c :: t) 0 i).2.1, (digs (c :: t) 0 i).2.2 && decide (i < (digs (c :: t) 0 i).2.1)) := by
  unfold oneB
  split
  · rename_i t' he
    exact absurd (List.cons.inj he).1 h
  · rfl
theorem one_run {s : ByteArray} {r : Rd} (h0 : r.far = 0) {i : Nat} (hi : i ≤ s.size) :
    ((oneB (s.data.toList.drop i) i).2.2 = true → i < (oneB (s.data.toList.drop i) i).2.1 ∧ (oneB (s.data.toList.drop i) i).2.1 ≤ s.size ∧ ∃ f : Int, (f = 1 ∨ f = 2) ∧
      rdRun s (s.size - i) i r = rdRun s (s.size - (oneB (s.data.toList.drop i) i).2.1) (oneB (s.data.toList.drop i) i).2.1 (r.at i f (oneB (s.data.toList.drop i) i).1) ∧
      ((oneB (s.data.toList.drop i) i).2.1 < s.size → (r.at i f (oneB (s.data.toList.drop i) i).1).step s (oneB (s.data.toList.drop i) i).2.1 = (r.at i f (oneB (s.data.toList.drop i) i).1).btw (s.get! (oneB (s.data.toList.drop i) i).2.1))) ∧
    ((oneB (s.data.toList.drop i) i).2.2 = false → (i = s.size ∧ (oneB (s.data.toList.drop i) i).2.1 = s.size) ∨ ((oneB (s.data.toList.drop i) i).2.1 < s.size ∧ (rdRun s (s.size - i) i r).2 = some (oneB (s.data.toList.drop i) i).2.1)) := by
  by_cases hlt : i < s.size
  · rw [drop_s s i hlt]
    have hstep : r.step s i = if (s.get! i).toNat = 42 then (Rd.lay { r with from' := i, far := 2, starry := true } r.most, true) else Rd.dig { r with from' := i, far := 1 } s i := by
      unfold Rd.step
      rw [if_pos h0]
    rw [get_of hlt] at hstep
    by_cases h42 : s[i]'hlt = 42
    · rw [h42, oneB_star]
      rw [h42, if_pos (show UInt8.toNat 42 = 42 from rfl)] at hstep
      refine ⟨fun _ => ⟨Nat.lt_succ_self i, hlt, 2, Or.inr rfl, ?_, fun _ => step_btw (Or.inl rfl)⟩, fun h => by cases h⟩
      have hat : r.at i 2 (-1) = Rd.lay { r with from' := i, far := 2, starry := true } r.most := by
        unfold Rd.at starW
        rw [if_pos (by decide), decide_eq_true (by decide), Bool.or_true]
      show _ = rdRun s (s.size - (i + 1)) (i + 1) (r.at i 2 (-1))
      rw [run_next hlt (by rw [hstep]), hstep, hat]
    · have hne : (s[i]'hlt).toNat ≠ 42 := fun e => h42 (UInt8.toNat_inj.1 (by rw [e]; rfl))
      rw [if_neg hne] at hstep
      rw [oneB_num _ _ h42]
      obtain ⟨d1, d2, d3⟩ := dig_more (r := { r with from' := i, far := 1 }) (run_nil s i hi) hlt rfl
      by_cases hd : isDig (s[i]'hlt)
      · by_cases hm : 10 * 0 + ((s[i]'hlt).toNat - 48) = 0 ∨ 4294967295 < 10 * 0 + ((s[i]'hlt).toNat - 48)
        · rw [digs_bad hd hm]
          refine ⟨(fun h => by simp at h), fun _ => Or.inr ⟨hlt, ?_⟩⟩
          rw [run_stop hlt (by rw [hstep]; exact d2 hd hm)]
        · rw [digs_more hd hm]
          obtain ⟨e, hR⟩ := d3 hd hm
          obtain ⟨g1, g2⟩ := run_digs (r := { r with from' := i, far := 1 }) rfl rfl (s.size - (i + 1)) (i + 1) _ rfl (Nat.lt_succ_self i) hR
          have hn : rdRun s (s.size - i) i r = rdRun s (s.size - (i + 1)) (i + 1) (Rd.lay { r with from' := i, far := 1 } ((10 * 0 + ((s[i]'hlt).toNat - 48) : Nat) : Int)) := by
            rw [run_next hlt (by rw [hstep, e]), hstep, e]
          generalize digs (s.data.toList.drop (i + 1)) (10 * 0 + ((s[i]'hlt).toNat - 48)) (i + 1) = Y at *
          obtain ⟨v, j, ok⟩ := Y
          simp only at g1 g2 ⊢
          refine ⟨fun hok => ?_, fun hok => ?_⟩
          · simp only [Bool.and_eq_true, decide_eq_true_eq] at hok
            obtain ⟨m, rfl, hRm, haj, hrun, hno⟩ := g1 hok.1
            have hat : Rd.lay { r with from' := i, far := 1 } (m : Int) = r.at i 1 (m : Int) := by
              unfold Rd.at starW
              rw [if_neg (by omega), decide_eq_false (by omega), Bool.or_false]
            refine ⟨hok.2, hRm.hi, 1, Or.inl rfl, ?_, fun hj => step_btw (Or.inr ⟨rfl, ?_⟩)⟩
            · rw [hn, hrun, hat]
            · exact (dig_more (r := r.at i 1 (m : Int)) hRm hj rfl).1 (hno hj)
          · cases ok with
            | false =>
              obtain ⟨h1, h2⟩ := g2 rfl
              exact Or.inr ⟨h1, by rw [hn]; exact h2⟩
            | true =>
              obtain ⟨m, _, _, haj, _⟩ := g1 rfl
              simp at hok
              omega
      · rw [digs_no hd]
        refine ⟨(fun h => by simp at h), fun _ => Or.inr ⟨hlt, ?_⟩⟩
        rw [run_stop hlt (by rw [hstep]; exact d1 hd)]
  · have : i = s.size := by omega
    subst this
    rw [drop_no s s.size hlt]
    refine ⟨(fun h => by simp [oneB, digs] at h), fun _ => Or.inl ⟨rfl, rfl⟩⟩
end Go.Proofs.YtpmakbjchepkmaaDoor
