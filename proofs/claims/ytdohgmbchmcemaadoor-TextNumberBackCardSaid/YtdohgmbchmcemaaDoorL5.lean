import Derived.Test.YtdohgmbchmcemaaDoorL4
namespace Go.Proofs.YtdohgmbchmcemaaDoor
open Go.RowKit

/-- Number of a number's text. -/
theorem num_dec (n : Nat) (h : n ≤ 4294967295) : numF ⟨(Lib.decDigits n).toArray⟩ = (n, 0, 0) := by
  have hd := dec_bytes10 n
  have hl := Lib.decDigits_length n
  have hp := Lib.nDigits_pos n
  have hf := dec_first n
  have hsz : (⟨(Lib.decDigits n).toArray⟩ : ByteArray).size = (Lib.decDigits n).length := by show (Lib.decDigits n).toArray.size = _; simp
  have hval := val10_dec n
  have hone : n = 0 → (Lib.decDigits n).length = 1 := fun e => by subst e; rw [dec_small 0 (by omega)]; rfl
  generalize Lib.decDigits n = l at *
  obtain ⟨m, hm, hm2, hm3, hm4⟩ := digit_lets l ⟨l.toArray⟩ 0 (by simp) (Nat.zero_le _) hd
  unfold numF
  rw [if_neg (by omega), hm]
  have hz : 1 < l.length → zeroB ⟨l.toArray⟩ = false := by
    intro h1
    have hn : 1 ≤ n := by
      rcases Nat.eq_zero_or_pos n with e | e
      · have := hone e; omega
      · exact e
    unfold zeroB
    rw [decide_eq_false]
    have h2 := hf hn
    have h3 := get_list ⟨l.toArray⟩ 0 (by omega)
    rw [← h3]
    cases l with
    | nil => simp at h1
    | cons a b => exact h2
  have hdig : digs (zeroB ⟨l.toArray⟩) m = true := by
    apply digs_of
    intro x hx
    obtain ⟨j, hj⟩ := List.getElem?_of_mem hx
    have hr : (m.map fun x => x.2.1)[j]? = some x.2.1 := by rw [List.getElem?_map, hj]; rfl
    rw [hm2, List.getElem?_map] at hr
    obtain ⟨b, hb1, hb2⟩ := Option.map_eq_some_iff.1 hr
    have hb3 := hd b (List.mem_of_getElem? hb1)
    refine ⟨by omega, by omega, fun hx1 => ?_⟩
    apply hz
    rcases Nat.lt_or_ge 1 l.length with h1 | h1
    · exact h1
    · exfalso
      have hj2 := (List.getElem?_eq_some_iff.1 hj).1
      obtain rfl : j = 0 := by omega
      have : m = lets ⟨l.toArray⟩ 0 := hm.symm
      rw [this, lets_cons _ 0 (by omega)] at hj
      simp at hj
      rw [← hj] at hx1
      simp at hx1
  rw [numGo_val _ _ _ hdig, valGo_val10 m 0 (by rw [hm2, hval]; exact h), hm2, hval]

/-- The text of a text's number. -/
theorem dec_num (s : ByteArray) (h : (numF s).2.2 = 0) : (numF s).1 ≤ 4294967295 ∧ Lib.decDigits (numF s).1 = s.data.toList := by
  unfold numF at h ⊢
  by_cases h0 : s.size = 0
  · rw [if_pos h0] at h; simp at h
  rw [if_neg h0] at h ⊢
  obtain ⟨h1, h2, h3⟩ := numGo_ok _ _ _ h
  rw [h3]
  have hlow := digs_low _ _ h1
  have hb := lets_bytes s _ 0 rfl (Nat.zero_le _) (fun x hx => by have := (hlow x hx).2.1; omega)
  rw [List.drop_zero] at hb
  rw [← hb] at h2 ⊢
  refine ⟨h2, (dec_val _ _ rfl ?_ ?_ ?_).1⟩
  · intro e
    apply h0
    rw [Lib.size_eq, e]; rfl
  · intro b hbm
    obtain ⟨j, hj⟩ := List.getElem?_of_mem hbm
    have hr : (s.data.toList.map fun b => b.toNat)[j]? = some b.toNat := by rw [List.getElem?_map, hj]; rfl
    rw [hb, List.getElem?_map] at hr
    obtain ⟨x, hx1, hx2⟩ := Option.map_eq_some_iff.1 hr
    have := hlow x (List.mem_of_getElem? hx1)
    omega
  · intro hl
    have hp : 0 < s.size := by omega
    have hc := lets_cons s 0 hp
    have hlen : (lets s 0).length = s.data.toList.length := by
      have := congrArg List.length hb
      simpa using this.symm
    have hzb : zeroB s = false := by
      have h4 : 1 < (lets s 0).length := by omega
      have hx := hlow (lets s 0)[1] (List.getElem_mem h4)
      refine hx.2.2 ?_
      have hr0 := (hlow (lets s 0)[0] (List.getElem_mem (by omega))).2.1
      have hw := dec_le s 0 hp
      have e1 : (lets s 0)[1] = (lets s (0 + (Utf8.decode s 0).2))[0]'(by rw [hc] at h4; simp only [List.length_cons] at h4; omega) := by
        simp only [hc]; rfl
      rw [e1]
      have hp2 : 0 + (Utf8.decode s 0).2 < s.size := by
        rcases Nat.lt_or_ge (0 + (Utf8.decode s 0).2) s.size with h5 | h5
        · exact h5
        · rw [hc, lets_nil s _ (by omega)] at h4; simp at h4
      have hc2 := lets_cons s _ hp2
      simp only [hc2, List.getElem_cons_zero]
      omega
    unfold zeroB at hzb
    have h5 := of_decide_eq_false hzb
    have h6 := get_list s 0 hp
    rw [← h6] at h5
    intro h7
    rw [List.getD_eq_getElem?_getD, List.getElem?_eq_getElem (by omega), Option.getD_some] at h7
    exact h5 h7
end Go.Proofs.YtdohgmbchmcemaaDoor
