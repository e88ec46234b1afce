/- Box: a set's reader goes over a number as the document's one does: plain facts. -/
import Derived.Test.YtpmakbjchepkmaaDoorCP
import Derived.Test.YtpmakbjchepkmaaDoorCS3
namespace Go.Proofs.YtpmakbjchepkmaaDoor
open Go Go.RowKit

theorem lay_lay (r : Rd) (n m : Int) : (r.lay n).lay m = r.lay m := by
  obtain ⟨_, _, _, _, _, sec, _, _⟩ := r
  cases sec <;> rfl
theorem run_next {s : ByteArray} {i : Nat} {r : Rd} (hi : i < s.size) (h : (r.step s i).2 = true) : rdRun s (s.size - i) i r = rdRun s (s.size - (i + 1)) (i + 1) (r.step s i).1 := by
  obtain ⟨f, hf⟩ : ∃ f, s.size - i = f + 1 := ⟨s.size - i - 1, by omega⟩
  rw [hf, rdRun, if_pos h, show s.size - (i + 1) = f by omega]
theorem run_stop {s : ByteArray} {i : Nat} {r : Rd} (hi : i < s.size) (h : (r.step s i).2 = false) : rdRun s (s.size - i) i r = ((r.step s i).1, some i) := by
  obtain ⟨f, hf⟩ : ∃ f, s.size - i = f + 1 := ⟨s.size - i - 1, by omega⟩
  rw [hf, rdRun, if_neg (by rw [h]; decide)]
theorem run_end {s : ByteArray} {i : Nat} {r : Rd} (hi : ¬ i < s.size) : rdRun s (s.size - i) i r = (r, none) := by
  rw [show s.size - i = 0 by omega]
  rfl
theorem get_of {s : ByteArray} {i : Nat} (hi : i < s.size) : s.get! i = s[i]'hi := get_lt s i hi
/-- What one more letter makes of a reader of digits. -/
theorem dig_more {s : ByteArray} {a i n : Nat} {r : Rd} (h : Run s a i n) (hi : i < s.size) (hf : r.from' = a) :
    (¬ isDig (s[i]'hi) → (r.dig s i).2 = false) ∧
    (isDig (s[i]'hi) → (10 * n + ((s[i]'hi).toNat - 48) = 0 ∨ 4294967295 < 10 * n + ((s[i]'hi).toNat - 48)) → (r.dig s i).2 = false) ∧
    (isDig (s[i]'hi) → ¬ (10 * n + ((s[i]'hi).toNat - 48) = 0 ∨ 4294967295 < 10 * n + ((s[i]'hi).toNat - 48)) → r.dig s i = (r.lay ((10 * n + ((s[i]'hi).toNat - 48) : Nat) : Int), true) ∧ Run s a (i + 1) (10 * n + ((s[i]'hi).toNat - 48))) := by
  obtain ⟨h1, h2, h3⟩ := dig_at h hi
  unfold Rd.dig
  rw [hf]
  refine ⟨fun hd => ?_, fun hd hm => ?_, fun hd hm => ?_⟩
  · rw [if_pos (Or.inl (h1 hd))]
  · rw [if_pos (h2 hd hm)]
  · obtain ⟨e, hr⟩ := h3 hd hm
    rw [e]
    refine ⟨?_, hr⟩
    rw [if_neg]
    rintro (h | h)
    · exact h rfl
    · unfold badN at h
      simp only at h
      omega
theorem digit_no_sign {c : UInt8} (h : isDig c) : c.toNat ≠ 44 ∧ c.toNat ≠ 58 ∧ c.toNat ≠ 42 := by
  unfold isDig at h
  omega
theorem btw_digit {r : Rd} {c : UInt8} (h : isDig c) : (r.btw c).2 = false := by
  obtain ⟨h1, h2, _⟩ := digit_no_sign h
  unfold Rd.btw
  rw [if_neg h1, if_neg (fun h => h2 h.1)]
theorem digs_no {c : UInt8} {t : List UInt8} {n i : Nat} (h : ¬ isDig c) : digs (c :: t) n i = ((n : Int), i, true) := by
  unfold digs
  exact if_neg h
theorem digs_bad {c : UInt8} {t : List UInt8} {n i : Nat} (h : isDig c) (hm : 10 * n + (c.toNat - 48) = 0 ∨ 4294967295 < 10 * n + (c.toNat - 48)) : digs (c :: t) n i = (0, i, false) := by
  rw [digs, if_pos (show 48 ≤ c.toNat ∧ c.toNat ≤ 57 from h), if_pos hm]
theorem digs_more {c : UInt8} {t : List UInt8} {n i : Nat} (h : isDig c) (hm : ¬ (10 * n + (c.toNat - 48) = 0 ∨ 4294967295 < 10 * n + (c.toNat - 48))) : digs (c :: t) n i = digs t (10 * n + (c.toNat - 48)) (i + 1) := by
  rw [digs, if_pos (show 48 ≤ c.toNat ∧ c.toNat ≤ 57 from h), if_neg hm]
/-- A reader behind a first digit reads on as the document does. -/
theorem run_digs {s : ByteArray} {a : Nat} {r : Rd} (hf : r.from' = a) (h1 : r.far = 1) : ∀ k i n, s.size - i = k → a < i → Run s a i n →
    ((digs (s.data.toList.drop i) n i).2.2 = true → ∃ m : Nat, (digs (s.data.toList.drop i) n i).1 = (m : Int) ∧ Run s a (digs (s.data.toList.drop i) n i).2.1 m ∧ a < (digs (s.data.toList.drop i) n i).2.1 ∧
      rdRun s (s.size - i) i (r.lay n) = rdRun s (s.size - (digs (s.data.toList.drop i) n i).2.1) (digs (s.data.toList.drop i) n i).2.1 (r.lay m) ∧
      ∀ h : (digs (s.data.toList.drop i) n i).2.1 < s.size, ¬ isDig (s[(digs (s.data.toList.drop i) n i).2.1]'h)) ∧
    ((digs (s.data.toList.drop i) n i).2.2 = false → (digs (s.data.toList.drop i) n i).2.1 < s.size ∧ (rdRun s (s.size - i) i (r.lay n)).2 = some (digs (s.data.toList.drop i) n i).2.1)
  | 0, i, n, hk, hai, hR => by
    rw [drop_no s i (by omega)]
    refine ⟨fun _ => ⟨n, rfl, hR, hai, rfl, fun h => ?_⟩, fun h => by cases h⟩
    have h : i < s.size := h
    omega
  | k + 1, i, n, hk, hai, hR => by
    have hi : i < s.size := by omega
    obtain ⟨d1, d2, d3⟩ := dig_more (r := r.lay n) hR hi hf
    have hfar : (r.lay n).far = 1 := h1
    have hst : (r.lay n).step s i = if ((r.lay n).dig s i).2 = true then (r.lay n).dig s i else (r.lay n).btw (s.get! i) := by
      unfold Rd.step
      rw [hfar, if_neg (by decide), if_pos rfl]
    rw [drop_s s i hi]
    by_cases hd : isDig (s[i]'hi)
    · by_cases hm : 10 * n + ((s[i]'hi).toNat - 48) = 0 ∨ 4294967295 < 10 * n + ((s[i]'hi).toNat - 48)
      · rw [digs_bad hd hm]
        refine ⟨(fun h => by cases h), fun _ => ⟨hi, ?_⟩⟩
        have e := d2 hd hm
        rw [run_stop hi (by rw [hst, e, if_neg (by decide), get_of hi]; exact btw_digit hd)]
      · rw [digs_more hd hm]
        obtain ⟨e, hR2⟩ := d3 hd hm
        have ih := run_digs hf h1 k (i + 1) _ (by omega) (by omega) hR2
        have hn : rdRun s (s.size - i) i (r.lay n) = rdRun s (s.size - (i + 1)) (i + 1) (r.lay ((10 * n + ((s[i]'hi).toNat - 48) : Nat) : Int)) := by
          rw [run_next hi (by rw [hst, e]; rfl), hst, e, if_pos rfl, lay_lay]
        rw [hn]
        exact ih
    · rw [digs_no hd]
      refine ⟨fun _ => ⟨n, rfl, hR, hai, rfl, fun _ => hd⟩, fun h => by cases h⟩
end Go.Proofs.YtpmakbjchepkmaaDoor
