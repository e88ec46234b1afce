import Derived.Test.YtdohgmbchmcemaaDoorL2
namespace Go.Proofs.YtdohgmbchmcemaaDoor
open Go.RowKit

set_option maxHeartbeats 800000 in
theorem lawWords (s : ByteArray) (w : World) (hE : Env w) (hs : s.size < 4294967281) :
    Calls Tryd.prog 11 #[.string s] w fun e w' => e = .returned (.bool true) ∧ Below w.heap.size w w' := by
  have h1 := word_any s w hE hs
  have hcut : ((wordF s).1 ++ [32] ++ (wordF s).2 = s.data.toList) ∨ ((wordF s).1 = s.data.toList ∧ (wordF s).2 = []) := by
    unfold wordF Lib.cut
    rcases Lib.index_spec s.data.toList [32] with ⟨h, _⟩ | ⟨i, h, hi, ho, _⟩
    · rw [h, if_neg (by omega)]
      exact Or.inr ⟨rfl, rfl⟩
    · rw [h, if_pos (by omega)]
      refine Or.inl ?_
      unfold Lib.occAt at ho
      cases hd : s.data.toList.drop i with
      | nil => rw [hd] at ho; simp at ho
      | cons b t =>
        rw [hd] at ho
        simp at ho
        subst ho
        have h2 : s.data.toList.drop (i + 1) = t := by
          rw [← List.drop_drop, hd]; rfl
        simp only [Int.toNat_natCast, List.length_cons, List.length_nil]
        rw [h2, List.append_assoc]
        have := List.take_append_drop i s.data.toList
        rw [hd] at this
        exact this
  have hlen1 : (wordF s).1.length ≤ s.size ∧ (wordF s).2.length ≤ s.size := by
    rcases hcut with h | ⟨h1, h2⟩
    · have := congrArg List.length h
      simp only [List.length_append, List.length_cons, List.length_nil] at this
      rw [Lib.size_eq]; omega
    · rw [h1, h2, Lib.size_eq]; simp
  unfold resW at h1
  go_enter Tryd.func11, Tryd.ntmps11
  go_wp2_with fail
  refine h1.mono ?_
  rintro e w1 ⟨rfl, b1⟩
  have h2 := refWord s w1 (by omega)
  unfold resW at h2
  generalize (wordF s).1 = a at *
  generalize (wordF s).2 = b at *
  clear h1
  go_wp2_with fail
  refine h2.mono ?_
  rintro e w2 ⟨rfl, b2⟩
  have b2 := b1.trans (b2.mono b1.size)
  clear h2
  go_wp2_with fail
  refine (live_any w2 (hE.tabs.below b2 (Nat.le_refl _))).mono ?_
  rintro e w3 ⟨rfl, b3⟩
  have b3 := b2.trans (b3.mono b2.size)
  obtain ⟨hla, hlb⟩ := hlen1
  by_cases hc : a ++ [32] ++ b = s.data.toList
  · have hT : ((⟨a.toArray⟩ : ByteArray) ++ ⟨#[32]⟩ ++ ⟨b.toArray⟩).toList = s.toList := by
      rw [show (⟨#[32]⟩ : ByteArray) = ⟨[32].toArray⟩ from rfl, ByteArray.mk_append_mk, ByteArray.mk_append_mk, hc, Lib.mk_data]
    have hB : (((⟨a.toArray⟩ : ByteArray) ++ ⟨#[32]⟩ ++ ⟨b.toArray⟩).toList == s.toList) = true := by rw [hT]; simp
    clear hcut hc hT
    go_wp2
    go_ret
    exact ⟨ret_bool (by simp), b3⟩
  · obtain ⟨h3, h4⟩ := hcut.resolve_left hc
    subst h4
    have hB : (((⟨a.toArray⟩ : ByteArray) ++ ⟨#[32]⟩ ++ ⟨#[]⟩).toList == s.toList) = false := by
      rw [beq_eq_false_iff_ne]
      intro h
      apply hc
      rw [show (⟨#[32]⟩ : ByteArray) = ⟨[32].toArray⟩ from rfl, show (⟨#[]⟩ : ByteArray) = ⟨([] : List UInt8).toArray⟩ from rfl, ByteArray.mk_append_mk, ByteArray.mk_append_mk, Lib.toList_data, Lib.toList_data] at h
      exact h
    have hB2 : (a == s.toList) = true := by rw [Lib.toList_data, h3]; simp
    clear hcut hc h3
    go_wp2
    go_ret
    exact ⟨ret_bool (by simp), b3⟩

/-- The digits of a number, as letters. -/
theorem digit_lets : ∀ (l : List UInt8) (s : ByteArray) (pos : Nat), s.data.toList.drop pos = l → pos ≤ s.size → (∀ b ∈ l, 48 ≤ b.toNat ∧ b.toNat ≤ 57) →
    ∃ m : List (Nat × Nat × Nat), lets s pos = m ∧ m.map (fun x => x.2.1) = l.map (fun b => b.toNat) ∧ (∀ x ∈ m, pos ≤ x.1) ∧ (m.length = l.length)
  | [], s, pos, h, hp, _ => by
    have hl := congrArg List.length h
    simp only [List.length_drop, List.length_nil] at hl
    rw [← Lib.size_eq] at hl
    exact ⟨[], lets_nil s pos (by omega), rfl, fun x hx => by simp at hx, rfl⟩
  | b :: l, s, pos, h, hp, hb => by
    have hl := congrArg List.length h
    simp only [List.length_drop, List.length_cons] at hl
    rw [← Lib.size_eq] at hl
    have hlt : pos < s.size := by omega
    rw [List.drop_eq_getElem_cons (by rw [← Lib.size_eq]; exact hlt)] at h
    injection h with h1 h2
    rw [get_list s pos hlt, get_lt s pos hlt] at h1
    have hd := dec_ascii s pos hlt (by have := (hb b (by simp)).2; rw [h1]; omega)
    obtain ⟨m, hm, hm2, hm3, hm4⟩ := digit_lets l s (pos + 1) h2 (by omega) (fun c hc => hb c (by simp [hc]))
    refine ⟨(pos, s[pos].toNat, 1) :: m, ?_, ?_, ?_, by simp [hm4]⟩
    · rw [lets_cons s pos hlt, hd]; simp only; rw [hm]
    · simp [hm2, h1]
    · intro x hx
      rcases List.mem_cons.1 hx with e | e
      · subst e; exact Nat.le_refl _
      · have := hm3 x e; omega
theorem dec_bytes10 : ∀ n, ∀ b ∈ Lib.decDigits n, 48 ≤ b.toNat ∧ b.toNat ≤ 57 := by
  intro n
  induction n using Nat.strongRecOn with
  | _ n ih =>
    intro b hb
    rw [Lib.decDigits] at hb
    split at hb
    · rename_i h
      simp only [List.mem_singleton] at hb
      subst hb
      have := dig_byte n h
      omega
    · rename_i h
      rcases List.mem_append.1 hb with h1 | h1
      · exact ih (n / 10) (by omega) b h1
      · simp only [List.mem_singleton] at h1
        subst h1
        have := dig_byte (n % 10) (by omega)
        omega
/-- The value of a row of digits, without a bound. -/
def val10 : List Nat → Nat → Nat
  | [], n => n
  | r :: t, n => val10 t (n * 10 + (r - 48))
theorem val10_append : ∀ (a b : List Nat) (n : Nat), val10 (a ++ b) n = val10 b (val10 a n)
  | [], _, _ => rfl
  | r :: a, b, n => by show val10 (a ++ b) _ = _; rw [val10_append a b]; rfl
theorem val10_dec : ∀ n, val10 ((Lib.decDigits n).map fun b => b.toNat) 0 = n := by
  intro n
  induction n using Nat.strongRecOn with
  | _ n ih =>
    rw [Lib.decDigits]
    split
    · rename_i h
      have := dig_byte n h
      simp only [List.map_cons, List.map_nil, val10]
      omega
    · rename_i h
      rw [List.map_append, val10_append, ih (n / 10) (by omega)]
      have := dig_byte (n % 10) (by omega)
      simp only [List.map_cons, List.map_nil, val10]
      omega
theorem val10_ge : ∀ (l : List Nat) (n : Nat), n ≤ val10 l n
  | [], n => Nat.le_refl _
  | r :: t, n => by
    have := val10_ge t (n * 10 + (r - 48))
    show n ≤ val10 t _
    omega
theorem valGo_val10 : ∀ (m : List (Nat × Nat × Nat)) (n : Nat), val10 (m.map fun x => x.2.1) n ≤ 4294967295 → valGo m n = (val10 (m.map fun x => x.2.1) n, 0, 0)
  | [], n, h => by
    unfold valGo
    rw [if_neg (by simpa [val10] using h)]; rfl
  | (p, r, k) :: t, n, h => by
    have h' : val10 (t.map fun x => x.2.1) (n * 10 + (r - 48)) ≤ 4294967295 := h
    have hg := val10_ge (t.map fun x => x.2.1) (n * 10 + (r - 48))
    rw [valGo_cons, show min (n * 10 + (r - 48)) 4294967296 = n * 10 + (r - 48) by omega]
    exact valGo_val10 t _ h'
end Go.Proofs.YtdohgmbchmcemaaDoor
