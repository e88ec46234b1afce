import Derived.Test.YtdohgmbchmcemaaDoorL3
namespace Go.Proofs.YtdohgmbchmcemaaDoor
open Go.RowKit

theorem numGo_sat (z : Bool) : ∀ l, (numGo z l 4294967296).2.2 ≠ 0
  | [] => by unfold numGo; rw [if_pos (by omega)]; simp
  | (p, r, _) :: t => by
    unfold numGo
    split
    · simp
    · rw [show min (4294967296 * 10 + (r - 48)) 4294967296 = 4294967296 by omega]; exact numGo_sat z t
theorem numGo_ok (z : Bool) : ∀ (l : List (Nat × Nat × Nat)) (n : Nat), (numGo z l n).2.2 = 0 → digs z l = true ∧ val10 (l.map fun x => x.2.1) n ≤ 4294967295 ∧ numGo z l n = (val10 (l.map fun x => x.2.1) n, 0, 0)
  | [], n, h => by
    unfold numGo at h ⊢
    by_cases hn : 4294967295 < n
    · rw [if_pos hn] at h; simp at h
    · rw [if_neg hn]
      refine ⟨rfl, ?_, rfl⟩
      simp only [List.map_nil, val10]; omega
  | (p, r, k) :: t, n, h => by
    unfold numGo at h ⊢
    by_cases hb : r < 48 ∨ 57 < r ∨ (0 < p ∧ z = true)
    · rw [if_pos hb] at h; simp at h
    · rw [if_neg hb] at h ⊢
      by_cases hbig : 4294967296 ≤ n * 10 + (r - 48)
      · rw [show min (n * 10 + (r - 48)) 4294967296 = 4294967296 by omega] at h
        exact absurd h (numGo_sat z t)
      · rw [show min (n * 10 + (r - 48)) 4294967296 = n * 10 + (r - 48) by omega] at h ⊢
        obtain ⟨h1, h2, h3⟩ := numGo_ok z t _ h
        refine ⟨?_, h2, h3⟩
        rw [digs_cons, decide_eq_false hb, h1]; rfl

/-- A text of digits has just its letters' bytes. -/
theorem lets_bytes (s : ByteArray) : ∀ n pos, s.size - pos = n → pos ≤ s.size → (∀ x ∈ lets s pos, x.2.1 < 128) → (s.data.toList.drop pos).map (fun b => b.toNat) = (lets s pos).map fun x => x.2.1 := by
  intro n
  induction n using Nat.strongRecOn with
  | _ n ih =>
    intro pos hn hle hall
    by_cases hp : pos < s.size
    · obtain ⟨r, k, hd⟩ : ∃ r k, Utf8.decode s pos = (r, k) := ⟨_, _, rfl⟩
      have hl := lead_byte s pos r k hp hd
      rw [lets_cons s pos hp, hd] at hall ⊢
      simp only at hall ⊢
      have hr := hall _ (List.mem_cons_self ..)
      simp only at hr
      obtain ⟨h1, h2⟩ := hl.1 hr
      subst h2
      rw [List.drop_eq_getElem_cons (by rw [← Lib.size_eq]; exact hp), get_list s pos hp, List.map_cons, List.map_cons, ih (s.size - (pos + 1)) (by omega) (pos + 1) rfl (by omega) (fun x hx => hall x (List.mem_cons_of_mem _ hx)), h1]
    · rw [lets_nil s pos hp, List.drop_eq_nil_of_le (by rw [← Lib.size_eq]; omega)]
      rfl
theorem digs_low (z : Bool) : ∀ l, digs z l = true → ∀ x ∈ l, 48 ≤ x.2.1 ∧ x.2.1 ≤ 57 ∧ (0 < x.1 → z = false)
  | [], _, x, hx => by simp at hx
  | (p, r, k) :: t, h, x, hx => by
    rw [digs_cons, Bool.and_eq_true] at h
    have h1 : ¬ (r < 48 ∨ 57 < r ∨ (0 < p ∧ z = true)) := by
      have := h.1
      rw [Bool.not_eq_true'] at this
      exact of_decide_eq_false this
    rcases List.mem_cons.1 hx with e | e
    · subst e
      refine ⟨by simp only; omega, by simp only; omega, fun hp => ?_⟩
      cases z with
      | false => rfl
      | true => exact absurd (Or.inr (Or.inr ⟨hp, rfl⟩)) h1
    · exact digs_low z t h.2 x e
theorem digs_of (z : Bool) : ∀ l : List (Nat × Nat × Nat), (∀ x ∈ l, 48 ≤ x.2.1 ∧ x.2.1 ≤ 57 ∧ (0 < x.1 → z = false)) → digs z l = true
  | [], _ => rfl
  | (p, r, k) :: t, h => by
    have h1 := h (p, r, k) (List.mem_cons_self ..)
    simp only at h1
    rw [digs_cons, decide_eq_false (by
      rintro (a | a | ⟨a, b⟩)
      · omega
      · omega
      · rw [h1.2.2 a] at b; cases b), digs_of z t (fun x hx => h x (List.mem_cons_of_mem _ hx))]
    rfl

/-- The text of the value of digits without a 0 ahead is the digits. -/
theorem dec_val : ∀ (n : Nat) (l : List UInt8), l.length = n → l ≠ [] → (∀ b ∈ l, 48 ≤ b.toNat ∧ b.toNat ≤ 57) → (1 < l.length → (l.getD 0 0).toNat ≠ 48) →
    Lib.decDigits (val10 (l.map fun b => b.toNat) 0) = l ∧ ((l.getD 0 0).toNat ≠ 48 → 1 ≤ val10 (l.map fun b => b.toNat) 0) := by
  intro n
  induction n with
  | zero => intro l hl hne; exact absurd (List.eq_nil_of_length_eq_zero hl) hne
  | succ n ih =>
    intro l hl hne hd hz
    obtain ⟨a, d, rfl⟩ : ∃ a d, l = a ++ [d] := ⟨l.dropLast, l.getLast hne, (List.dropLast_concat_getLast hne).symm⟩
    have hdd := hd d (by simp)
    rw [List.map_append, val10_append]
    simp only [List.map_cons, List.map_nil, val10]
    have hdb : UInt8.ofNat (48 + (d.toNat - 48)) = d := by
      apply UInt8.toNat_inj.1
      have := dig_byte (d.toNat - 48) (by omega)
      omega
    by_cases ha : a = []
    · subst ha
      simp only [List.map_nil, val10, List.nil_append]
      refine ⟨?_, ?_⟩
      · rw [show 0 * 10 + (d.toNat - 48) = d.toNat - 48 by omega, dec_small _ (by omega), hdb]
      · intro h
        simp only [List.getD_cons_zero] at h
        omega
    · have hla : a.length = n := by simpa using hl
      have hap : 0 < a.length := List.length_pos_iff.2 ha
      have hg : (a ++ [d]).getD 0 0 = a.getD 0 0 := by
        cases a with
        | nil => exact absurd rfl ha
        | cons x y => rfl
      rw [hg] at hz ⊢
      have h48 := hz (by simp; omega)
      obtain ⟨i1, i2⟩ := ih a hla ha (fun b hb => hd b (by simp [hb])) (fun _ => h48)
      have hv := i2 h48
      generalize val10 (a.map fun b => b.toNat) 0 = v at *
      refine ⟨?_, fun _ => by omega⟩
      rw [dec_big _ (by omega), show (v * 10 + (d.toNat - 48)) / 10 = v by omega, show (v * 10 + (d.toNat - 48)) % 10 = d.toNat - 48 by omega, i1, hdb]
theorem dec_first : ∀ n, 1 ≤ n → ((Lib.decDigits n).getD 0 0).toNat ≠ 48 := by
  intro n
  induction n using Nat.strongRecOn with
  | _ n ih =>
    intro hn
    by_cases h : n < 10
    · rw [dec_small n h]
      have := dig_byte n h
      simp only [List.getD_cons_zero]
      omega
    · rw [dec_big n h]
      have h1 := ih (n / 10) (by omega) (by omega)
      cases hd : Lib.decDigits (n / 10) with
      | nil => have h2 := Lib.decDigits_length (n / 10); have h3 := Lib.nDigits_pos (n / 10); rw [hd] at h2; simp at h2; omega
      | cons x y => rw [hd] at h1; exact h1
end Go.Proofs.YtdohgmbchmcemaaDoor
