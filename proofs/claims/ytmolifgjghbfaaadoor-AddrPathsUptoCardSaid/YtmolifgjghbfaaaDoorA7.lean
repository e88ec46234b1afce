import Derived.Test.YtmolifgjghbfaaaDoorA6
import Derived.Lib.ValidLaws
namespace Go.Proofs.YtmolifgjghbfaaaDoor
open Go.RowKit

/-- A letter cut out by itself is the same letter. -/
theorem decodeN_cut (n b0 b1 b2 b3 c1 c2 c3 r k : Nat) (h : Lib.decodeN n b0 b1 b2 b3 = (r, k)) (h1 : 1 < k → c1 = b1) (h2 : 2 < k → c2 = b2) (h3 : 3 < k → c3 = b3) : Lib.decodeN k b0 c1 c2 c3 = (r, k) := by
  unfold Lib.decodeN at h
  by_cases a0 : b0 < 128
  · rw [if_pos a0] at h
    injection h with hr hk
    subst hr hk
    unfold Lib.decodeN
    rw [if_pos a0]
  rw [if_neg a0] at h
  have bad : (65533, 1) = (r, k) → Lib.decodeN k b0 c1 c2 c3 = (r, k) := by
    intro e
    injection e with hr hk
    subst hr hk
    unfold Lib.decodeN
    rw [if_neg a0, if_neg (by omega), if_neg (by omega), if_neg (by omega)]
  by_cases a1 : b0 / 32 = 6 ∧ 1 < n ∧ b1 / 64 = 2
  · rw [if_pos a1] at h
    split at h
    · rename_i d
      injection h with hr hk
      subst hk
      have e1 := h1 (by omega)
      subst e1
      unfold Lib.decodeN
      rw [if_neg a0, if_pos ⟨a1.1, by omega, a1.2.2⟩, if_pos d, hr]
    · exact bad h
  rw [if_neg a1] at h
  by_cases a2 : b0 / 16 = 14 ∧ (1 < n ∧ b1 / 64 = 2) ∧ (2 < n ∧ b2 / 64 = 2)
  · rw [if_pos a2] at h
    split at h
    · rename_i d
      injection h with hr hk
      subst hk
      have e1 := h1 (by omega)
      have e2 := h2 (by omega)
      subst e1 e2
      unfold Lib.decodeN
      rw [if_neg a0, if_neg (by omega), if_pos ⟨a2.1, ⟨by omega, a2.2.1.2⟩, by omega, a2.2.2.2⟩, if_pos d, hr]
    · exact bad h
  rw [if_neg a2] at h
  by_cases a3 : b0 / 8 = 30 ∧ (1 < n ∧ b1 / 64 = 2) ∧ (2 < n ∧ b2 / 64 = 2) ∧ (3 < n ∧ b3 / 64 = 2)
  · rw [if_pos a3] at h
    split at h
    · rename_i d
      injection h with hr hk
      subst hk
      have e1 := h1 (by omega)
      have e2 := h2 (by omega)
      have e3 := h3 (by omega)
      subst e1 e2 e3
      unfold Lib.decodeN
      rw [if_neg a0, if_neg (by omega), if_neg (by omega), if_pos ⟨a3.1, ⟨by omega, a3.2.1.2⟩, ⟨by omega, a3.2.2.1.2⟩, by omega, a3.2.2.2.2⟩, if_pos d, hr]
    · exact bad h
  rw [if_neg a3] at h
  exact bad h

theorem piece_getD (s : ByteArray) (p k j : Nat) (hj : j < k) (hpk : p + k ≤ s.size) : (piece s p (p + k)).getD j 0 = s.get! (p + j) := by
  rw [piece_range s p k hpk]
  simp [hj]
theorem piece_decode (s : ByteArray) (p r k : Nat) (hp : p < s.size) (hd : Utf8.decode s p = (r, k)) : Lib.decodeL (piece s p (p + k)) = (r, k) := by
  have hw := dec_le s p hp
  rw [hd] at hw
  simp only at hw
  rw [Lib.decodeL_N, piece_length s p (p + k) (by omega) hw.2.2, show p + k - p = k by omega]
  have g0 := piece_getD s p k 0 (by omega) hw.2.2
  rw [Nat.add_zero] at g0
  rw [g0]
  rw [Lib.decode_at] at hd
  refine decodeN_cut _ _ _ _ _ _ _ _ r k hd (fun h => ?_) (fun h => ?_) (fun h => ?_)
  · rw [piece_getD s p k 1 h hw.2.2]
  · rw [piece_getD s p k 2 h hw.2.2]
  · rw [piece_getD s p k 3 h hw.2.2]
theorem piece_valid (s : ByteArray) (p r k : Nat) (hp : p < s.size) (hd : Utf8.decode s p = (r, k)) : Lib.validD (piece s p (p + k)) = !decide (r = 65533 ∧ k = 1) := by
  have hw := dec_le s p hp
  rw [hd] at hw
  simp only at hw
  have hl := piece_length s p (p + k) (by omega) hw.2.2
  have hne : piece s p (p + k) ≠ [] := by
    intro h
    rw [h] at hl
    simp at hl; omega
  rw [Lib.validD_step _ hne, piece_decode s p r k hp hd]
  simp only
  have hdrop : (piece s p (p + k)).drop k = [] := List.drop_eq_nil_of_le (by rw [hl]; omega)
  rw [hdrop, Lib.validD_nil]
  by_cases h : r = 65533 ∧ k = 1
  · rw [if_pos h]; simp [h]
  · rw [if_neg h]
    have : decide (r = 65533 ∧ k = 1) = false := decide_eq_false h
    rw [this]; rfl

/-- The first byte of a letter. -/
theorem lead_byte (s : ByteArray) (p r k : Nat) (hp : p < s.size) (hd : Utf8.decode s p = (r, k)) : (r < 128 → (s.get! p).toNat = r ∧ k = 1) ∧ (128 ≤ r → 128 ≤ (s.get! p).toNat) := by
  constructor
  · intro h
    have := dec_low s p hp (by rw [hd]; exact h)
    rw [hd] at this
    rw [get_lt s p hp]
    exact this
  · intro h
    have := dec_bytes s p hp (by rw [hd]; exact h) 0 (by have := dec_le s p hp; omega)
    simpa using this

set_option maxHeartbeats 400000 in
theorem refPlain (s : ByteArray) (p r k : Nat) (hp : p < s.size) (hd : Utf8.decode s p = (r, k)) (w : World) (hT : Tabs w) :
    Calls Tryd.prog 39 #[lv s (p, r, k)] w fun e w' => e = .returned (.bool (plainR r k)) ∧ Below w.heap.size w w' := by
  have hw := dec_le s p hp
  rw [hd] at hw
  simp only at hw
  have hlead := lead_byte s p r k hp hd
  have hsz : (s.extract p (p + k)).size = k := by rw [ByteArray.size_extract]; omega
  have hc := Tryd.utf8_ValidString (s.extract p (p + k)) w (by omega) hT
  have he : (s.extract p (p + k)).data.toList = piece s p (p + k) := by rw [piece_eq]
  rw [he, piece_valid s p r k hp hd] at hc
  have hg : (s.extract p (p + k)).get! 0 = s.get! p := by
    have h1 := get_list (s.extract p (p + k)) 0 (by omega)
    rw [← h1]
    apply Option.some.inj
    rw [← List.getElem?_eq_getElem, he, piece_range s p k hw.2.2, List.getElem?_map, List.getElem?_range (by omega)]
    simp
  unfold lv
  simp only
  generalize s.extract p (p + k) = t at *
  have hpos : 0 < t.size := by omega
  have ht0 : t[0].toNat = (s.get! p).toNat := by rw [← get_lt t 0 hpos, hg]
  clear hg he hsz hd
  generalize (s.get! p).toNat = b at *
  rw [← ht0] at hlead
  clear ht0 b
  cases hv : (!decide (r = 65533 ∧ k = 1)) with
  | false =>
    rw [hv] at hc
    have hpl : plainR r k = false := by
      simp only [Bool.not_eq_eq_eq_not, Bool.not_false, decide_eq_true_eq] at hv
      obtain ⟨rfl, rfl⟩ := hv
      rfl
    rw [hpl]
    clear hv hlead hpl
    go_enter Tryd.func39, Tryd.ntmps39
    go_wp2_with (go_at_call 48; refine hc.mono ?_; rintro e w' ⟨rfl, hb⟩)
    go_ret
    exact ⟨rfl, hb⟩
  | true =>
    rw [hv] at hc
    have hpl : plainR r k = (decide (32 ≤ t[0].toNat) && !decide (t[0].toNat = 127)) := by
      unfold plainR
      simp only [Bool.not_eq_eq_eq_not, Bool.not_true, decide_eq_false_iff_not] at hv
      rw [Bool.eq_iff_iff]
      by_cases h1 : r = 65533
      · rw [if_pos h1]; simp; omega
      · rw [if_neg h1]; simp; omega
    rw [hpl]
    clear hv hlead hpl
    by_cases h1 : 32 ≤ t[0].toNat
    · by_cases h2 : t[0].toNat = 127
      · have hb : ((t[0].toNat : Int) != 127) = false := by rw [h2]; rfl
        rw [h2]
        clear h2
        go_enter Tryd.func39, Tryd.ntmps39
        go_wp2_with (go_at_call 48; refine hc.mono ?_; rintro e w' ⟨rfl, hb⟩)
        go_ret
        exact ⟨ret_bool (by simp), hb⟩
      · have hb2 : ((t[0].toNat : Int) != 127) = true := by rw [bne_iff_ne]; omega
        have HN := Lib.hid h2
        clear h2
        go_enter Tryd.func39, Tryd.ntmps39
        go_wp2_with (go_at_call 48; refine hc.mono ?_; rintro e w' ⟨rfl, hb⟩)
        go_ret
        exact ⟨ret_bool (by rw [decide_eq_true h1, decide_eq_false HN.out]; rfl), hb⟩
    · go_enter Tryd.func39, Tryd.ntmps39
      go_wp2_with (go_at_call 48; refine hc.mono ?_; rintro e w' ⟨rfl, hb⟩)
      go_ret
      exact ⟨rfl, hb⟩
end Go.Proofs.YtmolifgjghbfaaaDoor
