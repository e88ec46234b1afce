import Derived.Test.YtdohgmbchmcemaaDoorW9
import Derived.Test.YtdohgmbchmcemaaDoorW7
import Derived.Deep.QuietTactic
import Derived.BigQuiet
import Derived.WalkSmall
namespace Go.Proofs.YtdohgmbchmcemaaDoor
open Go.RowKit

def badL : List Nat := [40, 41, 123, 37, 42, 34, 92, 93]
theorem bad_at : ∀ k (h : k < 8), ((⟨#[40, 41, 123, 37, 42, 34, 92, 93]⟩ : ByteArray)[k]'h).toNat = badL.getD k 0 ∧ badL.getD k 0 ≠ 125 ∧ badL.getD k 0 ∈ badL := by decide
theorem atomR_split (r : Nat) : atomR r = (decide (33 ≤ r) && (decide (r ≤ 126) && !decide (r ∈ badL))) := rfl

/-- Which texts are atoms, byte by byte. -/
theorem atomGo_bytes (s : ByteArray) : ∀ n pos, s.size - pos = n → pos ≤ s.size → atomGo (lets s pos) = (s.data.toList.drop pos).all fun b => atomR b.toNat := by
  intro n
  induction n using Nat.strongRecOn with
  | _ n ih =>
    intro pos hn hle
    by_cases hp : pos < s.size
    · obtain ⟨r, k, hd⟩ : ∃ r k, Utf8.decode s pos = (r, k) := ⟨_, _, rfl⟩
      have hw := dec_le s pos hp
      have hl := lead_byte s pos r k hp hd
      rw [lets_cons s pos hp, hd]
      rw [hd] at hw
      simp only at hw ⊢
      have hdr : s.data.toList.drop pos = s.get! pos :: s.data.toList.drop (pos + 1) := by
        rw [List.drop_eq_getElem_cons (by rw [← Lib.size_eq]; exact hp), get_list s pos hp]
      rw [hdr, List.all_cons]
      unfold atomGo
      by_cases h : r < 128
      · obtain ⟨h1, h2⟩ := hl.1 h
        rw [h1, h2, ih (s.size - (pos + 1)) (by omega) (pos + 1) rfl (by omega)]
      · have h1 := hl.2 (by omega)
        have e1 : atomR r = false := by unfold atomR; simp; omega
        have e2 : atomR (s.get! pos).toNat = false := by unfold atomR; simp; omega
        rw [e1, e2]; rfl
    · rw [lets_nil s pos hp, List.drop_eq_nil_of_le (by rw [← Lib.size_eq]; omega)]
      rfl

theorem all_at (s : ByteArray) (i : Nat) (h : i < s.size) (f : UInt8 → Bool) : (s.data.toList.drop i).all f = (f s[i] && (s.data.toList.drop (i + 1)).all f) := by
  rw [List.drop_eq_getElem_cons (by rw [← Lib.size_eq]; exact h), List.all_cons]
  rfl

set_option maxHeartbeats 2000000 in
set_option maxRecDepth 100000 in
theorem refAtom (s : ByteArray) (w : World) (hs : s.size ≤ 9223372036854775807) :
    Calls Tryd.prog 21 #[.string s] w fun e w' => e = .returned (.bool (atomF s)) ∧ Below w.heap.size w w' := by
  unfold atomF
  rw [atomGo_bytes s _ 0 rfl (Nat.zero_le _), List.drop_zero]
  generalize hF : (s.data.toList.all fun b => atomR b.toNat) = F
  have HF := Lib.hid hF
  clear hF
  go_enter Tryd.func21, Tryd.ntmps21
  go_wp2
  go_loopw [3, 4] (fun iv _k wr => ∃ i : Nat, i ≤ s.size ∧ iv = .int .i64 i ∧ ((s.data.toList.drop i).all fun b => atomR b.toNat) = F ∧ Below w.heap.size w wr) (fun iv _ _ => s.size - (intOf iv).toNat)
  case atStart => exact ⟨0, Nat.zero_le _, rfl, by rw [List.drop_zero]; exact HF.out, Below.refl _ _⟩
  case round =>
    obtain ⟨i, hi, rfl, hall, hb⟩ := hrel
    obtain ⟨wo, rfl⟩ : ∃ wo : World, wo = wr := ⟨_, rfl⟩
    by_cases hlt : i < s.size
    · rw [all_at s i hlt, atomR_split] at hall
      by_cases h1 : 33 ≤ s[i].toNat
      · by_cases h2 : s[i].toNat ≤ 126
        · rw [decide_eq_true h1, decide_eq_true h2, Bool.true_and, Bool.true_and] at hall
          have HA := Lib.hid hall
          clear hall
          go_wp2
          go_loopw [4] (fun kv wi => ∃ k : Nat, k ≤ 8 ∧ kv = .int .i64 k ∧ (∀ j, j < k → s[i].toNat ≠ badL.getD j 0) ∧ Below w.heap.size w wi) (fun kv _ => 8 - (intOf kv).toNat)
          case atStart => exact ⟨0, by omega, rfl, fun j hj => by omega, hb⟩
          case round =>
            obtain ⟨k, hk, rfl, hno, hbi⟩ := hrel
            have hno2 := Lib.hid hno
            clear hno
            by_cases hk8 : k < 8
            · obtain ⟨hbk, hb125, hbm⟩ := bad_at k hk8
              by_cases hbd : s[i].toNat = badL.getD k 0
              · have g1 : ((s[i].toNat : Int) == (((⟨#[40, 41, 123, 37, 42, 34, 92, 93]⟩ : ByteArray)[k]'hk8).toNat : Int)) = true := by rw [hbk, beq_iff_eq]; omega
                have g2 : ((s[i].toNat : Int) != 125) = true := by rw [bne_iff_ne]; omega
                have HB := Lib.hid hbd
                have HM := Lib.hid hbm
                clear hbd hbm hbk hb125
                have hki : (k : Int) < 8 := by omega
                go_wp2
                go_quiet (fail)
                go_wp2
                go_ret
                exact ⟨ret_bool (by rw [← HA.out, HB.out, decide_eq_true HM.out]; rfl), below_drewN hbi _⟩
              · have g1 : ((s[i].toNat : Int) == (((⟨#[40, 41, 123, 37, 42, 34, 92, 93]⟩ : ByteArray)[k]'hk8).toNat : Int)) = false := by rw [hbk, beq_eq_false_iff_ne]; omega
                have HB := Lib.hid hbd
                clear hbd hbm hbk hb125
                have hki : (k : Int) < 8 := by omega
                go_wp2
                go_quiet (fail)
                go_wp2
                go_roundw
                case rel =>
                  refine ⟨k + 1, by omega, by go_num, fun j hj => ?_, below_drewN hbi _⟩
                  rcases (by omega : j < k ∨ j = k) with h | h
                  · exact hno2.out j h
                  · subst h; exact HB.out
                case measure => simp [intOf]; omega
            · obtain rfl : k = 8 := by omega
              have hnot : ¬ s[i].toNat ∈ badL := by
                intro h
                simp only [badL, List.mem_cons, List.mem_nil_iff, or_false] at h
                have q := hno2.out
                rcases h with h | h | h | h | h | h | h | h
                · exact q 0 (by omega) h
                · exact q 1 (by omega) h
                · exact q 2 (by omega) h
                · exact q 3 (by omega) h
                · exact q 4 (by omega) h
                · exact q 5 (by omega) h
                · exact q 6 (by omega) h
                · exact q 7 (by omega) h
              have HN := Lib.hid hnot
              clear hnot
              go_wp2
              go_roundw
              case rel =>
                refine ⟨i + 1, by omega, by go_num, ?_, hbi⟩
                have := HA.out
                rw [decide_eq_false HN.out] at this
                exact this
              case measure => simp [intOf]; omega
        · rw [decide_eq_false h2] at hall
          have HA := Lib.hid hall
          clear hall
          go_wp2
          go_ret
          exact ⟨ret_bool (by rw [← HA.out]; simp), hb⟩
      · rw [decide_eq_false h1] at hall
        have HA := Lib.hid hall
        clear hall
        go_wp2
        go_ret
        exact ⟨ret_bool (by rw [← HA.out]; simp), hb⟩
    · have he : s.data.toList.drop i = [] := List.drop_eq_nil_of_le (by rw [← Lib.size_eq]; omega)
      rw [he] at hall
      have HA := Lib.hid hall
      clear hall he
      by_cases h0 : s.size = 0
      · go_wp2
        go_ret
        exact ⟨ret_bool (by simp [h0]), hb⟩
      · have hp : 0 < s.size := by omega
        go_wp2
        go_ret
        exact ⟨ret_bool (by rw [← HA.out]; simp [h0]), hb⟩
end Go.Proofs.YtdohgmbchmcemaaDoor
