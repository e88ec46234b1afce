import Derived.Test.YtbhkchdkknainaaG1
import Derived.Test.YtbhkchdkknainaaBack
namespace Go.Proofs.Ytbhkchdkknainaa
open Go.RowKit
theorem ext_drop (l : List UInt8) (i : Nat) : ((⟨l.toArray⟩ : ByteArray).extract i l.length).toList = l.drop i := by
  rw [Lib.extract_toList]
  exact List.take_of_length_le (by rw [List.length_drop]; exact Nat.le_refl _)
theorem cat_crlf (l : List UInt8) : ({ data := l.toArray } ++ { data := #[13, 10] } : ByteArray) = ⟨(l ++ [13, 10]).toArray⟩ := by
  apply ByteArray.ext
  simp
theorem begins_len (l : List UInt8) (h : 2 ≤ l.length) : beginsL l l.length = true ↔ l.drop (l.length - 2) = [13, 10] := by
  have hd : (l.drop (l.length - 2)).length = 2 := by rw [List.length_drop]; omega
  have e0 : (l.drop (l.length - 2)).getD 0 0 = l.getD (l.length - 2) 0 := by rw [drop_getD, Nat.add_zero]
  have e1 : (l.drop (l.length - 2)).getD 1 0 = l.getD (l.length - 2 + 1) 0 := drop_getD _ _ _
  constructor
  · intro hb
    rcases beginsL_of hb with h0 | ⟨_, he⟩
    · omega
    · obtain ⟨a1, a2⟩ := endsL_at he
      match hm : l.drop (l.length - 2), hd with
      | [x, y], _ =>
        rw [hm, a1] at e0
        rw [hm, a2] at e1
        simp at e0 e1
        rw [e0, e1]
  · intro he
    refine beginsL_to (Or.inr ⟨h, ?_⟩)
    rw [he] at e0 e1
    unfold endsL
    rw [← e0, ← e1, decide_eq_true (by omega)]
    rfl
set_option maxHeartbeats 400000 in
set_option maxRecDepth 100000 in
theorem walk_back (v x : Value) (l q : List UInt8) (w : World) (hv : Byt w v l) (hx : Byt w x q) (hl : l.length ≤ 1048576) (hq : q.length ≤ 1048576) (hM : Ml w) : Calls Try.prog 7 #[v, x] w fun e w' => e = .returned (.bool true) ∧ Below w.heap.size w w' := by
  obtain ⟨a, cap, rfl, hcap⟩ := hv.shape
  obtain ⟨a2, cap2, rfl, hcap2⟩ := hx.shape
  have hsl := stuffL_len l
  go_enter Try.func7, Try.ntmps7
  go_wp2_with fail
  refine (stuff_any _ l w hv (by omega) hM).mono ?_
  rintro e w1 ⟨v1, rfl, R1, b1⟩
  have z1 := b1.size
  have m1 := made_below w1 #[] (0, 0)
  have R1' := R1.below m1
  have E1 : Row w.heap.size (w1.alloc (.cells #[] 5)) (.slice (some ⟨w1.heap.size, 0, none⟩) 0 0) [] := Row.made w1 5 [] #[] rfl z1 (by decide)
  have b1' := b1.trans (m1.mono z1)
  obtain ⟨v2, w2, hr2, R2, hg2, _⟩ := app_row _ E1 R1'.1 b1'.size (by simp only [List.length_nil]; omega)
  have hx2 := (hx.below b1').grown hx.lt E1 hg2
  have b2 := below_grow b1' E1 b1'.size hg2
  rw [List.nil_append] at R2
  obtain ⟨v3, w3, hr3, R3, hg3, _⟩ := app_row _ R2 hx2 b2.size (by omega)
  have b3 := below_grow b2 R2 b2.size hg3
  have R2H := Lib.hid hr2
  have R3H := Lib.hid hr3
  clear hr2 hr3 hg2 hg3 R1' m1 hx2
  generalize hwE : w1.alloc (.cells #[] 5) = wE at *
  have HX := Lib.hid hx
  have HV := Lib.hid hv
  have HR1 := Lib.hid R1
  have HR3 := Lib.hid R3
  clear E1 R2 hx hv R1 R3
  go_wp2_with (at_builtin; first | (refine wpList_append_run _ rfl _ _ 31 31 rfl _ _ rfl rfl v2 w2 R2H.out ?_) | (refine wpList_append_run _ rfl _ _ 31 31 rfl _ _ rfl rfl v3 w3 R3H.out ?_))
  have R3 := HR3.out
  have R1 := HR1.out
  obtain ⟨a3, cap3, rfl, hcap3⟩ := R3.1.shape
  have c4 := unst_any a3 cap3 (stuffL l ++ q) w3 R3.1 (by rw [List.length_append]; omega) (hM.below b3 (Nat.le_refl _))
  rw [back_eq] at c4
  simp only at c4
  generalize hF : l ++ (if beginsL l l.length = true then [] else [13, 10]) = F at c4
  have HF := Lib.hid hF
  clear hF
  refine c4.mono ?_
  rintro e w4 ⟨b4', v4, rfl, R4⟩
  have b4 := b3.trans (b4'.mono b3.size)
  obtain ⟨a1, cap1, rfl, hcap1⟩ := R1.1.shape
  have cv4 := conv_later R4
  have hcv := run_byt_string (P := Try.prog) w4 31 9 5 Try.underlying31 Try.underlying5 Try.underlying9 (HV.out.below b4)
  have cv4' := cv4 _ (Below.refl _ _)
  have B4 := Lib.hid b4
  have M4 := Lib.hid (hM.below b4 (Nat.le_refl _))
  have CV := Lib.hid cv4
  clear cv4 b4 b4' R4 R1 R3 c4 b3 b2 b1 HR1 HR3 R2H R3H HX HV hcap1 hcap3 z1 b1'
  by_cases h2 : 2 ≤ l.length
  · have hext := ext_drop l (l.length - 2)
    have hbe := begins_len l h2
    by_cases hE : l.drop (l.length - 2) = [13, 10]
    · have hE2 : (((⟨l.toArray⟩ : ByteArray).extract (l.length - 2) l.length).toList == [13, 10]) = true := by rw [hext, beq_iff_eq]; exact hE
      have hF2 : F = l := by rw [← HF.out, if_pos (hbe.2 hE), List.append_nil]
      subst hF2
      clear hext hbe hE
      go_wp2_with fail
      refine (live_any w4 M4.out).mono ?_
      rintro e w5 ⟨rfl, b5⟩
      have cv5 := CV.out _ b5
      have FIN := Lib.hid (B4.out.trans (b5.mono B4.out.size))
      clear CV M4 B4 b5
      go_wp2
      go_ret
      exact ⟨rfl, FIN.out⟩
    · have hE2 : (((⟨l.toArray⟩ : ByteArray).extract (l.length - 2) l.length).toList == [13, 10]) = false := by rw [hext, beq_eq_false_iff_ne]; exact hE
      have hF2 : F = l ++ [13, 10] := by rw [← HF.out, if_neg (fun h => hE (hbe.1 h))]
      subst hF2
      have hcat : ({ data := l.toArray } ++ { data := #[13, 10] } : ByteArray) = ⟨(l ++ [13, 10]).toArray⟩ := cat_crlf l
      clear hext hbe hE
      go_wp2_with fail
      refine (live_any w4 M4.out).mono ?_
      rintro e w5 ⟨rfl, b5⟩
      have cv5 := CV.out _ b5
      have FIN := Lib.hid (B4.out.trans (b5.mono B4.out.size))
      clear CV M4 B4 b5
      go_wp2
      go_ret
      exact ⟨rfl, FIN.out⟩
  · by_cases h0 : l.length = 0
    · have hl0 : l = [] := List.eq_nil_of_length_eq_zero h0
      subst hl0
      have hF2 : F = [] := by rw [← HF.out]; rfl
      subst hF2
      have hcv0 : (convert 31 9 (.slice a 0 cap)).run Try.prog w4 = .ok (.string ⟨#[]⟩) w4 := hcv
      clear hcv cv4'
      go_wp2_with fail
      refine (live_any w4 M4.out).mono ?_
      rintro e w5 ⟨rfl, b5⟩
      have cv5 : (convert 31 9 v4).run Try.prog w5 = .ok (.string ⟨#[]⟩) w5 := CV.out _ b5
      have FIN := Lib.hid (B4.out.trans (b5.mono B4.out.size))
      clear CV M4 B4 b5
      go_wp2
      go_ret
      exact ⟨rfl, FIN.out⟩
    · have hb1 : ¬ beginsL l l.length = true := fun h => by rcases beginsL_of h with h | ⟨h, _⟩ <;> omega
      have hF2 : F = l ++ [13, 10] := by rw [← HF.out, if_neg hb1]
      subst hF2
      have hcat : ({ data := l.toArray } ++ { data := #[13, 10] } : ByteArray) = ⟨(l ++ [13, 10]).toArray⟩ := cat_crlf l
      clear hb1
      go_wp2_with fail
      refine (live_any w4 M4.out).mono ?_
      rintro e w5 ⟨rfl, b5⟩
      have cv5 := CV.out _ b5
      have FIN := Lib.hid (B4.out.trans (b5.mono B4.out.size))
      clear CV M4 B4 b5
      go_wp2
      go_ret
      exact ⟨rfl, FIN.out⟩
end Go.Proofs.Ytbhkchdkknainaa
