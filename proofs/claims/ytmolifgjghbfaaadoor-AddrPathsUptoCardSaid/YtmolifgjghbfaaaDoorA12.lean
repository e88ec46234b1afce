import Derived.Test.YtmolifgjghbfaaaDoorA8
namespace Go.Proofs.YtmolifgjghbfaaaDoor
open Go.RowKit

theorem letter_eq (s : ByteArray) (p r k c : Nat) (hp : p < s.size) (hd : Utf8.decode s p = (r, k)) (hc : c < 128) : ((s.extract p (p + k)).toList == [UInt8.ofNat c]) = decide (r = c) := by
  have hw := dec_le s p hp
  rw [hd] at hw
  simp only at hw
  have hl := lead_byte s p r k hp hd
  rw [Bool.eq_iff_iff, beq_iff_eq, decide_eq_true_eq, Lib.toList_data]
  have he : (s.extract p (p + k)).data.toList = piece s p (p + k) := by rw [piece_eq]
  rw [he, piece_range s p k hw.2.2]
  have hcc : (UInt8.ofNat c).toNat = c := by simp; omega
  constructor
  · intro h1
    have h2 := congrArg List.length h1
    simp at h2
    subst h2
    have h3 : s.get! p = UInt8.ofNat c := by
      have := congrArg (·[0]?) h1
      simpa [List.range_succ] using this
    by_cases h : r < 128
    · have := (hl.1 h).1
      rw [h3, hcc] at this
      exact this.symm
    · have := hl.2 (by omega)
      rw [h3, hcc] at this
      omega
  · intro h1
    subst h1
    obtain ⟨h2, rfl⟩ := hl.1 hc
    simp only [List.range_succ, List.range_zero, List.nil_append, List.map_cons, List.map_nil, Nat.add_zero, List.cons.injEq, and_true]
    exact UInt8.toNat_inj.1 (by rw [h2, hcc])

theorem letter_enc (s : ByteArray) (p r k : Nat) (hp : p < s.size) (hd : Utf8.decode s p = (r, k)) (h : r = 65533 → 1 < k) : (s.extract p (p + k)).data.toList = Lib.encodeRune (r : Int) := by
  have := dec_enc s p hp (by rw [hd]; simp only; omega)
  rw [hd] at this
  simp only at this
  rw [this, piece_eq]
theorem plain_width {r k : Nat} (h : plainR r k = true) : r = 65533 → 1 < k := by
  intro hr
  subst hr
  unfold plainR at h
  simpa using h
theorem app_str (a : List UInt8) (t : ByteArray) : (⟨a.toArray⟩ : ByteArray) ++ t = ⟨(a ++ t.data.toList).toArray⟩ := by
  conv => lhs; rw [← Lib.mk_data t]
  rw [ByteArray.mk_append_mk]

set_option maxHeartbeats 1600000 in
set_option maxRecDepth 100000 in
theorem refQuote (s : ByteArray) (w : World) (hT : Tabs w) :
    Calls Tryd.prog 28 #[.string s] w fun e w' => e = .returned (res3 (quoteF s)) ∧ Below w.heap.size w w' := by
  unfold quoteF
  by_cases hlen : 1024 < s.size
  · rw [if_pos hlen]
    go_enter Tryd.func28, Tryd.ntmps28
    go_wp2
    go_ret3
    exact ⟨rfl, Below.refl _ _⟩
  rw [if_neg hlen]
  have hc := letters_any s w hT (by omega)
  rw [letV_length] at hc
  generalize hF : quoteGo (lets s 0) [34] 0 = F
  have HF := Lib.hid hF
  generalize hLL : lets s 0 = L at *
  have HL := Lib.hid hLL
  generalize hn : L.length = n at *
  have HN := Lib.hid hn
  have hnl : n ≤ 1024 := by
    have h1 := lets_length s s.size 0
    have h2 : lets s 0 = letsF s s.size 0 := by unfold lets; rw [Nat.sub_zero]
    rw [← h2, hLL, hn] at h1; omega
  clear hF hLL hn
  go_enter Tryd.func28, Tryd.ntmps28
  go_wp2_with fail
  refine hc.mono ?_
  rintro e w1 ⟨v, rfl, hown, hb⟩
  obtain ⟨va, cap, rfl⟩ := own_shape hown
  have HOWN := Lib.hid hown
  clear hown hc
  go_wp2
  go_loopw [6, 7] (fun ov iv wr => ∃ (i pos : Nat) (acc : List UInt8), iv = .int .i64 i ∧ i ≤ pos ∧ pos ≤ s.size ∧ ov = .string ⟨acc.toArray⟩ ∧ acc.length ≤ 1 + 5 * pos ∧ L.drop i = lets s pos ∧ quoteGo (lets s pos) acc i = F ∧ Below w1.heap.size w1 wr) (fun _ iv _ => n - (intOf iv).toNat)
  case atStart => exact ⟨0, 0, [34], rfl, Nat.le_refl _, Nat.zero_le _, rfl, by simp, by rw [List.drop_zero]; exact HL.out.symm, by rw [HL.out]; exact HF.out, Below.refl _ _⟩
  case round =>
    obtain ⟨i, pos, acc, rfl, hip, hple, rfl, hal, hdr, hgo, hbi⟩ := hrel
    by_cases hp : pos < s.size
    · obtain ⟨r, k, hd⟩ : ∃ r k, Utf8.decode s pos = (r, k) := ⟨_, _, rfl⟩
      have hwd := dec_le s pos hp
      rw [lets_cons s pos hp] at hdr hgo
      rw [hd] at hwd hdr hgo
      simp only at hwd hdr hgo
      obtain ⟨hin, hx, hdr2⟩ := drop_cons hdr
      have hin' : i < n := by have := HN.out; omega
      obtain ⟨g, cap', hv, hg, hcells⟩ := own_cells HOWN.out (by omega)
      injection hv with hva hvn hvc
      subst hva hvc
      have hci0 : w1.cell? ⟨g, i, none⟩ = some (lv s (pos, r, k)) := by
        rw [hcells i hin']
        exact letV_at s i _ (by rw [HL.out]; exact hx)
      have hci := (hbi.cell (p := ⟨g, i, none⟩) hg).trans hci0
      have hpl := refPlain s pos r k hp hd wr (hT.below (hb.trans (hbi.mono hb.size)) (Nat.le_refl _))
      have e34 := letter_eq s pos r k 34 hp hd (by omega)
      have e92 := letter_eq s pos r k 92 hp hd (by omega)
      have hts := ext_size s pos k hwd.2.2
      have henc := letter_enc s pos r k hp hd
      unfold lv at hci hpl
      simp only at hci hpl
      generalize s.extract pos (pos + k) = t at *
      have HD2 := Lib.hid hdr2
      have hz := hbi.size
      clear hdr hx hdr2 hcells hci0 hd hin hvn
      unfold quoteGo at hgo
      cases hq : plainR r k with
      | false =>
        rw [hq] at hpl hgo
        have HG := Lib.hid hgo
        clear hgo hq henc e34 e92
        go_wp2_with (go_at_call 39; refine hpl.mono ?_; rintro e w2 ⟨rfl, hb3⟩)
        go_ret3
        exact ⟨ret_res3 (by have := HG.out; simpa using this), (hb.trans (hbi.mono hb.size)).trans (hb3.mono (by have := hb.size; omega))⟩
      | true =>
        have hE := henc (plain_width hq)
        rw [hq] at hpl hgo
        rw [if_pos rfl] at hgo
        have HG := Lib.hid hgo
        have HE := Lib.hid hE
        clear hgo hq henc hE
        have e34' : (t.toList == [34]) = decide (r = 34) := e34
        have e92' : (t.toList == [92]) = decide (r = 92) := e92
        have htl : t.data.toList.length = t.size := (Lib.size_eq t).symm
        clear e34 e92
        go_wp2_with fail
        refine hpl.mono ?_
        rintro e w2 ⟨rfl, hb3⟩
        have hci2 := (hb3.cell (p := ⟨g, i, none⟩) (by simp; omega)).trans hci
        have hb4 := hbi.trans (hb3.mono hz)
        have HT := Lib.hid htl
        clear hci hbi hb3 hpl htl
        by_cases h34 : r = 34
        · have g34 : (t.toList == [34]) = true := by rw [e34']; exact decide_eq_true h34
          have H3 := Lib.hid h34
          clear e34' e92' h34
          go_wp2
          go_roundw
          case rel =>
            refine ⟨i + 1, pos + k, acc ++ [92] ++ t.data.toList, by go_num, by omega, hwd.2.2, ?_, ?_, HD2.out, ?_, hb4⟩
            · first | rfl | simp only [app_str, ByteArray.mk_append_mk]
            · simp only [List.length_append, List.length_cons, List.length_nil, ← Lib.size_eq]; omega
            · have := HG.out
              rw [HE.out]
              simpa [H3.out] using this
          case measure => simp [intOf]; omega
        · have g34 : (t.toList == [34]) = false := by rw [e34']; exact decide_eq_false h34
          have H3 := Lib.hid h34
          by_cases h92 : r = 92
          · have g92 : (t.toList == [92]) = true := by rw [e92']; exact decide_eq_true h92
            have H9 := Lib.hid h92
            clear e34' e92' h34 h92
            go_wp2
            go_roundw
            case rel =>
              refine ⟨i + 1, pos + k, acc ++ [92] ++ t.data.toList, by go_num, by omega, hwd.2.2, ?_, ?_, HD2.out, ?_, hb4⟩
              · first | rfl | simp only [app_str, ByteArray.mk_append_mk]
              · simp only [List.length_append, List.length_cons, List.length_nil, ← Lib.size_eq]; omega
              · have := HG.out
                rw [HE.out]
                simpa [H9.out] using this
            case measure => simp [intOf]; omega
          · have g92 : (t.toList == [92]) = false := by rw [e92']; exact decide_eq_false h92
            have H9 := Lib.hid h92
            clear e34' e92' h34 h92
            go_wp2
            go_roundw
            case rel =>
              refine ⟨i + 1, pos + k, acc ++ t.data.toList, by go_num, by omega, hwd.2.2, ?_, ?_, HD2.out, ?_, hb4⟩
              · first | rfl | simp only [app_str, ByteArray.mk_append_mk]
              · simp only [List.length_append, ← Lib.size_eq]; omega
              · have := HG.out
                rw [HE.out]
                simpa [H3.out, H9.out] using this
            case measure => simp [intOf]; omega
    · rw [lets_nil s pos hp] at hdr hgo
      have hni := drop_nil hdr
      have hni' : ¬ i < n := by have := HN.out; omega
      have hF : (acc ++ [34], 0, 0) = F := hgo
      have HG := Lib.hid hF
      clear hdr hgo hF
      go_wp2
      go_ret3
      refine ⟨?_, hb.trans (hbi.mono hb.size)⟩
      rw [← HG.out]
      first | rfl | (unfold res3; simp only [app_str, ByteArray.mk_append_mk])
end Go.Proofs.YtmolifgjghbfaaaDoor
