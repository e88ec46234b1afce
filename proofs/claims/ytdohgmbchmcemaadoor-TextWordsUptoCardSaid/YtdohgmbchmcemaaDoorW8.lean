import Derived.Test.YtdohgmbchmcemaaDoorW7
namespace Go.Proofs.YtdohgmbchmcemaaDoor
open Go.RowKit

theorem own_cells {w : World} {base : Nat} {e : TypeId} {v : Value} {n : Nat} {xs : List Value} (h : w.ownsRow base e 1 v n xs) (hn : 0 < n) : ∃ g cap, v = .slice (some ⟨g, 0, none⟩) n cap ∧ g < w.heap.size ∧ ∀ i, i < n → w.cell? ⟨g, i, none⟩ = xs[i]? := by
  rcases h.2 with ⟨_, h0⟩ | ⟨g, cap, cur, rfl, hb, hgg, rest⟩
  · omega
  · refine ⟨g, cap, rfl, (Array.getElem?_eq_some_iff.1 hgg).1, fun i hi => ?_⟩
    have hl := h.1
    have hx : i < xs.length := by omega
    have := h.cells (g := g) rfl i xs[i] (List.getElem?_eq_getElem hx)
    rw [addr_at] at this
    rw [this, List.getElem?_eq_getElem hx]

/-- Where the letters from a place on stand among all. -/
theorem drop_cons {α : Type} {l t : List α} {x : α} {i : Nat} (h : l.drop i = x :: t) : i < l.length ∧ l[i]? = some x ∧ l.drop (i + 1) = t := by
  have h1 : i < l.length := by
    rcases Nat.lt_or_ge i l.length with h' | h'
    · exact h'
    · rw [List.drop_eq_nil_of_le h'] at h; cases h
  rw [List.drop_eq_getElem_cons h1] at h
  injection h with h2 h3
  exact ⟨h1, by rw [List.getElem?_eq_getElem h1, h2], h3⟩
theorem drop_nil {α : Type} {l : List α} {i : Nat} (h : l.drop i = []) : l.length ≤ i := by
  rcases Nat.lt_or_ge i l.length with h' | h'
  · rw [List.drop_eq_getElem_cons h'] at h; cases h
  · exact h'
theorem letV_at (s : ByteArray) (i : Nat) (x : Nat × Nat × Nat) (h : (lets s 0)[i]? = some x) : (letV s)[i]? = some (lv s x) := by
  unfold letV
  rw [List.getElem?_map, h]; rfl
theorem letV_length (s : ByteArray) : (letV s).length = (lets s 0).length := by simp [letV]

/-- The value of a row of digits. -/
def valGo : List (Nat × Nat × Nat) → Nat → Nat × Nat × Nat
  | [], n => if 4294967295 < n then (0, 0, 6) else (n, 0, 0)
  | (_, r, _) :: t, n => valGo t (min (n * 10 + (r - 48)) 4294967296)
theorem valGo_sat : ∀ l, valGo l 4294967296 = (0, 0, 6)
  | [] => by unfold valGo; rw [if_pos (by omega)]
  | (_, r, _) :: t => by unfold valGo; rw [show min (4294967296 * 10 + (r - 48)) 4294967296 = 4294967296 by omega]; exact valGo_sat t
/-- Digits all the way. -/
def digs (z : Bool) : List (Nat × Nat × Nat) → Bool
  | [] => true
  | (p, r, _) :: t => !decide (r < 48 ∨ 57 < r ∨ (0 < p ∧ z = true)) && digs z t
theorem digs_cons (z : Bool) (p r k : Nat) (t : List (Nat × Nat × Nat)) : digs z ((p, r, k) :: t) = (!decide (r < 48 ∨ 57 < r ∨ (0 < p ∧ z = true)) && digs z t) := rfl
theorem valGo_cons (p r k : Nat) (t : List (Nat × Nat × Nat)) (n : Nat) : valGo ((p, r, k) :: t) n = valGo t (min (n * 10 + (r - 48)) 4294967296) := rfl
theorem numGo_val (z : Bool) : ∀ l n, digs z l = true → numGo z l n = valGo l n
  | [], n, _ => rfl
  | (p, r, k) :: t, n, h => by
    unfold digs at h
    rw [Bool.and_eq_true] at h
    have h1 : ¬ (r < 48 ∨ 57 < r ∨ (0 < p ∧ z = true)) := by
      have := h.1
      rw [Bool.not_eq_true'] at this
      exact of_decide_eq_false this
    unfold numGo valGo
    rw [if_neg h1]
    exact numGo_val z t _ h.2

theorem ext_size (s : ByteArray) (p k : Nat) (h : p + k ≤ s.size) : (s.extract p (p + k)).size = k := by rw [ByteArray.size_extract]; omega
theorem ext_get (s : ByteArray) (p k j : Nat) (h : p + k ≤ s.size) (hj : j < k) : (s.extract p (p + k)).get! j = s.get! (p + j) := by
  have hz := ext_size s p k h
  have h1 := get_list (s.extract p (p + k)) j (by omega)
  rw [← h1]
  apply Option.some.inj
  have he : (s.extract p (p + k)).data.toList = piece s p (p + k) := by rw [piece_eq]
  rw [← List.getElem?_eq_getElem, he, piece_range s p k h, List.getElem?_map, List.getElem?_range hj]
  simp

/-- l[0] == "0" of a text's letters. -/
theorem first_zero (s : ByteArray) (k : Nat) (h : 0 + k ≤ s.size) (hk : 1 ≤ k) (hr : (s.get! 0).toNat < 128 → k = 1) : ((s.extract 0 (0 + k)).toList == [48]) = zeroB s := by
  rw [Bool.eq_iff_iff, beq_iff_eq, Lib.toList_data]
  have he : (s.extract 0 (0 + k)).data.toList = piece s 0 (0 + k) := by rw [piece_eq]
  rw [he, piece_range s 0 k h]
  unfold zeroB
  rw [decide_eq_true_eq]
  constructor
  · intro h1
    have hl := congrArg List.length h1
    simp at hl
    subst hl
    simp [List.range_succ] at h1
    rw [h1]; rfl
  · intro h1
    obtain rfl := hr (by omega)
    simp only [List.range_succ, List.range_zero, List.nil_append, List.map_cons, List.map_nil, Nat.add_zero, List.cons.injEq, and_true]
    exact UInt8.toNat_inj.1 (by rw [h1]; rfl)

set_option maxHeartbeats 1600000 in
set_option maxRecDepth 100000 in
theorem refNumber (s : ByteArray) (w : World) (hT : Tabs w) (hs : s.size ≤ 4398046511104) :
    Calls Tryd.prog 17 #[.string s] w fun e w' => e = .returned (resN (numF s)) ∧ Below w.heap.size w w' := by
  unfold numF
  by_cases h0 : s.size = 0
  · rw [if_pos h0]
    have hL : letV s = [] := by unfold letV; rw [lets_nil s 0 (by omega)]; rfl
    have hc := letters_any s w hT hs
    rw [hL] at hc
    go_enter Tryd.func17, Tryd.ntmps17
    go_wp2_with fail
    refine hc.mono ?_
    rintro e w1 ⟨v, rfl, hown, hb⟩
    obtain ⟨va, vc, rfl⟩ := own_shape hown
    clear hown
    go_wp2
    go_ret3
    exact ⟨rfl, hb⟩
  rw [if_neg h0]
  have hpos : 0 < s.size := by omega
  have hlen : 0 < (lets s 0).length := by rw [lets_cons s 0 hpos]; simp
  have hc := letters_any s w hT hs
  have hb1 := lets_length s s.size 0
  have hlb : (lets s 0).length ≤ 4398046511104 := by
    have : lets s 0 = letsF s s.size 0 := by unfold lets; rw [Nat.sub_zero]
    rw [this]; omega
  rw [letV_length] at hc
  generalize hF : numGo (zeroB s) (lets s 0) 0 = F
  have HF := Lib.hid hF
  generalize hLL : lets s 0 = L at *
  have HL := Lib.hid hLL
  generalize hn : L.length = n at *
  have HN := Lib.hid hn
  clear hF h0 hb1 hLL hn
  go_enter Tryd.func17, Tryd.ntmps17
  go_wp2_with fail
  refine hc.mono ?_
  rintro e w1 ⟨v, rfl, hown, hb⟩
  obtain ⟨g, cap, rfl, hg, hcells⟩ := own_cells hown hlen
  have hcell : ∀ i x, L[i]? = some x → w1.cell? ⟨g, i, none⟩ = some (lv s x) := by
    intro i x hx
    have hi : i < n := by
      have := (List.getElem?_eq_some_iff.1 hx).1
      have := HN.out; omega
    rw [hcells i hi]
    exact letV_at s i x (by rw [HL.out]; exact hx)
  have HC := Lib.hid hcell
  clear hown hc hcells hcell
  have hlz : ((n : Int) == 0) = false := by rw [beq_eq_false_iff_ne]; omega
  go_wp2
  go_loop [6] (fun iv => ∃ i m : Nat, iv = .int .i64 i ∧ L.drop i = lets s i ∧ numGo (zeroB s) (lets s i) m = F ∧ digs (zeroB s) L = digs (zeroB s) (lets s i)) (fun iv => n - (intOf iv).toNat)
  case atStart => exact ⟨0, 0, rfl, by rw [List.drop_zero]; exact HL.out.symm, by rw [HL.out]; exact HF.out, by rw [HL.out]⟩
  case round =>
    obtain ⟨i, m, rfl, hdr, hgo, hdg⟩ := hrel
    by_cases hp : i < s.size
    · obtain ⟨r, k, hd⟩ : ∃ r k, Utf8.decode s i = (r, k) := ⟨_, _, rfl⟩
      have hwd := dec_le s i hp
      have hlead := lead_byte s i r k hp hd
      rw [lets_cons s i hp] at hdr hgo hdg
      rw [hd] at hwd hdr hgo hdg
      simp only at hwd hdr hgo hdg
      obtain ⟨hin, hx, hdr2⟩ := drop_cons hdr
      have hin' : i < n := by have := HN.out; omega
      have hci := HC.out i _ hx
      have hx0 : L[0]? = some (0, (Utf8.decode s 0).1, (Utf8.decode s 0).2) := by rw [← HL.out, lets_cons s 0 hpos]; rfl
      have hc0 := HC.out 0 _ hx0
      have hw0 := dec_le s 0 hpos
      have hz0 := first_zero s (Utf8.decode s 0).2 hw0.2.2 hw0.1 (fun h => by
        have h1 := lead_byte s 0 (Utf8.decode s 0).1 (Utf8.decode s 0).2 hpos rfl
        by_cases h2 : (Utf8.decode s 0).1 < 128
        · exact (h1.1 h2).2
        · have := h1.2 (by omega); omega)
      have hts := ext_size s i k hwd.2.2
      have htg := ext_get s i k 0 hwd.2.2 (by omega)
      unfold lv at hci hc0
      simp only at hci hc0
      generalize s.extract i (i + k) = t at *
      generalize s.extract 0 (0 + (Utf8.decode s 0).2) = u at *
      have htp : 0 < t.size := by omega
      have hb0 : t[0].toNat = (s.get! i).toNat := by rw [← get_lt t 0 htp, htg, Nat.add_zero]
      rw [← hb0] at hlead
      have htk : t.size = k := hts
      clear htg hdr hx hx0 hb0 hts
      unfold numGo at hgo
      rw [digs_cons] at hdg
      have HD2 := Lib.hid hdr2
      have HDG := Lib.hid hdg
      clear hdr2 hdg hd hw0
      by_cases hbad : r < 48 ∨ 57 < r ∨ (0 < i ∧ zeroB s = true)
      · rw [if_pos hbad] at hgo
        have HG := Lib.hid hgo
        clear hgo
        by_cases hk : t.size = 1
        · have hk1 : ((t.size : Int) != 1) = false := by rw [hk]; rfl
          have HK := Lib.hid hk
          have HTK := Lib.hid htk
          clear hk htk
          by_cases h1 : t[0].toNat < 48
          · clear hbad hlead hz0
            go_wp2
            go_ret3
            exact ⟨ret_resN HG.out, hb⟩
          · by_cases h2 : 57 < t[0].toNat
            · clear hbad hlead hz0
              go_wp2
              go_ret3
              exact ⟨ret_resN HG.out, hb⟩
            · have h3 : 0 < i ∧ zeroB s = true := by
                rcases hbad with h | h | h
                · omega
                · omega
                · exact h
              obtain ⟨h4, h5⟩ := h3
              rw [h5] at hz0
              clear hbad hlead h5
              go_wp2
              go_ret3
              exact ⟨ret_resN HG.out, hb⟩
        · have hk1 : ((t.size : Int) != 1) = true := by rw [bne_iff_ne]; omega
          clear hbad hlead hz0 htk hk
          go_wp2
          go_ret3
          exact ⟨ret_resN HG.out, hb⟩
      · rw [if_neg hbad] at hgo
        have HG := Lib.hid hgo
        have hk : t.size = 1 := by omega
        have hk1 : ((t.size : Int) != 1) = false := by rw [hk]; rfl
        have h1 : ¬ t[0].toNat < 48 := by omega
        have h2 : ¬ 57 < t[0].toNat := by omega
        have HK := Lib.hid hk
        have hHDG : digs (zeroB s) L = digs (zeroB s) (lets s (i + k)) := by rw [HDG.out, decide_eq_false hbad]; rfl
        have hik : i + k = i + 1 := by omega
        rw [hik] at HD2 hHDG HG
        have HDG2 := Lib.hid hHDG
        clear hgo hlead hk htk HDG hHDG hik
        by_cases h4 : 0 < i
        · have h5 : zeroB s = false := by
            cases h : zeroB s with
            | false => rfl
            | true => exact absurd (Or.inr (Or.inr ⟨h4, h⟩)) hbad
          rw [h5] at hz0
          clear hbad h5
          go_wp2
          go_round
          case rel =>
            refine ⟨i + 1, _, by go_num, HD2.out, HG.out, ?_⟩
            rw [HDG2.out]
          case measure => simp [intOf]; omega
        · clear hbad hz0
          go_wp2
          go_round
          case rel =>
            refine ⟨i + 1, _, by go_num, HD2.out, HG.out, ?_⟩
            rw [HDG2.out]
          case measure => simp [intOf]; omega
    · rw [lets_nil s i hp] at hdr hdg
      have hni := drop_nil hdr
      have hni' : ¬ i < n := by have := HN.out; omega
      have hval := numGo_val (zeroB s) L 0 hdg
      have hF : valGo L 0 = F := by rw [← hval]; exact HF.out
      have HV := Lib.hid hF
      have HDA : digs (zeroB s) L = true := hdg
      have HD := Lib.hid HDA
      clear hdr hdg hgo hF hval HDA
      go_wp2
      go_loop [7, 8] (fun nv jv => ∃ (j v : Nat), nv = .int .i64 v ∧ v ≤ 4294967295 ∧ jv = .int .i64 j ∧ L.drop j = lets s j ∧ valGo (lets s j) v = F ∧ digs (zeroB s) (lets s j) = true) (fun _ jv => n - (intOf jv).toNat)
      case atStart => exact ⟨0, 0, rfl, by omega, rfl, by rw [List.drop_zero]; exact HL.out.symm, by rw [HL.out]; exact HV.out, by rw [HL.out]; exact HD.out⟩
      case round =>
        obtain ⟨j, v, rfl, hv, rfl, hdr, hgo, hdg⟩ := hrel
        by_cases hq : j < s.size
        · obtain ⟨r, k, hd⟩ : ∃ r k, Utf8.decode s j = (r, k) := ⟨_, _, rfl⟩
          have hwd := dec_le s j hq
          have hlead := lead_byte s j r k hq hd
          rw [lets_cons s j hq] at hdr hgo hdg
          rw [hd] at hwd hdr hgo hdg
          simp only at hwd hdr hgo hdg
          obtain ⟨hin, hx, hdr2⟩ := drop_cons hdr
          have hin' : j < n := by have := HN.out; omega
          have hci := HC.out j _ hx
          have hts := ext_size s j k hwd.2.2
          have htg := ext_get s j k 0 hwd.2.2 (by omega)
          unfold lv at hci
          simp only at hci
          generalize s.extract j (j + k) = t at *
          have htp : 0 < t.size := by omega
          have hb0 : t[0].toNat = (s.get! j).toNat := by rw [← get_lt t 0 htp, htg, Nat.add_zero]
          rw [← hb0] at hlead
          clear htg hdr hx hb0 hts
          rw [digs_cons, Bool.and_eq_true] at hdg
          have hnb : ¬ (r < 48 ∨ 57 < r ∨ (0 < j ∧ zeroB s = true)) := by
            have := hdg.1
            rw [Bool.not_eq_true'] at this
            exact of_decide_eq_false this
          have hdg2 := hdg.2
          rw [valGo_cons] at hgo
          have hjk : j + k = j + 1 := by omega
          have hrt : r = t[0].toNat := by omega
          have ht1 : 48 ≤ t[0].toNat := by omega
          have ht2 : t[0].toNat ≤ 57 := by omega
          subst hrt
          rw [hjk] at hdr2 hgo hdg2
          have HD2 := Lib.hid hdr2
          have HG := Lib.hid hgo
          have HDG := Lib.hid hdg2
          clear hdr2 hgo hdg hdg2 hjk hlead hnb hd
          by_cases hm : 4294967295 < 10 * v + t[0].toNat - 48
          · have hF : F = (0, 0, 6) := by
              rw [← HG.out, show min (v * 10 + (t[0].toNat - 48)) 4294967296 = 4294967296 by omega]
              exact valGo_sat _
            have HR := Lib.hid hF
            clear hF
            go_wp2
            go_ret3
            exact ⟨ret_resN HR.out.symm, hb⟩
          · go_wp2
            go_round
            case rel =>
              refine ⟨j + 1, 10 * v + t[0].toNat - 48, ?_, by omega, by go_num, HD2.out, ?_, HDG.out⟩
              · congr 1; omega
              · have := HG.out
                rw [show min (v * 10 + (t[0].toNat - 48)) 4294967296 = 10 * v + t[0].toNat - 48 by omega] at this
                exact this
            case measure => simp [intOf]; omega
        · rw [lets_nil s j hq] at hdr hgo
          have hnj := drop_nil hdr
          have hnj' : ¬ j < n := by have := HN.out; omega
          unfold valGo at hgo
          rw [if_neg (by omega)] at hgo
          have HG := Lib.hid hgo
          clear hdr hgo hdg
          go_wp2
          go_ret3
          exact ⟨ret_resN HG.out, hb⟩
end Go.Proofs.YtdohgmbchmcemaaDoor
