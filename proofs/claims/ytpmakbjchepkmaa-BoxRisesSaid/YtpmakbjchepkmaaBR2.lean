/- Box: BoxRises, walked. -/
import Derived.Test.YtpmakbjchepkmaaBR1
namespace Go.Proofs.Ytpmakbjchepkmaa
open Go Go.RowKit

theorem one_byte (w : World) (b : UInt8) : Byz (w.alloc (.cells #[.int .u8 (b.toNat : Int)] 5)) (.slice (some ⟨w.heap.size, 0, none⟩) 1 1) [b] := by
  refine Byt.z ⟨some ⟨w.heap.size, 0, none⟩, 1, rfl, Nat.le_refl _, (fun h => by cases h), fun ad had => ?_⟩
  injection had with had
  subst had
  refine ⟨w.heap.size, 0, rfl, by simp, fun j hj => ?_⟩
  rw [Nat.zero_add, cell_of_row _ _ _ _ _ _ (heap_alloc_last w _)]
  match j, hj with
  | 0, _ => rfl
set_option maxHeartbeats 8000000 in
set_option maxRecDepth 100000 in
theorem walk_rises_bad (name : ByteArray) (valid next : Int) (sv lv : Value) (ps : List LV) (w : World) (h : BoxIn w name valid next sv ps) (hlv : ∃ a n c, lv = .slice a n c) (hM : Ml w) (hE : chk valid next (ps.map (·.1)) ≠ 0) :
    Calls Try.prog 6 #[boxV name valid next sv, lv] w fun e w' => e = .returned (.bool true) ∧ Below w.heap.size w w' := by
  have hb0 : Below w.heap.size w (w.alloc (.cells #[.string name, .int .i64 valid, .int .i64 next, sv] 24)) := (Below.refl _ w).alloc (Nat.le_refl _) _
  have hbx := BoxW.new w name valid next sv 24
  obtain ⟨W0, hW0⟩ : ∃ W0, W0 = w.alloc (.cells #[.string name, .int .i64 valid, .int .i64 next, sv] 24) := ⟨_, rfl⟩
  rw [← hW0] at hb0 hbx
  have hl0 := h.lets.below hb0
  have hM0 := hM.below hb0
  have hf := refCheck name valid next sv ps W0 hl0 h.len
  obtain ⟨sa, sc, rfl, _⟩ := h.lets.shape
  obtain ⟨la, ln, lc, rfl⟩ := hlv
  generalize chk valid next (ps.map (·.1)) = E at *
  have hE1 : (E != 0) = true := by simpa using hE
  unfold boxV at hf ⊢
  have HF := Lib.hid hf
  have HMM := Lib.hid hM0
  have HB := Lib.hid hb0
  have HW := Lib.hid hW0
  obtain ⟨c0, c1, c2, c3, _⟩ := id hbx
  clear hf hb0 hW0 hl0 hM0 hM h hbx
  go_enter Try.func6, Try.ntmps6
  go_wp2_with (rw [← HW.out])
  refine HF.out.mono ?_
  rintro e w1 ⟨rfl, hb1⟩
  have hM1 := HMM.out.below hb1
  have HL1 := Lib.hid (live_any w1 hM1)
  have HB1 := Lib.hid hb1
  clear hb1 hM1 hE c0 c1 c2 c3
  go_wp2_with fail
  refine HL1.out.mono ?_
  rintro e w2 ⟨rfl, hb2⟩
  go_wp2
  go_ret
  exact ⟨rfl, HB.out.trans ((HB1.out.trans (hb2.mono HB1.out.size)).mono HB.out.size)⟩

set_option maxHeartbeats 8000000 in
set_option maxRecDepth 100000 in
theorem walk_rises_ok (name : ByteArray) (valid next : Int) (sv lv : Value) (ps : List LV) (l : List Int) (w : World) (h : BoxIn w name valid next sv ps) (hl : Nums w lv l) (hll : l.length ≤ 9223372036854775807) (hM : Ml w) (hE : chk valid next (ps.map (·.1)) = 0) :
    Calls Try.prog 6 #[boxV name valid next sv, lv] w fun e w' => e = .returned (.bool true) ∧ Below w.heap.size w w' := by
  have hb0 : Below w.heap.size w (w.alloc (.cells #[.string name, .int .i64 valid, .int .i64 next, sv] 24)) := (Below.refl _ w).alloc (Nat.le_refl _) _
  have hbx := BoxW.new w name valid next sv 24
  obtain ⟨W0, hW0⟩ : ∃ W0, W0 = w.alloc (.cells #[.string name, .int .i64 valid, .int .i64 next, sv] 24) := ⟨_, rfl⟩
  rw [← hW0] at hb0 hbx
  have hl0 := h.lets.below hb0
  have hf := refCheck name valid next sv ps W0 hl0 h.len
  rw [hE] at hf
  obtain ⟨sa, sc, rfl, _⟩ := h.lets.shape
  obtain ⟨la, lc, rfl⟩ := hl.shape
  obtain ⟨_, ⟨hn1, hn2⟩, _, _⟩ := chk_ok hE
  unfold boxV at hf ⊢
  have HF := Lib.hid hf
  have HMM := Lib.hid hM
  have HB := Lib.hid hb0
  have HW := Lib.hid hW0
  have HAP := Lib.hid h.lets.apart
  have HE := Lib.hid hE
  have HL0 := Lib.hid hl0
  have HBX := Lib.hid hbx
  have HL := Lib.hid hl
  have hw0 : w.heap.size < W0.heap.size := hbx.lt
  obtain ⟨c0, c1, c2, c3, _⟩ := id hbx
  clear hf hb0 hW0 hl0 hM h hbx hE hl
  go_enter Try.func6, Try.ntmps6
  go_wp2_with (rw [← HW.out])
  refine HF.out.mono ?_
  rintro e w1 ⟨rfl, hb1⟩
  have HB1 := Lib.hid (HBX.out.below hb1 hw0)
  have HL1 := Lib.hid (HL0.out.below hb1)
  have HBB := Lib.hid (HB.out.trans (hb1.mono HB.out.size))
  clear hb1 c0 c1 c2 c3 HF HW HL0 HBX
  obtain ⟨c0, c1, c2, c3, _⟩ := HB1.out
  have hn3 : wrap64 (next - 1) = next - 1 := IntWalk.wrap64_in _ (by omega)
  go_wp2
  clear hn3
  go_loopw [5, 6] (fun la' i wr => ∃ (k : Nat) (nx : Int) (tv : Value) (qs : List LV), k ≤ l.length ∧ i = .int .i64 k ∧ la' = .int .i64 (nx - 1) ∧ BoxW wr w.heap.size name valid nx tv ∧ Lets wr tv qs ∧ Apart w.heap.size tv qs ∧ chk valid nx (qs.map (·.1)) = 0 ∧ Below w.heap.size w wr) (fun _ i _ => l.length - (intOf i).toNat)
  case atStart => exact ⟨0, next, _, ps, Nat.zero_le _, rfl, rfl, HB1.out, HL1.out, HAP.out, HE.out, HBB.out⟩
  case round =>
    clear c0 c1 c2 c3 hn1 hn2
    obtain ⟨k, nx, tv, qs, hk, rfl, rfl, hB, hL, hap, hck, hbw⟩ := hrel
    obtain ⟨_, ⟨hn1, hn2⟩, h32, _⟩ := chk_ok hck
    rw [List.length_map] at h32
    obtain ⟨ta, tc, rfl, _⟩ := hL.shape
    have HB2 := Lib.hid hB
    have HL2 := Lib.hid hL
    have HCK := Lib.hid hck
    have HBW := Lib.hid hbw
    have HAQ := Lib.hid hap
    have hz := hB.lt
    have hwz := hbw.size
    clear hap
    obtain ⟨c0, c1, c2, c3, f0, f1, f2, f3⟩ := hB
    by_cases hlt : k < l.length
    · by_cases h60 : k < 60
      · have hx := List.getElem?_eq_getElem hlt
        generalize l[k] = x at hx
        obtain ⟨g, off, cap, he, hg, hcell⟩ := HL.out.cells (fun e => by subst e; simp at hlt)
        injection he with e1 _ e3
        subst e1 e3
        have hcx := (hbw.cell (p := ⟨g, off + k, none⟩) hg).trans (hcell k x hx)
        have hgz : g < wr.heap.size := Nat.lt_of_lt_of_le hg hwz
        clear hL hck hbw hx hcell
        have hk60 : (k : Int) < 60 := by omega
        have hkl : (k : Int) < (l.length : Int) := by omega
        by_cases hx0 : x = 0
        · subst hx0
          have hbt : ((UInt8.ofNat k).toNat : Int) = (k : Int) := by rw [UInt8.toNat_ofNat_of_lt' (by show k < 256; omega)]
          have hb1 : Below wr.heap.size wr (wr.alloc (.cells #[.int .u8 (k : Int)] 5)) := (Below.refl _ wr).alloc (Nat.le_refl _) _
          have hby := one_byte wr (UInt8.ofNat k)
          rw [hbt] at hby
          obtain ⟨W1, hW1⟩ : ∃ W1, W1 = wr.alloc (.cells #[.int .u8 (k : Int)] 5) := ⟨_, rfl⟩
          rw [← hW1] at hb1 hby
          have HW1 := Lib.hid hW1
          have HBY := Lib.hid hby
          have HB1' := Lib.hid hb1
          clear hbt hb1 hby hW1
          rcases addE_right (p := [UInt8.ofNat k]) HCK.out (by simp) with h8 | h0
          · have ha := (add_any name valid nx (.slice ta qs.length tc) qs 0 _ _ W1 (HL2.out.below HB1'.out) (by omega) HBY.out).mono fun e w' ⟨h1, h2, _⟩ => (⟨h1, by rw [h2 (by rw [h8]; decide), h8]⟩ : Below W1.heap.size W1 w' ∧ e = Ending.returned (.tuple #[boxV0, .int .i64 0, .int .i64 8]))
            unfold boxV0 boxV at ha
            have HA := Lib.hid ha
            clear ha h8
            go_wp2_with (rw [← HW1.out])
            refine HA.out.mono ?_
            rintro e w2 ⟨hb2, rfl⟩
            have hb3 : Below w2.heap.size w2 (w2.alloc (.cells #[.string ⟨#[]⟩, .int .i64 0, .int .i64 0, .slice none 0 0] 24)) := (Below.refl _ w2).alloc (Nat.le_refl _) _
            have hbb := (HB1'.out.trans (hb2.mono HB1'.out.size)).trans (hb3.mono (HB1'.out.trans (hb2.mono HB1'.out.size)).size)
            have HN := Lib.hid (⟨HB2.out.below hbb hz, HL2.out.below hbb, HAQ.out, HCK.out, HBW.out.trans (hbb.mono HBW.out.size)⟩ : BoxW _ w.heap.size name valid nx (.slice ta qs.length tc) ∧ Lets _ (.slice ta qs.length tc) qs ∧ Apart w.heap.size (.slice ta qs.length tc) qs ∧ chk valid nx (qs.map (·.1)) = 0 ∧ Below w.heap.size w _)
            clear hb2 hb3 hbb HA HW1 HBY HB1' c0 c1 c2 c3 f0 f1 f2 f3 hcx
            go_wp2
            go_roundw
            case rel => exact ⟨k + 1, nx, _, qs, by omega, by go_num, rfl, HN.out.1, HN.out.2.1, HN.out.2.2.1, HN.out.2.2.2.1, HN.out.2.2.2.2⟩
            case measure => simp [intOf]; omega
          · have ha := add_good name valid nx ta tc qs _ [UInt8.ofNat k] W1 (HL2.out.below HB1'.out) h32 HBY.out h0
            have HR := Lib.hid (add_right h0)
            have HA := Lib.hid ha
            clear ha h0
            go_wp2_with (rw [← HW1.out])
            refine HA.out.mono ?_
            rintro e w2 ⟨a, c, rs, W2, he, hW2, hq, hx2, hl2, hb2, hz2, hap2⟩
            have hrl : rs.length = qs.length + 1 := by have := congrArg List.length hq; simpa using this
            have hap3 := hap2 w.heap.size (by have := HB1'.out.size; omega)
            rw [← hq] at HR
            rw [hrl] at he hW2 hx2 hl2 hap3
            subst he
            have hbb := HB1'.out.trans (hb2.mono HB1'.out.size)
            have hB3 := HB2.out.below hbb hz
            have hz3 : w.heap.size < W2.heap.size := hB3.lt
            have hrc := refCheck name valid (nx + 1) (.slice a (qs.length + 1) c) rs W2 hl2 (by omega)
            rw [HR.out] at hrc
            unfold boxV at hrc
            have HRC := Lib.hid hrc
            have HRL := Lib.hid hrl
            have HX2 := Lib.hid hx2
            have HLL := Lib.hid hl2
            have HAP3 := Lib.hid hap3
            have HBB2 := Lib.hid hbb
            have HB3 := Lib.hid hB3
            have HW2 := Lib.hid hW2
            have HW9 := Lib.hid (HBW.out.trans (hbb.mono HBW.out.size))
            have hnn : ¬ nx ≤ nx - 1 := by omega
            clear hq hap2 hap3 hrl hrc hl2 hb2 hz2 hW2 hbb HA c0 c1 c2 c3 f0 f1 f2 f3 hcx
            obtain ⟨c0, c1, c2, c3, f0, f1, f2, f3⟩ := hB3
            obtain ⟨e0, e1, e2, e3, _⟩ := hx2
            go_wp2_with (first | rw [← HW2.out])
            refine HRC.out.mono ?_
            rintro e w4 ⟨rfl, hb4⟩
            clear c0 c1 c2 c3 f0 f1 f2 f3 e0 e1 e2 e3 HW2
            have hB4 := HB3.out.below hb4 hz3
            obtain ⟨W5, hW5, hb5, hf5⟩ := hB4.put4 name valid (nx + 1) (.slice a (qs.length + 1) c)
            have HN := Lib.hid (⟨hb5, (HLL.out.below hb4).fr HAP3.out hf5, HAP3.out, HR.out, (HW9.out.trans (hb4.mono HW9.out.size)).trans (hf5.below (HW9.out.trans (hb4.mono HW9.out.size)).size (fun k e => by omega))⟩ : BoxW W5 w.heap.size name valid (nx + 1) (.slice a (qs.length + 1) c) ∧ Lets W5 (.slice a (qs.length + 1) c) rs ∧ Apart w.heap.size (.slice a (qs.length + 1) c) rs ∧ chk valid (nx + 1) (rs.map (·.1)) = 0 ∧ Below w.heap.size w W5)
            obtain ⟨e0, e1, e2, e3, _⟩ := HX2.out.below hb4 HX2.out.lt
            obtain ⟨c0, c1, c2, c3, f0, f1, f2, f3⟩ := hB4
            have HW5 := Lib.hid hW5
            clear hW5 hb5 hf5 hb4
            go_wp2_with (rw [← HW5.out])
            have hnx : wrap64 (nx + 1 - 1) = nx := by rw [IntWalk.wrap64_in _ (by omega)]; omega
            go_roundw
            case rel => exact ⟨k + 1, nx + 1, _, rs, by omega, by go_num, by go_num, HN.out.1, HN.out.2.1, HN.out.2.2.1, HN.out.2.2.2.1, HN.out.2.2.2.2⟩
            case measure => simp [intOf]; omega
        · have hx1 : (x != 0) = true := by simpa using hx0
          by_cases hce : cutE valid nx (qs.map (·.1)) x = 0
          · have hC := fun W (hW : Below wr.heap.size wr W) => (cut_lets name valid nx ta tc qs x W (HL2.out.below hW) h32 hce).mono fun e w' ⟨a, c, rs, h1, h2, h3, h4, h5⟩ => (⟨a, c, rs, h1, h2, h3, h4, h5, hW.trans (h4.mono hW.size)⟩ : ∃ (a : Option Addr) (c : Nat) (rs : List LV), e = Ending.returned (.tuple #[.agg #[.string name, .int .i64 valid, .int .i64 nx, .slice a rs.length c], .int .i64 0]) ∧
              rs.map (fun p : LV => p.1) = cutL (qs.map (fun p : LV => p.1)) x ∧ Lets w' (.slice a rs.length c) rs ∧ Below W.heap.size W w' ∧ (∀ b, b < W.heap.size → Apart b (.slice a rs.length c) rs) ∧ Below wr.heap.size wr w')
            have HC := Lib.hid hC
            have HCE := Lib.hid hce
            clear hC hce hx0
            go_wp2_with fail
            go_region_with (first
              | (go_at_call 20
                 with_reducible refine (HC.out _ (by first | exact (Below.refl _ _).drew | exact ((Below.refl _ wr).alloc (Nat.le_refl _) _).drew)).mono ?_
                 rintro e w2 ⟨a, c, rs, rfl, hq, hl2, hb2, hap2, hbw2⟩
                 first
                   | (have hz7 : BoxW w2 wr.heap.size ⟨#[]⟩ 0 0 (.slice none 0 0) := BoxW.below (w := (wr.alloc (.cells #[.string ⟨#[]⟩, .int .i64 0, .int .i64 0, .slice none 0 0] 24)).drew) (BoxW.kept (BoxW.new wr ⟨#[]⟩ 0 0 (.slice none 0 0) 24) rfl) hb2 (by show wr.heap.size < (wr.alloc _).heap.size; simp)
                      have hap7 := hap2 wr.heap.size (by show wr.heap.size < (wr.alloc _).heap.size; simp)
                      obtain ⟨z0, z1, z2, z3, y0, y1, y2, y3⟩ := id hz7)
                   | skip))
            all_goals
              have hap3 : Apart w.heap.size (.slice a rs.length c) rs := hap2 _ (by first | exact hz | (show w.heap.size < (wr.alloc _).heap.size; simp; omega))
              have hrl := cut_len HCE.out
              rw [← hq, List.length_map, List.length_map] at hrl
              have hck2 := cut_right x HCK.out
              rw [← hq] at hck2
              have hc1 : (((rs.length : Nat) : Int) != (qs.length : Int) - 1) = false := by rw [bne_eq_false_iff_eq]; omega
              have hr32 : rs.length ≤ 32 := by omega
              first
                | (obtain ⟨W2, hW2, hx2, hf2⟩ := hz7.put4 name valid nx (.slice a rs.length c)
                   have hl3 := hl2.fr hap7 hf2
                   have hb3 : Below wr.heap.size wr W2 := hbw2.trans (hf2.below hbw2.size (fun k e => by omega))
                   rw [← hW2]
                   clear hz7 hap7 hf2 hW2 z0 z1 z2 z3 y0 y1 y2 y3)
                | (have hx2 := BoxW.new w2 name valid nx (.slice a rs.length c) 24
                   have hy2 : Below w2.heap.size w2 (w2.alloc (.cells #[.string name, .int .i64 valid, .int .i64 nx, .slice a rs.length c] 24)) := (Below.refl _ w2).alloc (Nat.le_refl _) _
                   have hl3 := hl2.below hy2
                   have hb3 : Below wr.heap.size wr (w2.alloc (.cells #[.string name, .int .i64 valid, .int .i64 nx, .slice a rs.length c] 24)) := hbw2.trans (hy2.mono hbw2.size)
                   obtain ⟨W2, hW2⟩ : ∃ W2, W2 = w2.alloc (.cells #[.string name, .int .i64 valid, .int .i64 nx, .slice a rs.length c] 24) := ⟨_, rfl⟩
                   rw [← hW2] at hx2 hl3 hb3
                   rw [← hW2]
                   clear hy2 hW2)
              have hB3 := HB2.out.below hb3 hz
              obtain ⟨W5, hW5, hb5, hf5⟩ := hB3.put4 name valid nx (.slice a rs.length c)
              have HN := Lib.hid (⟨hb5, hl3.fr hap3 hf5, hap3, hck2, (HBW.out.trans (hb3.mono HBW.out.size)).trans (hf5.below (HBW.out.trans (hb3.mono HBW.out.size)).size (fun k e => by omega))⟩ : BoxW W5 w.heap.size name valid nx (.slice a rs.length c) ∧ Lets W5 (.slice a rs.length c) rs ∧ Apart w.heap.size (.slice a rs.length c) rs ∧ chk valid nx (rs.map (·.1)) = 0 ∧ Below w.heap.size w W5)
              have HW5 := Lib.hid hW5
              clear hrl hck2 hap3 hap2 hq hl2 hl3 hb2 hb3 hbw2 hW5 hb5 hf5 HC HCE c0 c1 c2 c3 f0 f1 f2 f3 hcx hgz
              obtain ⟨c0, c1, c2, c3, f0, f1, f2, f3⟩ := hB3
              obtain ⟨e0, e1, e2, e3, _⟩ := hx2
              go_wp2_with (rw [← HW5.out])
              go_roundw
              case rel => exact ⟨k + 1, nx, _, rs, by omega, by go_num, rfl, HN.out.1, HN.out.2.1, HN.out.2.2.1, HN.out.2.2.2.1, HN.out.2.2.2.2⟩
              case measure => simp [intOf]; omega
          · have hC : ∀ W, Below wr.heap.size wr W → Calls Try.prog 20 #[.agg #[.string name, .int .i64 valid, .int .i64 nx, .slice ta qs.length tc], .int .i64 x] W fun e w' => Below W.heap.size W w' ∧ Below wr.heap.size wr w' ∧ e = .returned (.tuple #[.agg #[.string ⟨#[]⟩, .int .i64 0, .int .i64 0, .slice none 0 0], .int .i64 (cutE valid nx (qs.map (·.1)) x)]) := fun W hW =>
              (cut_any name valid nx (.slice ta qs.length tc) qs x W (HL2.out.below hW) (by omega)).mono fun e w' ⟨h1, h2, _⟩ => ⟨h1, hW.trans (h1.mono hW.size), h2 hce⟩
            generalize cutE valid nx (qs.map (·.1)) x = E at *
            have hE2 : (E == 0) = false := by simpa using hce
            have HC := Lib.hid hC
            have HNW := Lib.hid (fun Wx (hbb : Below wr.heap.size wr Wx) => (⟨HB2.out.below hbb hz, HL2.out.below hbb, HAQ.out, HCK.out, HBW.out.trans (hbb.mono HBW.out.size)⟩ : BoxW Wx w.heap.size name valid nx (.slice ta qs.length tc) ∧ Lets Wx (.slice ta qs.length tc) qs ∧ Apart w.heap.size (.slice ta qs.length tc) qs ∧ chk valid nx (qs.map (·.1)) = 0 ∧ Below w.heap.size w Wx))
            clear hC hce hx0
            go_wp2_with fail
            go_region_with (first
              | (go_at_call 20
                 with_reducible refine (HC.out _ (by first | exact (Below.refl _ _).drew | exact ((Below.refl _ wr).alloc (Nat.le_refl _) _).drew)).mono ?_
                 rintro e w2 ⟨hb2, hbw2, rfl⟩
                 first
                   | (have hz7 : BoxW w2 wr.heap.size ⟨#[]⟩ 0 0 (.slice none 0 0) := BoxW.below (w := (wr.alloc (.cells #[.string ⟨#[]⟩, .int .i64 0, .int .i64 0, .slice none 0 0] 24)).drew) (BoxW.kept (BoxW.new wr ⟨#[]⟩ 0 0 (.slice none 0 0) 24) rfl) hb2 (by show wr.heap.size < (wr.alloc _).heap.size; simp)
                      obtain ⟨z0, z1, z2, z3, y0, y1, y2, y3⟩ := id hz7)
                   | skip))
            all_goals
              have HBX3 := Lib.hid hbw2
              first
                | (clear hz7 hb2 z0 z1 z2 z3 y0 y1 y2 y3)
                | (clear hb2)
              clear hbw2 HC c0 c1 c2 c3 f0 f1 f2 f3 hcx hgz
              go_wp2
              go_roundw
              case rel =>
                refine ⟨k + 1, nx, .slice ta qs.length tc, qs, by omega, by go_num, rfl, ?_⟩
                refine HNW.out _ ?_
                first
                  | exact HBX3.out.trans (((Below.refl _ w2).alloc (Nat.le_refl _) _).mono HBX3.out.size)
                  | exact (((HBX3.out.setCell (Nat.le_refl _) _).setCell (Nat.le_refl _) _).setCell (Nat.le_refl _) _).setCell (Nat.le_refl _) _
                  | exact HBX3.out
              case measure => simp [intOf]; omega
      · have hk60 : ¬ (k : Int) < 60 := by omega
        have hkl : (k : Int) < (l.length : Int) := by omega
        have HLV := Lib.hid (live_any wr (HMM.out.below hbw))
        have hch : ∀ W, Below wr.heap.size wr W → Calls Try.prog 11 #[boxV name valid nx (.slice ta qs.length tc)] W fun e w' => e = .returned (.int .i64 0) ∧ Below W.heap.size W w' := fun W hW => by
          have := check_any name valid nx (.slice ta qs.length tc) qs W (hL.below hW) (by omega)
          rwa [hck] at this
        unfold boxV at hch
        have HCH := Lib.hid hch
        clear hL hck hbw hch
        go_wp2_with fail
        refine HLV.out.mono ?_
        rintro e w8 ⟨rfl, hb8⟩
        clear c0 c1 c2 c3 f0 f1 f2 f3
        obtain ⟨c0, c1, c2, c3, _⟩ := HB2.out.below hb8 hz
        go_wp2_with fail
        refine (HCH.out w8 hb8).mono ?_
        rintro e w9 ⟨rfl, hb9⟩
        go_wp2
        go_ret
        exact ⟨rfl, HBW.out.trans ((hb8.trans (hb9.mono hb8.size)).mono HBW.out.size)⟩
    · have hkl : ¬ (k : Int) < (l.length : Int) := by omega
      have HLV := Lib.hid (live_any wr (HMM.out.below hbw))
      have hch : ∀ W, Below wr.heap.size wr W → Calls Try.prog 11 #[boxV name valid nx (.slice ta qs.length tc)] W fun e w' => e = .returned (.int .i64 0) ∧ Below W.heap.size W w' := fun W hW => by
        have := check_any name valid nx (.slice ta qs.length tc) qs W (hL.below hW) (by omega)
        rwa [hck] at this
      unfold boxV at hch
      have HCH := Lib.hid hch
      clear hL hck hbw hch
      go_wp2_with fail
      refine HLV.out.mono ?_
      rintro e w8 ⟨rfl, hb8⟩
      clear c0 c1 c2 c3 f0 f1 f2 f3
      obtain ⟨c0, c1, c2, c3, _⟩ := HB2.out.below hb8 hz
      go_wp2_with fail
      refine (HCH.out w8 hb8).mono ?_
      rintro e w9 ⟨rfl, hb9⟩
      go_wp2
      go_ret
      exact ⟨rfl, HBW.out.trans ((hb8.trans (hb9.mono hb8.size)).mono HBW.out.size)⟩
theorem walk_rises (name : ByteArray) (valid next : Int) (sv lv : Value) (ps : List LV) (l : List Int) (w : World) (h : BoxIn w name valid next sv ps) (hl : Nums w lv l ∧ l.length ≤ maxLen) (hM : Ml w) :
    Calls Try.prog 6 #[boxV name valid next sv, lv] w fun e w' => e = .returned (.bool true) ∧ Below w.heap.size w w' := by
  by_cases hE : chk valid next (ps.map (·.1)) = 0
  · exact walk_rises_ok name valid next sv lv ps l w h hl.1 hl.2 hM hE
  · exact walk_rises_bad name valid next sv lv ps w h (by obtain ⟨a, c, e⟩ := hl.1.shape; exact ⟨a, _, c, e⟩) hM hE
end Go.Proofs.Ytpmakbjchepkmaa
