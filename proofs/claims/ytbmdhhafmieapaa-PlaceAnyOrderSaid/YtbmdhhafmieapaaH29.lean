/- Place: PlaceAnyOrder walked. -/
import Derived.Test.YtbmdhhafmieapaaH28
namespace Go.Proofs.Ytbmdhhafmieapaa
open Go Go.RowKit Go.Maps

theorem Given.take {W : World} {a : Option Addr} {n cap : Nat} {l : List Known} (h : Given W (.slice a n cap) l) (m : Nat) (hm : m ≤ l.length) : Given W (.slice a m cap) (l.take m) := by
  obtain ⟨a', cap', he, h2, h3, h4⟩ := h
  cases he
  have hl : (l.take m).length = m := by simp; omega
  refine ⟨a, cap, by rw [hl], by omega, by omega, fun j x hj => ?_⟩
  rw [List.getElem?_take] at hj
  split at hj
  · exact h4 j x hj
  · cases hj
/-- No two that speak of one user and epoch and differ, below. -/
def Clean (L : List Known) (i j : Nat) : Prop := ∀ i' j' x y, (i' < i ∨ (i' = i ∧ j' < j)) → j' < i' → L[i']? = some x → L[j']? = some y → x.1 = y.1 → x.2.2 = y.2.2 → x = y
theorem Clean.row {L : List Known} {i : Nat} (h : Clean L i i) : Clean L (i + 1) 0 := by
  intro i' j' x y h1 h2
  exact h i' j' x y (by omega) h2
theorem Clean.next {L : List Known} {i j : Nat} (h : Clean L i j) {x y : Known} (hx : L[i]? = some x) (hy : L[j]? = some y) (hxy : x.1 = y.1 → x.2.2 = y.2.2 → x = y) : Clean L i (j + 1) := by
  intro i' j' a b h1 h2 ha hb
  by_cases hc : i' = i ∧ j' = j
  · obtain ⟨rfl, rfl⟩ := hc
    rw [hx] at ha; rw [hy] at hb
    cases ha; cases hb
    exact hxy
  · exact h i' j' a b (by omega) h2 ha hb
theorem Clean.whole {L : List Known} {i : Nat} (h : Clean L i 0) (hi : L.length ≤ i) : ∀ x ∈ L, ∀ y ∈ L, x.1 = y.1 → x.2.2 = y.2.2 → x = y := by
  intro x hx y hy h1 h2
  obtain ⟨a, ha, rfl⟩ := List.getElem_of_mem hx
  obtain ⟨b, hb, rfl⟩ := List.getElem_of_mem hy
  rcases Nat.lt_trichotomy a b with hab | hab | hab
  · exact (h b a _ _ (Or.inl (by omega)) hab (List.getElem?_eq_getElem hb) (List.getElem?_eq_getElem ha) h1.symm h2.symm).symm
  · subst hab; rfl
  · exact h a b _ _ (Or.inl (by omega)) hab (List.getElem?_eq_getElem ha) (List.getElem?_eq_getElem hb) h1 h2
theorem clean_nil (L : List Known) : Clean L 0 0 := by
  intro i' j' x y h1 h2
  omega
/-- All of one of its seats, read. -/
theorem Given.all {W : World} {a : Option Addr} {n cap : Nat} {l : List Known} (h : Given W (.slice a n cap) l) (j : Nat) (x : Known) (hj : l[j]? = some x) : Sm x ∧ ∃ g off, a = some ⟨g, off, none⟩ ∧ g < W.heap.size ∧ ∀ W', Below W.heap.size W W' → W'.cell? ⟨g, off + j * 3, none⟩ = some (.string ⟨x.1.toArray⟩) ∧ W'.cell? ⟨g, off + j * 3 + 1, none⟩ = some (.int .i64 x.2.1) ∧ W'.cell? ⟨g, off + j * 3 + 2, none⟩ = some (.int .i64 x.2.2) := by
  obtain ⟨a', cap', he, _, _, h4⟩ := id h
  cases he
  obtain ⟨q0, g, off, rfl, q2, q3⟩ := h4 j x hj
  exact ⟨q0, _, _, rfl, q2, fun W' hb => ⟨(hb.cell (p := ⟨g, off + j * 3, none⟩) q2).trans (q3 0 _ rfl), (hb.cell (p := ⟨g, off + j * 3 + 1, none⟩) q2).trans (q3 1 _ rfl), (hb.cell (p := ⟨g, off + j * 3 + 2, none⟩) q2).trans (q3 2 _ rfl)⟩⟩

set_option maxRecDepth 100000 in
set_option maxHeartbeats 6400000 in
theorem walk_order (c : Nat) (hc : c < 256) (v : Value) (l : List Known) (d : Nat) (hd : d < 256) (w0 : World) (hv : Given w0 v l) :
    Calls Try.prog 5 #[.int .u8 (c : Int), v, .int .u8 (d : Int)] w0 fun e w' => e = .returned (.bool true) ∧ Below w0.heap.size w0 w' := by
  have HV := Lib.hid hv
  obtain ⟨a, cap, rfl, hcap, hl, _⟩ := hv
  have HD := Lib.hid hd
  have HCAP := Lib.hid hcap
  have hN : 1 ≤ 1 + (c : Int) % 4 ∧ 1 + (c : Int) % 4 ≤ 4 := by omega
  clear hd
  have hlen : 40 < l.length ∨ l.length ≤ 40 := by omega
  rcases hlen with hlen | hlen
  case' inl =>
    have hi40 : (40 : Int) < (l.length : Int) := by omega
    have hcap40 : (40 : Int) ≤ (cap : Int) := by omega
    have hcap41 : 40 ≤ cap := by omega
    have HT := Lib.hid (HV.out.take 40 (by omega))
    have hL : (l.take 40).length = 40 := by simp; omega
    generalize l.take 40 = L at *
    go_enter Try.func5, Try.ntmps5
    go_wp2_with fail
    rw [show (Value.slice a 40 cap) = .slice a L.length cap from by rw [hL]] at HT ⊢
    have hL40 : L.length ≤ 40 := by omega
    generalize (Value.slice a l.length cap) = v16 at *
    generalize (Value.int IntKind.i64 (l.length : Int)) = v17 at *
    clear hi40 hcap40 hcap41 hL hlen HCAP hcap HV
  case' inr =>
    have hi40 : ¬ (40 : Int) < (l.length : Int) := by omega
    have hL40 : l.length ≤ 40 := hlen
    generalize l = L at *
    have HT := HV
    go_enter Try.func5, Try.ntmps5
    go_wp2_with fail
    clear hi40 hlen HCAP hcap HV
  all_goals
    generalize 1 + (c : Int) % 4 = n at *
    have HN := Lib.hid hN
    clear hN hc
    have H0 : Hid (Clean L 0 0 ∧ Below w0.heap.size w0 w0) := Lib.hid ⟨clean_nil L, Below.refl _ _⟩
    go_loopw [8] (fun iv wr => ∃ k : Nat, iv = .int .i64 (k : Int) ∧ k ≤ L.length ∧ Hid (Clean L k 0 ∧ Below w0.heap.size w0 wr)) (fun iv _ => 40 - (intOf iv).toNat)
    case atStart => exact ⟨0, rfl, Nat.zero_le _, H0⟩
    case round =>
      clear H0
      obtain ⟨k, rfl, hk, hH⟩ := hrel
      by_cases hkl : k < L.length
      · have hki : (k : Int) < (L.length : Int) := by omega
        go_wp2_with fail
        obtain ⟨wo, hwo⟩ : ∃ wo : World, wo = wr := ⟨_, rfl⟩
        subst hwo
        have HI : Hid (Clean L k 0 ∧ Below w0.heap.size w0 wo) := hH
        go_loopw [9] (fun jv wr => ∃ j : Nat, jv = .int .i64 (j : Int) ∧ j ≤ k ∧ Hid (Clean L k j ∧ Below w0.heap.size w0 wr)) (fun jv _ => 40 - (intOf jv).toNat)
        case atStart => exact ⟨0, rfl, Nat.zero_le _, HI⟩
        case round =>
          clear HI hH
          obtain ⟨j, rfl, hj, hJ⟩ := hrel
          by_cases hjk : j < k
          · have hji : (j : Int) < (k : Int) := by omega
            have hjl : j < L.length := by omega
            have hji2 : (j : Int) < (L.length : Int) := by omega
            have hx := List.getElem?_eq_getElem hkl
            have hy := List.getElem?_eq_getElem hjl
            generalize L[k] = x at *
            generalize L[j] = y at *
            obtain ⟨_, g, off, rfl, _, hcx⟩ := HT.out.all k x hx
            obtain ⟨_, g', off', e, _, hcy⟩ := HT.out.all j y hy
            cases e
            obtain ⟨c0, c1, c2⟩ := hcx _ hJ.out.2
            obtain ⟨d0, d1, d2⟩ := hcy _ hJ.out.2
            have HX := Lib.hid hx
            have HY := Lib.hid hy
            clear hcx hcy hx hy
            have hxe : (⟨x.1.toArray⟩ : ByteArray) = ⟨y.1.toArray⟩ ↔ x.1 = y.1 := by
              constructor
              · intro h; have := congrArg (fun b : ByteArray => b.data.toList) h; simpa using this
              · intro h; rw [h]
            have HXE := Lib.hid hxe
            clear hxe
            obtain ⟨x1, x2, x3⟩ := x
            obtain ⟨y1, y2, y3⟩ := y
            simp only at HXE c0 c1 c2 d0 d1 d2
            generalize (⟨x1.toArray⟩ : ByteArray) = X at *
            generalize (⟨y1.toArray⟩ : ByteArray) = Y at *
            by_cases hXY : X = Y
            · by_cases hE : x3 = y3
              · by_cases hS : x2 = y2
                · subst hXY hE hS
                  have HN2 := Lib.hid (fun W (hW : Below wr.heap.size wr W) => (And.intro (hJ.out.1.next HX.out HY.out (fun h1 _ => by simp only at h1; rw [h1])) (hJ.out.2.trans (hW.mono hJ.out.2.size)) : Clean L k (j + 1) ∧ Below w0.heap.size w0 W))
                  clear hJ HX HY HXE
                  go_wp2_with fail
                  go_quiet (fail)
                  have HN3 := Lib.hid (HN2.out _ (show Below wr.heap.size wr (wr.drewN nq) from ⟨rfl, rfl, rfl, Nat.le_refl _, fun _ _ => rfl⟩))
                  clear HN2 c0 c1 c2 d0 d1 d2
                  go_wp2
                  go_roundw
                  case rel => exact ⟨j + 1, by go_num, by omega, HN3⟩
                  case measure => simp [intOf]; omega
                · subst hXY hE
                  have HB := Lib.hid hJ.out.2
                  clear hJ HX HY HXE
                  go_wp2_with fail
                  go_quiet (fail)
                  clear c0 c1 c2 d0 d1 d2
                  have HB2 := Lib.hid (HB.out.trans ((show Below wr.heap.size wr (wr.drewN nq) from ⟨rfl, rfl, rfl, Nat.le_refl _, fun _ _ => rfl⟩).mono HB.out.size))
                  clear HB
                  go_wp2_with fail
                  refine (live_any _).mono ?_
                  rintro e w4 ⟨rfl, b4⟩
                  have FIN := Lib.hid (HB2.out.trans (b4.mono HB2.out.size))
                  clear b4 HB2
                  go_wp2
                  go_ret
                  exact ⟨rfl, FIN.out⟩
              · subst hXY
                have HN2 := Lib.hid (fun W (hW : Below wr.heap.size wr W) => (And.intro (hJ.out.1.next HX.out HY.out (fun _ h2 => absurd h2 hE)) (hJ.out.2.trans (hW.mono hJ.out.2.size)) : Clean L k (j + 1) ∧ Below w0.heap.size w0 W))
                clear hJ HX HY HXE
                go_wp2_with fail
                go_quiet (fail)
                have HN3 := Lib.hid (HN2.out _ (show Below wr.heap.size wr (wr.drewN nq) from ⟨rfl, rfl, rfl, Nat.le_refl _, fun _ _ => rfl⟩))
                clear HN2 c0 c1 c2 d0 d1 d2
                go_wp2
                go_roundw
                case rel => exact ⟨j + 1, by go_num, by omega, HN3⟩
                case measure => simp [intOf]; omega
            · have hXYb : (X.toList == Y.toList) = false := by rw [Lib.toList_data, Lib.toList_data, beq_eq_false_iff_ne]; intro h; exact hXY (Go.WideShapes.bytes_inj h)
              have HN2 := Lib.hid (fun W (hW : Below wr.heap.size wr W) => (And.intro (hJ.out.1.next HX.out HY.out (fun h1 _ => absurd (HXE.out.2 h1) hXY)) (hJ.out.2.trans (hW.mono hJ.out.2.size)) : Clean L k (j + 1) ∧ Below w0.heap.size w0 W))
              clear hJ HX HY HXE
              go_wp2_with fail
              go_quiet (fail)
              have HN3 := Lib.hid (HN2.out _ (show Below wr.heap.size wr (wr.drewN nq) from ⟨rfl, rfl, rfl, Nat.le_refl _, fun _ _ => rfl⟩))
              clear HN2 c0 c1 c2 d0 d1 d2
              go_wp2
              go_roundw
              case rel => exact ⟨j + 1, by go_num, by omega, HN3⟩
              case measure => simp [intOf]; omega
          · have hje : j = k := by omega
            subst hje
            have HR := Lib.hid (show Clean L (j + 1) 0 ∧ Below w0.heap.size w0 wr from ⟨hJ.out.1.row, hJ.out.2⟩)
            clear hJ
            go_wp2
            go_roundw
            case rel => exact ⟨j + 1, by go_num, by omega, HR⟩
            case measure => simp [intOf]; omega
      · have hki : ¬ (k : Int) < (L.length : Int) := by omega
        have HU := Lib.hid (hH.out.1.whole (by omega))
        have HB := Lib.hid hH.out.2
        clear hH hkl
        go_wp2_with fail
        obtain ⟨wb, hwb⟩ : ∃ wb : World, wb = wr := ⟨_, rfl⟩
        subst hwb
        have HTB := Lib.hid (HT.out.below HB.out)
        have HL40 := Lib.hid hL40
        clear HT hL40 hk hki
        refine (new_any n _ HN.out).mono ?_
        rintro e w1 ⟨rfl, b1, _, hm⟩
        have H1 := Lib.hid (one_new b1 hm)
        clear b1 hm
        go_wp2_with fail
        refine (new_any n _ HN.out).mono ?_
        rintro e w2 ⟨rfl, b2, _, hm2⟩
        have H0 := inv_new H1.out b2 hm2 L
        clear b2 hm2 H1
        obtain ⟨p', hp'⟩ : ∃ p', w1.heap.size + 1 = p' := ⟨_, rfl⟩
        rw [hp'] at H0 ⊢
        generalize w1.heap.size = b' at *
        obtain ⟨p, hp⟩ : ∃ p, wb.heap.size + 1 = p := ⟨_, rfl⟩
        rw [hp] at H0 ⊢
        obtain ⟨b, hb⟩ : ∃ b, wb.heap.size = b := ⟨_, rfl⟩
        rw [hb] at H0
        have H0 := Lib.hid H0
        clear hp hp' hb
        go_wp2_with fail
        go_loopw [14] (fun iv wr => ∃ k : Nat, iv = .int .i64 (k : Int) ∧ k ≤ L.length ∧ Hid (Inv wb wr p b p' b' n k k L k 0)) (fun iv _ => 40 - (intOf iv).toNat)
        case atStart => exact ⟨0, rfl, Nat.zero_le _, H0⟩
        case round =>
          clear H0
          obtain ⟨k3, rfl, hk, hI⟩ := hrel
          by_cases hkl3 : k3 < L.length
          · have hki3 : (k3 : Int) < (L.length : Int) := by omega
            have hL0 : ¬ (L.length : Int) = 0 := by omega
            have hx := List.getElem?_eq_getElem hkl3
            generalize L[k3] = x at *
            obtain ⟨hsm, g, off, rfl, hg, hld, _⟩ := HTB.out.at3 k3 x hx
            have hl1 := hld _ hI.out.bel
            have LN := Lib.hid (i_learn1 hI.out HN.out x hsm HL40.out (by have := HL40.out; omega) hx)
            have L1 := Lib.hid hl1
            clear hl1 hld hsm hx hI hg
            go_wp2_with (refine wpList_load_known rfl 35 (.tmp 97) rfl _ _ rfl L1.out ?_)
            refine LN.out.mono ?_
            rintro e w3 ⟨E, rfl, h3⟩
            have I3 := Lib.hid h3
            clear h3 LN L1
            have hd := HD.out
            have hL40 := HL40.out
            obtain ⟨r, hr, hrl⟩ : ∃ r : Nat, ((L.length : Int) - 1 - (k3 : Int) + (d : Int)).tmod (L.length : Int) = (r : Int) ∧ r < L.length := by
              have h0 : (0 : Int) ≤ (L.length : Int) - 1 - (k3 : Int) + (d : Int) := by omega
              refine ⟨(((L.length : Int) - 1 - (k3 : Int) + (d : Int)).tmod (L.length : Int)).toNat, ?_, ?_⟩
              · have := Int.tmod_nonneg (L.length : Int) h0
                omega
              · have := Int.tmod_lt_of_pos ((L.length : Int) - 1 - (k3 : Int) + (d : Int)) (show (0 : Int) < (L.length : Int) by omega)
                have := Int.tmod_nonneg (L.length : Int) h0
                omega
            have hr0 : (0 : Int) ≤ (r : Int) := by omega
            have hri : (r : Int) < (L.length : Int) := by omega
            have hz := List.getElem?_eq_getElem hrl
            generalize L[r] = z at *
            obtain ⟨hsm, g', off', e, hg, hld, _⟩ := HTB.out.at3 r z hz
            cases e
            have LN := Lib.hid (i_learn2 I3.out HN.out z hsm HL40.out (by omega) (List.mem_of_getElem? hz) 0 (Or.inl rfl))
            have L1 := Lib.hid (hld _ I3.out.bel)
            clear hld hsm hz I3 hg
            go_wp2_with (refine wpList_load_known rfl 35 (.tmp 113) rfl _ _ rfl L1.out ?_)
            refine LN.out.mono ?_
            rintro e w4 ⟨E, rfl, h4⟩
            have I4 := Lib.hid h4
            clear h4 LN L1 hr hr0 hri hd
            go_wp2
            go_roundw
            case rel => exact ⟨k3 + 1, by go_num, by omega, I4⟩
            case measure => have := HL40.out; simp [intOf]; omega
          · have hki3 : ¬ (k3 : Int) < (L.length : Int) := by omega
            have hke : k3 = L.length := by omega
            subst hke
            have H1 : Hid (Inv wb wr p b p' b' n L.length (L.length + 0) L L.length 0) := hI
            clear hI hkl3
            go_wp2_with fail
            go_loopw [15] (fun iv wr => ∃ k : Nat, iv = .int .i64 (k : Int) ∧ k ≤ L.length ∧ Hid (Inv wb wr p b p' b' n L.length (L.length + k) L L.length k)) (fun iv _ => 40 - (intOf iv).toNat)
            case atStart => exact ⟨0, rfl, Nat.zero_le _, H1⟩
            case round =>
              clear H1
              obtain ⟨k4, rfl, hk, hI⟩ := hrel
              by_cases hkl4 : k4 < L.length
              · have hki4 : (k4 : Int) < (L.length : Int) := by omega
                have hx := List.getElem?_eq_getElem hkl4
                generalize L[k4] = x at *
                obtain ⟨hsm, g, off, rfl, hg, hld, _⟩ := HTB.out.at3 k4 x hx
                have LN := Lib.hid (i_learn2 hI.out HN.out x hsm HL40.out (by have := HL40.out; omega) (List.mem_of_getElem? hx) (k4 + 1) (Or.inr ⟨rfl, hx⟩))
                have L1 := Lib.hid (hld _ hI.out.bel)
                clear hld hsm hx hI hg
                go_wp2_with (refine wpList_load_known rfl 35 (.tmp 125) rfl _ _ rfl L1.out ?_)
                refine LN.out.mono ?_
                rintro e w4 ⟨E, rfl, h4⟩
                have I4 := Lib.hid h4
                clear h4 LN L1
                have hL40 := HL40.out
                go_wp2
                go_roundw
                case rel => exact ⟨k4 + 1, by go_num, by omega, I4⟩
                case measure => have := HL40.out; simp [intOf]; omega
              · have hki4 : ¬ (k4 : Int) < (L.length : Int) := by omega
                obtain ⟨m, q1, q2⟩ := hI.out.same (Nat.le_refl _) (by omega) HU.out
                have O1 := Lib.hid q1
                have O2 := Lib.hid q2
                clear hI q1 q2 hkl4 HU
                go_wp2_with fail
                refine (live_any _).mono ?_
                rintro e w3 ⟨rfl, b3⟩
                have P1 := Lib.hid (O1.out.below b3)
                have P2 := Lib.hid (O2.out.below b3)
                clear b3 O1 O2
                go_wp2_with fail
                refine (o_seats P1.out (by have := HL40.out; omega)).mono ?_
                rintro e w4 ⟨v1, ss, rfl, hss, hmn, b4⟩
                rw [hss] at hmn
                clear hss
                have F4 := Lib.hid hmn.full
                have P24 := Lib.hid (P2.out.below b4)
                clear hmn b4 P1 P2
                go_wp2_with fail
                refine (o_seats P24.out (by have := HL40.out; omega)).mono ?_
                rintro e w5 ⟨v2, ss, rfl, hss, hmn, b5⟩
                rw [hss] at hmn
                clear hss
                have SA := Lib.hid (same_any v1 v2 m w5 (F4.out.below b5) hmn.full (by have := P24.out.len; have := HL40.out; omega))
                have FB := Lib.hid (HB.out.trans (((P24.out.below b5).bel).mono HB.out.size))
                clear hmn b5 P24 F4
                go_wp2_with fail
                refine SA.out.mono ?_
                rintro e w6 ⟨rfl, b6⟩
                have FIN := Lib.hid (FB.out.trans (b6.mono FB.out.size))
                clear b6 SA FB
                go_wp2
                go_ret
                exact ⟨rfl, FIN.out⟩
end Go.Proofs.Ytbmdhhafmieapaa
