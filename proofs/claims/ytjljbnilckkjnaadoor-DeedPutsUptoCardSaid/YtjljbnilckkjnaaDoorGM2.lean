/- Deed: DeedBack. -/
import Derived.Test.YtjljbnilckkjnaaDoorG31
namespace Go.Proofs.YtjljbnilckkjnaaDoor
open Go Go.RowKit

theorem Dd.back (d : Dd) : d.di.nat = d := by
  unfold Dd.di Di.nat
  simp only [Int.toNat_natCast]
theorem map_back (ds : List Dd) : (ds.map Dd.di).map Di.nat = ds := by
  rw [List.map_map]
  have : (Di.nat ∘ Dd.di) = id := funext Dd.back
  rw [this, List.map_id]
theorem putAllE_parts {ds : List Di} (h : putAllE ds = 0) : (1 ≤ ds.length ∧ ds.length ≤ 12) ∧ ckAll ds = 0 ∧ (dsL (ds.map Di.nat)).length ≤ 1800 := by
  unfold putAllE at h
  by_cases h0 : ds.length = 0
  · rw [if_pos h0] at h; omega
  rw [if_neg h0] at h
  by_cases h1 : 12 < ds.length
  · rw [if_pos h1] at h; omega
  rw [if_neg h1] at h
  by_cases h2 : ckAll ds ≠ 0
  · rw [if_pos h2] at h; exact absurd h h2
  rw [if_neg h2] at h
  by_cases h3 : 1800 < (dsL (ds.map Di.nat)).length
  · rw [if_pos h3] at h; omega
  exact ⟨by omega, Decidable.not_not.1 h2, by omega⟩
theorem len_mem (ds : List Dd) (d : Dd) (h : d ∈ ds) : (ddL d).length ≤ (ds.flatMap ddL).length := by
  induction ds with
  | nil => cases h
  | cons x t ih =>
    rw [List.flatMap_cons, List.length_append]
    rcases List.mem_cons.1 h with rfl | h
    · omega
    · have := ih h; omega
theorem put_take {ds : List Di} (h : putAllE ds = 0) : takeE (dsL (ds.map Di.nat)) = .ok (ds.map Di.nat) ∧ takeAllE (dsL (ds.map Di.nat)) = 0 ∧ (ds.map Di.nat).map Dd.di = ds := by
  obtain ⟨⟨h1, h2⟩, h3, h4⟩ := putAllE_parts h
  have hfit : ∀ d ∈ ds, d.Fit := fun d hd => ckDeed_fit (ckAll_all _ h3 d hd)
  have hsm : ∀ d ∈ ds.map Di.nat, d.Small := fun x hx => by
    have hl := len_mem _ x hx
    obtain ⟨d, hd, rfl⟩ := List.mem_map.1 hx
    obtain ⟨g1, g2, g3, g4, g5, g6, g7, g8, _⟩ := hfit d hd
    have h5 : (dsL (ds.map Di.nat)).length = 1 + ((ds.map Di.nat).flatMap ddL).length := by unfold dsL; rw [List.length_append, numL_len]
    rw [ddL_len] at hl
    unfold Di.nat at *
    dsimp only at *
    exact ⟨by dsimp only; omega, by dsimp only; omega, by dsimp only; omega, by dsimp only; omega, by dsimp only; omega, by dsimp only; omega, by dsimp only; omega, by dsimp only; omega, by dsimp only; omega⟩
  have e1 := takeE_lay (ds.map Di.nat) hsm (by rw [List.length_map]; omega) (by rw [List.length_map]; omega)
  have e2 : (ds.map Di.nat).map Dd.di = ds := by
    rw [List.map_map]
    conv => rhs; rw [← List.map_id ds]
    exact List.map_congr_left (fun d hd => (hfit d hd).back)
  exact ⟨e1, by rw [takeAllE_ok (by omega) e1, e2]; exact h3, e2⟩
theorem take_put {l : List UInt8} {ds : List Dd} (h : takeAllE l = 0) (ht : takeE l = .ok ds) : putAllE (ds.map Dd.di) = 0 ∧ dsL ((ds.map Dd.di).map Di.nat) = l := by
  obtain ⟨e1, ⟨h1, h2⟩, _⟩ := takeE_back ht
  have h18 : ¬ 1800 < l.length := by
    intro hx
    unfold takeAllE at h
    rw [if_pos hx] at h
    omega
  have hck := takeAllE_ok h18 ht
  rw [h] at hck
  rw [map_back]
  refine ⟨?_, e1.symm⟩
  unfold putAllE
  rw [List.length_map, if_neg (by omega), if_neg (by omega), if_neg (by rw [← hck]; simp), map_back, ← e1, if_neg h18]
theorem deeds_nil (w : World) : Deeds w (.slice none 0 0) [] := ⟨⟨none, 0, rfl⟩, fun h => absurd rfl h, fun p hp => by cases hp⟩
theorem diP_map (ps : List (Dd × Value)) : (ps.map diP).map (·.1) = (ps.map (·.1)).map Dd.di := by rw [List.map_map, List.map_map]; rfl

set_option maxHeartbeats 8000000 in
set_option maxRecDepth 100000 in
theorem walk_back (sv bv : Value) (ps : List (Di × Value)) (l : List UInt8) (w : World) (hd : Deeds w sv ps) (hlen : ps.length ≤ 9223372036854775807) (hb : Byz w bv l) (hl : l.length ≤ 9223372036854775807) (hT : Tabs w) :
    Calls Tryd.prog 7 #[sv, bv] w fun e w' => e = .returned (.bool true) ∧ Below w.heap.size w w' := by
  obtain ⟨sa, sc, rfl⟩ := hd.shape
  obtain ⟨ba, bc, rfl⟩ := hb.1
  have HT : Hid (∀ u, Below w.heap.size w u → Tabs u) := Lib.hid (fun u hu => hT.below hu (Nat.le_refl _))
  have HD : Hid (∀ u, Below w.heap.size w u → Deeds u (.slice sa ps.length sc) ps) := Lib.hid (fun u hu => hd.below hu)
  have HB : Hid (∀ u, Below w.heap.size w u → Byz u (.slice ba l.length bc) l) := Lib.hid (fun u hu => hb.below hu)
  have HL : Hid (∀ u, Below w.heap.size w u → Calls Tryd.prog 11 #[] u fun e w' => e = .returned (.bool true) ∧ Below w.heap.size w w') := Lib.hid (fun u hu => bel_bring hu (live_any u (HT.out u hu)))
  have HC1 := Lib.hid (putAll_any _ ps w hd hT)
  have HTB : Hid (∀ u, Below w.heap.size w u → Calls Tryd.prog 22 #[.slice ba l.length bc] u (TakeAllR l u)) := Lib.hid (fun u hu => takeAll_any u _ l (HB.out u hu) hl (HT.out u hu))
  have HLEN := Lib.hid hlen
  clear hd hb hT hl hlen
  go_enter Tryd.func7, Tryd.ntmps7
  go_wp2_with fail
  refine HC1.out.mono ?_
  rintro e w1 ⟨hb1, hor⟩
  clear HC1
  rcases hor with ⟨hk, rfl⟩ | ⟨hk, v1, rfl, hr⟩
  case' inl =>
    have HZ := Lib.hid hb1
    have e0 : (putAllE (ps.map (·.1)) == 0) = false := by rw [beq_eq_false_iff_ne]; exact hk
    generalize putAllE (ps.map (·.1)) = K at *
    clear hb1 hk HD HLEN
    go_wp2_with fail
  case' inr =>
    obtain ⟨h1, h2, h3⟩ := put_take hk
    have h18 := (putAllE_parts hk).2.2
    obtain ⟨Q, hQ⟩ : ∃ Q, (ps.map (·.1)).map Di.nat = Q := ⟨_, rfl⟩
    rw [hQ] at hr h1 h2 h3 h18
    obtain ⟨L, hL⟩ : ∃ L, dsL Q = L := ⟨_, rfl⟩
    rw [hL] at hr h1 h2 h18
    have HB1 := Lib.hid hb1
    have HC2 := Lib.hid (takeAll_any w1 v1 L hr.1.z (by omega) (HT.out w1 hb1))
    have H1 := Lib.hid h1
    have H2 := Lib.hid h2
    have H3 := Lib.hid h3
    obtain ⟨va, vc, rfl, _⟩ := hr.1.shape
    clear hk hb1 hr h1 h2 h3 h18 hQ hL
    go_wp2_with fail
    refine HC2.out.mono ?_
    rintro e w2 ⟨hb2, ⟨hx, _⟩ | ⟨_, qs, lv, ht, hds, rfl⟩⟩
    · exact absurd H2.out hx
    have hB2 := HB1.out.trans (hb2.mono HB1.out.size)
    rw [H1.out] at ht
    injection ht with ht
    have hsm := (takeE_back H1.out).2.2
    have hqd := hds.deeds (fun p hp => hsm _ (by rw [ht]; exact List.mem_map_of_mem hp))
    have hsame := sameAll_yes _ _ ps (qs.map diP) w2 (HD.out w2 hB2) hqd (by rw [diP_map, ← ht, H3.out]) HLEN.out
    have HS := Lib.hid hsame
    have HB2 := Lib.hid hB2
    obtain ⟨la, lc, rfl, _⟩ := owns_shape hds.own
    clear hb2 hB2 ht hds hsm hqd hsame H1 H2 H3 HC2 HB1 HD HLEN
    go_wp2_with fail
    refine HS.out.mono ?_
    rintro e w3 ⟨rfl, hb3⟩
    have HZ := Lib.hid (HB2.out.trans (hb3.mono HB2.out.size))
    clear hb3 HS HB2
    go_wp2_with fail
  all_goals
    refine (HTB.out _ HZ.out).mono ?_
    rintro e w5 ⟨hb5, hor⟩
    have hB5 := HZ.out.trans (hb5.mono HZ.out.size)
    rcases hor with ⟨hk, rfl⟩ | ⟨hk, qs, lv, ht, hds, rfl⟩
    · have HC5 := Lib.hid (putAll_any _ [] w5 (deeds_nil w5) (HT.out w5 hB5))
      have HB5 := Lib.hid hB5
      have hk' : (takeAllE l == 0) = false := by rw [beq_eq_false_iff_ne]; exact hk
      have hk2 : (takeAllE l != 0) = true := by rw [bne_iff_ne]; exact hk
      have hk3 : takeAllE l ≠ 0 := hk
      generalize takeAllE l = K5 at *
      clear hb5 hB5 hk HTB HZ
      go_wp2_with fail
      refine HC5.out.mono ?_
      rintro e w6 ⟨hb6, ⟨_, rfl⟩ | ⟨hx, _⟩⟩
      · have HB6 := Lib.hid (HB5.out.trans (hb6.mono HB5.out.size))
        rw [show putAllE (List.map (fun x => x.fst) ([] : List (Di × Value))) = 2 from rfl]
        clear hb6 HC5
        go_wp2_with fail
        refine (HL.out _ HB6.out).mono ?_
        rintro e w7 ⟨rfl, hb7⟩
        have HB7 := Lib.hid hb7
        clear hb7 HL
        go_wp2
        go_ret
        exact ⟨rfl, HB7.out⟩
      · exact absurd hx (by decide)
    · obtain ⟨p1, p2⟩ := take_put hk ht
      have hsm := (takeE_back ht).2.2
      have hqd := hds.deeds (fun p hp => hsm _ (List.mem_map_of_mem hp))
      have hC := putAll_any _ (qs.map diP) w5 hqd (HT.out w5 hB5)
      rw [diP_map] at hC
      have HC5 := Lib.hid hC
      have HB5 := Lib.hid hB5
      have P1 := Lib.hid p1
      have P2 := Lib.hid p2
      obtain ⟨la, lc, rfl, _⟩ := owns_shape hds.own
      clear hb5 hB5 hk ht hds hsm hqd hC p1 p2 HTB HZ
      go_wp2_with fail
      refine HC5.out.mono ?_
      rintro e w6 ⟨hb6, ⟨hx, _⟩ | ⟨_, v6, rfl, hr6⟩⟩
      · exact absurd P1.out hx
      rw [P2.out] at hr6
      have hB6 := HB5.out.trans (hb6.mono HB5.out.size)
      have HB6 := Lib.hid hB6
      have HR6 := Lib.hid hr6.1.z
      have HLV := Lib.hid (live_any w6 (HT.out w6 hB6))
      obtain ⟨va, vc, rfl, _⟩ := hr6.1.shape
      clear hb6 hB6 hr6 HC5 P1 P2 HB5
      go_wp2_with fail
      refine HLV.out.mono ?_
      rintro e w7 ⟨rfl, hb7⟩
      have hB7 := HB6.out.trans (hb7.mono HB6.out.size)
      have v1 := run_byz_string w7 _ _ 5 Tryd.underlying26 Tryd.underlying5 Tryd.underlying9 (HR6.out.below hb7)
      have v2 := run_byz_string w7 _ _ 5 Tryd.underlying26 Tryd.underlying5 Tryd.underlying9 (HB.out w7 hB7)
      have HB7 := Lib.hid hB7
      clear hb7 hB7 HLV HL HB6 HR6
      go_wp2
      go_ret
      exact ⟨ret_bool (by simp), HB7.out⟩
end Go.Proofs.YtjljbnilckkjnaaDoor
