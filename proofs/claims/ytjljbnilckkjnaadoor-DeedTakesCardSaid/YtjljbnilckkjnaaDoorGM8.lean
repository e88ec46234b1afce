/- Deed: DeedTakes. -/
import Derived.Test.YtjljbnilckkjnaaDoorGR12
import Derived.Test.YtjljbnilckkjnaaDoorGM4
namespace Go.Proofs.YtjljbnilckkjnaaDoor
open Go Go.RowKit

/-- The deeds that bytes tell; else none. -/
def dsT (l : List UInt8) : List Di := match takeE l with
  | .ok ds => if takeAllE l = 0 then ds.map Dd.di else []
  | .error _ => []
theorem dsT_no {l : List UInt8} (h : takeAllE l ≠ 0) : dsT l = [] := by
  unfold dsT
  cases takeE l with
  | error k => rfl
  | ok u => simp only [if_neg h]
theorem dsT_yes {l : List UInt8} {ds : List Dd} (h : takeAllE l = 0) (ht : takeE l = .ok ds) : dsT l = ds.map Dd.di := by
  unfold dsT
  rw [ht]
  simp only [if_pos h]
/-- TakeAll, in one form. -/
def TakeAX (l : List UInt8) (w : World) (e : Ending) (w' : World) : Prop := ∃ sv ps, e = .returned (.tuple #[sv, .int .i64 (takeAllE l)]) ∧ Deeds w' sv ps ∧ ps.map (·.1) = dsT l ∧ ps.length ≤ 12 ∧ Below w.heap.size w w'
theorem takeA_one {l : List UInt8} {w w' : World} {e : Ending} (h : TakeAllR l w e w') : TakeAX l w e w' := by
  obtain ⟨hb, ⟨hk, rfl⟩ | ⟨hk, ps, lv, ht, hds, rfl⟩⟩ := h
  · exact ⟨_, [], rfl, deeds_nil _, by rw [dsT_no hk]; rfl, Nat.zero_le _, hb⟩
  · obtain ⟨-, ⟨-, h12⟩, hsm⟩ := takeE_back ht
    rw [List.length_map] at h12
    refine ⟨lv, ps.map diP, by rw [hk], hds.deeds (fun p hp => hsm _ (List.mem_map_of_mem hp)), ?_, by rw [List.length_map]; omega, hb⟩
    rw [dsT_yes hk ht, List.map_map, List.map_map]
    rfl
set_option maxHeartbeats 8000000 in
set_option maxRecDepth 100000 in
theorem walk_takes (bv : Value) (l : List UInt8) (w : World) (hb : Byz w bv l) (hl : l.length ≤ 9223372036854775807) (hT : Tabs w) :
    Calls Tryd.prog 6 #[bv] w fun e w' => e = .returned (.bool true) ∧ Below w.heap.size w w' := by
  obtain ⟨ba, bc, rfl⟩ := hb.1
  have HT : Hid (∀ u, Below w.heap.size w u → Tabs u) := Lib.hid (fun u hu => hT.below hu (Nat.le_refl _))
  have HP : Hid (∀ u, Below w.heap.size w u → Calls Tryd.prog 22 #[.slice ba l.length bc] u (TakeAX l u)) := Lib.hid (fun u hu => (takeAll_any u _ l (hb.below hu) hl (HT.out u hu)).mono fun _ _ h => takeA_one h)
  have HQ : Hid (∀ u, Below w.heap.size w u → Calls Tryd.prog 23 #[.slice ba l.length bc] u (TakeAX l u)) := Lib.hid (fun u hu => (refTakeAll u _ l (hb.below hu) hl (HT.out u hu)).mono fun _ _ h => takeA_one h)
  unfold TakeAX at HP HQ
  obtain ⟨E, hE⟩ : ∃ E, takeAllE l = E := ⟨_, rfl⟩
  obtain ⟨D, hD⟩ : ∃ D, dsT l = D := ⟨_, rfl⟩
  rw [hD, hE] at HP HQ
  clear hb hT hD hE
  go_enter Tryd.func6, Tryd.ntmps6
  go_wp2_with fail
  refine (HP.out w (Below.refl _ _)).mono ?_
  rintro e w1 ⟨v1, ps, rfl, hd1, hm1, hl1, hb1⟩
  obtain ⟨ca, cc, rfl⟩ := hd1.shape
  have HD1 := Lib.hid hd1
  have HB1 := Lib.hid hb1
  have HM1 := Lib.hid hm1
  clear hd1 hb1 hm1 HP
  go_wp2_with fail
  refine (HQ.out w1 HB1.out).mono ?_
  rintro e w2 ⟨v2, qs, rfl, hd2, hm2, hl2, hb2⟩
  obtain ⟨da, dc, rfl⟩ := hd2.shape
  have hB2 := HB1.out.trans (hb2.mono HB1.out.size)
  have HB2 := Lib.hid hB2
  have HD3 := Lib.hid (HD1.out.below hb2)
  have HD2 := Lib.hid hd2
  have HE := Lib.hid (show ps.map (·.1) = qs.map (·.1) by rw [HM1.out, hm2])
  have HLV := Lib.hid (live_any w2 (HT.out w2 hB2))
  clear hd2 hb2 hB2 hm2 HQ HB1 HD1 HM1
  go_wp2_with fail
  refine HLV.out.mono ?_
  rintro e w3 ⟨rfl, hb3⟩
  have HB3 := Lib.hid (HB2.out.trans (hb3.mono HB2.out.size))
  have HS := Lib.hid (sameAll_yes _ _ ps qs w3 (HD3.out.below hb3) (HD2.out.below hb3) HE.out (by omega))
  clear hb3 HLV HD3 HD2 HB2 HE
  go_wp2_with fail
  refine HS.out.mono ?_
  rintro e w4 ⟨rfl, hb4⟩
  have HB4 := Lib.hid (HB3.out.trans (hb4.mono HB3.out.size))
  clear hb4 HS HB3
  go_wp2
  go_ret
  exact ⟨ret_bool (by simp), HB4.out⟩
end Go.Proofs.YtjljbnilckkjnaaDoor
