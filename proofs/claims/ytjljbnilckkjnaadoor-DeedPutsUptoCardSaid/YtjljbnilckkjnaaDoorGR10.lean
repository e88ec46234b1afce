/- Deed: the document's PutAll. -/
import Derived.Test.YtjljbnilckkjnaaDoorGR8
import Derived.Test.YtjljbnilckkjnaaDoorGR6
import Derived.Test.YtjljbnilckkjnaaDoorG28
namespace Go.Proofs.YtjljbnilckkjnaaDoor
open Go Go.RowKit

set_option maxHeartbeats 8000000 in
set_option maxRecDepth 100000 in
theorem refPutAll (v : Value) (ps : List (Di × Value)) (w : World) (h : Deeds w v ps) (hsm : ∀ p ∈ ps, p.1.user.size + p.1.box.size + p.1.dest.size ≤ 1048576) (hT : Tabs w) :
    Calls Tryd.prog 21 #[v] w (PutAllR (ps.map (·.1)) w) := by
  obtain ⟨a, cap, rfl⟩ := h.shape
  have hln : (ps.map (·.1)).length = ps.length := List.length_map _
  by_cases h0 : ps.length = 0
  · have HF := Lib.hid (PutAllR.bad (ds := ps.map (·.1)) (k := 2) (w := w) (by decide) (by unfold putAllE; rw [hln, if_pos h0]) (Below.refl _ _))
    have e0 : ((ps.length : Int) == 0) = true := by rw [beq_iff_eq]; omega
    clear h hT hln h0 hsm
    go_enter Tryd.func21, Tryd.ntmps21
    go_wp2
    go_ret2
    exact HF.out
  have e0 : ((ps.length : Int) == 0) = false := by rw [beq_eq_false_iff_ne]; omega
  by_cases h12 : 12 < ps.length
  · have HF := Lib.hid (PutAllR.bad (ds := ps.map (·.1)) (k := 6) (w := w) (by decide) (by unfold putAllE; rw [hln, if_neg h0, if_pos h12]) (Below.refl _ _))
    have e1 : (12 : Int) < (ps.length : Int) := by omega
    clear h hT hln h0 h12 hsm
    go_enter Tryd.func21, Tryd.ntmps21
    go_wp2
    go_ret2
    exact HF.out
  have e1 : ¬ (12 : Int) < (ps.length : Int) := by omega
  obtain ⟨K, hK⟩ : ∃ K, ckAll (ps.map (·.1)) = K := ⟨_, rfl⟩
  obtain ⟨U, hU⟩ : ∃ U, dsL ((ps.map (·.1)).map Di.nat) = U := ⟨_, rfl⟩
  have hUU : numL 1 ps.length ++ (ps.map (·.1.nat)).flatMap ddL = U := by
    rw [← hU]
    unfold dsL
    rw [List.length_map, hln, List.map_map]
    rfl
  have HFITS : Hid (K = 0 → (∀ p ∈ ps, p.1.Fit) ∧ U.length ≤ 3000000) := Lib.hid (fun hk0 => by
    have hfits : ∀ p ∈ ps, p.1.Fit := fun p hp => ckDeed_fit (ckAll_all _ (hK.trans hk0) _ (List.mem_map_of_mem hp))
    refine ⟨hfits, ?_⟩
    have := flat_le ddL 200100 (ps.map (·.1.nat)) (fun x hx => by obtain ⟨p, hp, rfl⟩ := List.mem_map.1 hx; exact (hfits p hp).len)
    have h6 : (ps.map (·.1.nat)).length * 200100 ≤ 12 * 200100 := Nat.mul_le_mul_right _ (by rw [List.length_map]; omega)
    rw [← hUU, List.length_append, numL_len]
    omega)
  have HBADK : Hid (K ≠ 0 → ∀ u, Below w.heap.size w u → PutAllR (ps.map (·.1)) w (.returned (.tuple #[.slice none 0 0, .int .i64 K])) u) := Lib.hid (fun hk0 u hu => PutAllR.bad hk0 (by unfold putAllE; rw [hln, if_neg h0, if_neg h12, hK, if_pos hk0]) hu)
  have HBAD : Hid (K = 0 → 1800 < U.length → ∀ u, Below w.heap.size w u → PutAllR (ps.map (·.1)) w (.returned (.tuple #[.slice none 0 0, .int .i64 6])) u) := Lib.hid (fun hk0 hx u hu => PutAllR.bad (by decide) (by unfold putAllE; rw [hln, if_neg h0, if_neg h12, hK, if_neg (by rw [hk0]; simp), hU, if_pos hx]) hu)
  have HGOOD : Hid (K = 0 → ¬ 1800 < U.length → ∀ v u, Below w.heap.size w u → Row w.heap.size u v U → PutAllR (ps.map (·.1)) w (.returned (.tuple #[v, .int .i64 0])) u) := Lib.hid (fun hk0 hx v u hu hr => ⟨hu, Or.inr ⟨by unfold putAllE; rw [hln, if_neg h0, if_neg h12, hK, if_neg (by rw [hk0]; simp), hU, if_neg hx], v, rfl, by rw [hU]; exact hr⟩⟩)
  have HD := Lib.hid h
  have HT := Lib.hid hT
  have HSM := Lib.hid hsm
  have HUU := Lib.hid hUU
  have HK := Lib.hid hK
  have HI1 : ∀ cs : List Value, cs.length = 10 → Hid ((Tryd.prog.info? 28).map (·.size) = some cs.length) := fun cs h => Lib.hid (by rw [h]; kernel_rfl)
  have hne : ps ≠ [] := fun e => h0 (by rw [e]; rfl)
  have HNE := Lib.hid hne
  obtain ⟨g, off, cap', e, hgl, hc⟩ := h.cells hne
  injection e with ea _ ec
  subst ea
  subst ec
  have HCC := Lib.hid hc
  have HGL := Lib.hid hgl
  clear h hT hln hU hUU hsm hK hne hc hgl h0 h12
  go_enter Tryd.func21, Tryd.ntmps21
  go_wp2
  go_loopw [4] (fun iv wr => ∃ k : Nat, k ≤ ps.length ∧ iv = .int .i64 (k : Int) ∧ Hid (ckAll ((ps.map (·.1)).drop k) = K ∧ Below w.heap.size w wr)) (fun iv _ => ps.length - (intOf iv).toNat)
  case atStart => exact ⟨0, Nat.zero_le _, rfl, Lib.hid ⟨HK.out, Below.refl _ _⟩⟩
  case round =>
    clear HK
    obtain ⟨k, hk, rfl, hH⟩ := hrel
    obtain ⟨hgo, hb⟩ := hH.out
    by_cases hlt : k < ps.length
    · have hlt' : (k : Int) < (ps.length : Int) := by omega
      have hp := List.getElem?_eq_getElem hlt
      generalize ps[k] = p at hp
      have hmem := List.mem_of_getElem? hp
      obtain ⟨hz, hl, hs⟩ := HD.out.bytes p hmem
      have hsm := HSM.out p hmem
      obtain ⟨pa, pc, hpv⟩ := hz.1
      have hr := rangeAt_below (HCC.out k p hp) hb HGL.out
      rw [hpv] at hr hz
      have HR : Hid (wr.rangeAt g (off + k * 10) [.int .i64 p.1.act, .string p.1.user, .string p.1.box, .string p.1.dest, .int .i64 p.1.uid, .int .i64 p.1.how, .int .u8 (p.1.flags.toNat : Int), .int .i64 p.1.shard, .int .i64 p.1.epoch, .slice pa p.1.bytes.length pc]) := Lib.hid hr
      rw [drop_at9 (show (ps.map (·.1))[k]? = some p.1 by rw [List.getElem?_map, hp]; rfl), ckAll] at hgo
      have HGO := Lib.hid hgo
      have hC := refCheckD p.1 (.slice pa p.1.bytes.length pc) wr (hz.below hb) hl hs (by omega) (by omega) (HT.out.below hb (Nat.le_refl _))
      unfold diV diC at hC
      have HCK := Lib.hid hC
      have HBW := Lib.hid hb
      have HI3 := HI1 [.int .i64 p.1.act, .string p.1.user, .string p.1.box, .string p.1.dest, .int .i64 p.1.uid, .int .i64 p.1.how, .int .u8 (p.1.flags.toNat : Int), .int .i64 p.1.shard, .int .i64 p.1.epoch, .slice pa p.1.bytes.length pc] rfl
      clear hgo hb hp hz hpv hr hH hl hs hmem hsm hC
      go_wp2_with (first
        | (refine wpList_load_mid rfl 28 _ rfl g (off + k * 10) rfl _ _ HR.out Tryd.underlying28 rfl HI3.out ?_))
      refine HCK.out.mono ?_
      rintro e w2 ⟨rfl, hb2⟩
      have HB2 := Lib.hid (HBW.out.trans (hb2.mono HBW.out.size))
      clear hb2 HCK HI3 HR
      by_cases hk0 : ckDeed p.1 = 0
      · have hgo := HGO.out
        rw [if_pos hk0] at hgo
        have HG2 := Lib.hid hgo
        rw [hk0]
        clear hgo hk0 HGO
        go_wp2
        go_roundw
        case rel => exact ⟨k + 1, by omega, by go_num, Lib.hid ⟨HG2.out, HB2.out⟩⟩
        case measure => simp [intOf]; omega
      · have hgo := HGO.out
        rw [if_neg hk0] at hgo
        have hk1 : (ckDeed p.1 == 0) = false := by rw [beq_eq_false_iff_ne]; exact hk0
        have hk2 : (ckDeed p.1 != 0) = true := by rw [bne_iff_ne]; exact hk0
        rw [hgo] at hk0 hk1 hk2
        have HE := Lib.hid (HBADK.out hk0 w2 HB2.out)
        rw [hgo]
        clear hgo HGO hk0
        go_wp2
        go_ret2
        exact HE.out
    · have hlt' : ¬ (k : Int) < (ps.length : Int) := by omega
      rw [List.drop_of_length_le (by rw [List.length_map]; omega), ckAll] at hgo
      obtain ⟨hfits, hle⟩ := HFITS.out hgo.symm
      have HF2 := Lib.hid hfits
      have HK0 := Lib.hid hgo.symm
      obtain ⟨wo, rfl⟩ : ∃ wo, wo = wr := ⟨_, rfl⟩
      obtain ⟨W1, hW1⟩ : ∃ W1, wo.alloc (.cells #[.int .u8 (ps.length : Int)] 5) = W1 := ⟨_, rfl⟩
      have hb1 : Below wo.heap.size wo W1 := by rw [← hW1]; exact (Below.refl _ wo).alloc (Nat.le_refl _) _
      have hbw1 := hb.trans (hb1.mono hb.size)
      have hr1 : Row w.heap.size W1 (.slice (some ⟨wo.heap.size, 0, none⟩) 1 1) (numL 1 ps.length) := by
        rw [← hW1]
        have hm := Row.made wo 5 [UInt8.ofNat ps.length] #[.int .u8 (((UInt8.ofNat ps.length).toNat : Nat) : Int)] (by simp) hb.size (by unfold maxLen; simp)
        have hcc : (((UInt8.ofNat ps.length).toNat : Nat) : Int) = (ps.length : Int) := by simp; omega
        rw [hcc] at hm
        have hn : numL 1 ps.length = [UInt8.ofNat ps.length] := by simp [numL]
        rw [hn]
        exact hm
      have HW1 := Lib.hid hW1
      have HR1 := Lib.hid hr1
      have HB1 := Lib.hid hbw1
      have hpl : ps.length ≤ 12 := by omega
      clear hgo hb hH hW1 hb1 hbw1 hr1 hfits HFITS HBADK HSM
      go_wp2_with (first | rw [HW1.out])
      go_loopw [6, 7] (fun bv iv wr => ∃ (j : Nat) (l' : List UInt8), j ≤ ps.length ∧ iv = .int .i64 (j : Int) ∧ Hid (l' ++ ((ps.map (·.1.nat)).drop j).flatMap ddL = U ∧ Row w.heap.size wr bv l' ∧ Below w.heap.size w wr)) (fun _ iv _ => ps.length - (intOf iv).toNat)
      case atStart => exact ⟨0, _, Nat.zero_le _, rfl, Lib.hid ⟨by rw [← HUU.out, List.drop_zero], HR1.out, HB1.out⟩⟩
      case round =>
        clear HR1 HB1 HW1 HUU
        obtain ⟨j, l', hj, rfl, hH⟩ := hrel
        obtain ⟨hgo, hr, hb⟩ := hH.out
        by_cases hjt : j < ps.length
        · have hjt' : (j : Int) < (ps.length : Int) := by omega
          have hp := List.getElem?_eq_getElem hjt
          generalize ps[j] = p at hp
          have hmem := List.mem_of_getElem? hp
          obtain ⟨hz, _, _⟩ := HD.out.bytes p hmem
          have hfit := HF2.out p hmem
          obtain ⟨pa, pc, hpv⟩ := hz.1
          have hra := rangeAt_below (HCC.out j p hp) hb HGL.out
          rw [hpv] at hra hz
          have HR : Hid (wr.rangeAt g (off + j * 10) [.int .i64 p.1.act, .string p.1.user, .string p.1.box, .string p.1.dest, .int .i64 p.1.uid, .int .i64 p.1.how, .int .u8 (p.1.flags.toNat : Int), .int .i64 p.1.shard, .int .i64 p.1.epoch, .slice pa p.1.bytes.length pc]) := Lib.hid hra
          rw [drop_at9 (show (ps.map (·.1.nat))[j]? = some p.1.nat by rw [List.getElem?_map, hp]; rfl), List.flatMap_cons] at hgo
          have hll := len_ap (show (l' ++ ddL p.1.nat) ++ ((ps.map (·.1.nat)).drop (j + 1)).flatMap ddL = U by rw [← hgo, List.append_assoc])
          have hll1 : l'.length ≤ 3000000 := by rw [List.length_append] at hll; omega
          have HGO := Lib.hid hgo
          have hC := refBytes w.heap.size wr u6 l' p.1.nat (.slice pa p.1.bytes.length pc) hr hb.size hfit.lay (fun wx hx => hz.below (hb.trans hx)) (by omega)
          rw [ddV_di, hfit.back] at hC
          unfold diV diC at hC
          have HC := Lib.hid hC
          have HRY := Lib.hid hr
          have HBW := Lib.hid hb
          have HI3 := HI1 [.int .i64 p.1.act, .string p.1.user, .string p.1.box, .string p.1.dest, .int .i64 p.1.uid, .int .i64 p.1.how, .int .u8 (p.1.flags.toNat : Int), .int .i64 p.1.shard, .int .i64 p.1.epoch, .slice pa p.1.bytes.length pc] rfl
          clear hgo hr hb hp hz hpv hra hH hC hfit hmem hll
          go_wp2_with (first
            | (refine wpList_load_mid rfl 28 _ rfl g (off + j * 10) rfl _ _ HR.out Tryd.underlying28 rfl HI3.out ?_))
          refine HC.out.mono ?_
          rintro e w3 ⟨v3, rfl, hro, hg⟩
          have HREL := Lib.hid (And.intro hro (HBW.out.trans (hg.below HRY.out HBW.out.size)))
          clear hro hg HC HRY HBW HI3 HR
          go_wp2
          go_roundw
          case rel => exact ⟨j + 1, _, by omega, by go_num, Lib.hid ⟨by rw [← HGO.out]; simp only [List.append_assoc], HREL.out.1, HREL.out.2⟩⟩
          case measure => simp [intOf]; omega
        · have hjt' : ¬ (j : Int) < (ps.length : Int) := by omega
          rw [List.drop_of_length_le (by rw [List.length_map]; omega), List.flatMap_nil, List.append_nil] at hgo
          subst hgo
          have HROW := Lib.hid hr
          have HBB := Lib.hid hb
          obtain ⟨va, vc, rfl, _⟩ := hr.1.shape
          clear hr hb hH
          by_cases h18 : 1800 < l'.length
          · have HF := Lib.hid (HBAD.out HK0.out h18 _ HBB.out)
            have h18' : (1800 : Int) < (l'.length : Int) := by omega
            clear HROW HBB
            go_wp2
            go_ret2
            exact HF.out
          · have HF := Lib.hid (HGOOD.out HK0.out h18 _ _ HBB.out HROW.out)
            have h18' : ¬ (1800 : Int) < (l'.length : Int) := by omega
            clear HROW HBB
            go_wp2
            go_ret2
            exact HF.out
end Go.Proofs.YtjljbnilckkjnaaDoor
