/- Deed: DeedOwn: what was a byte is one, all else stands. -/
import Derived.Test.YtjljbnilckkjnaaDoorGM2
namespace Go.Proofs.YtjljbnilckkjnaaDoor
open Go Go.RowKit

/-- What was a byte is one; all else stands, and all that lies below N. -/
structure Sft (N : Nat) (w w' : World) : Prop where
  below : Below N w w'
  keep : ∀ p v, w.cell? p = some v → (∀ z, v ≠ .int .u8 z) → w'.cell? p = some v
  byte : ∀ p z, w.cell? p = some (.int .u8 z) → ∃ z', w'.cell? p = some (.int .u8 z')
  fz : ∀ p v, w.cell? p = some v → w'.frozen? p = w.frozen? p
theorem Sft.refl (N : Nat) (w : World) : Sft N w w := ⟨Below.refl _ _, fun _ _ h _ => h, fun _ z h => ⟨z, h⟩, fun _ _ _ => rfl⟩
theorem Sft.trans {N : Nat} {a b c : World} (h : Sft N a b) (k : Sft N b c) : Sft N a c := by
  refine ⟨h.below.trans k.below, fun p v hp hv => k.keep p v (h.keep p v hp hv) hv, fun p z hp => ?_, fun p v hp => ?_⟩
  · obtain ⟨z', h1⟩ := h.byte p z hp
    exact k.byte p z' h1
  · by_cases hv : ∃ z, v = .int .u8 z
    · obtain ⟨z, rfl⟩ := hv
      obtain ⟨z', h1⟩ := h.byte p z hp
      exact (k.fz p _ h1).trans (h.fz p _ hp)
    · exact (k.fz p v (h.keep p v hp (fun z e => hv ⟨z, e⟩))).trans (h.fz p _ hp)
theorem Sft.of_below {N : Nat} {w w' : World} (h : Below w.heap.size w w') (hN : N ≤ w.heap.size) : Sft N w w' :=
  ⟨h.mono hN, fun p v hp _ => (h.cell (World.block_lt_of_cell? w p hp)).trans hp, fun p z hp => ⟨z, (h.cell (World.block_lt_of_cell? w p hp)).trans hp⟩, fun p v hp => h.frozen (World.block_lt_of_cell? w p hp)⟩
theorem Sft.set {N : Nat} {w : World} {p : Addr} {z : Int} (h : w.cell? p = some (.int .u8 z)) (hN : N ≤ p.block) (y : Int) : Sft N w (w.setCell p (.int .u8 y)) := by
  refine ⟨(Below.refl _ _).setCell hN _, fun q v hq hv => ?_, fun q z' hq => ?_, fun q v hq => World.frozen?_setCell ..⟩
  · by_cases e : p = q
    · subst e
      rw [h] at hq
      injection hq with hq
      exact absurd hq.symm (hv z)
    · exact (World.cell?_setCell_other (h := e) ..).trans hq
  · by_cases e : p = q
    · subst e
      exact ⟨y, World.cell?_setCell_same _ _ _ h⟩
    · exact ⟨z', (World.cell?_setCell_other (h := e) ..).trans hq⟩
theorem Sft.size {N : Nat} {w w' : World} (h : Sft N w w') : w.heap.size ≤ w'.heap.size := h.below.size

/-- n bytes that may be turned, from block N on. -/
def SoftB (N : Nat) (w : World) (v : Value) (m : Nat) : Prop := ∃ a c, v = .slice a m c ∧ m ≤ 1000000 ∧ (0 < m → ∃ g o, a = some ⟨g, o, none⟩ ∧ N ≤ g ∧ ∀ k, k < m → (∃ z, w.cell? ⟨g, o + k, none⟩ = some (.int .u8 z)) ∧ w.frozen? ⟨g, o + k, none⟩ = false)
theorem SoftB.sft {N : Nat} {w w' : World} {v : Value} {m : Nat} (h : SoftB N w v m) (hs : Sft N w w') : SoftB N w' v m := by
  obtain ⟨a, c, rfl, hm, h⟩ := h
  refine ⟨a, c, rfl, hm, fun h0 => ?_⟩
  obtain ⟨g, o, rfl, hN, hk⟩ := h h0
  refine ⟨g, o, rfl, hN, fun k hkm => ?_⟩
  obtain ⟨⟨z, h1⟩, h2⟩ := hk k hkm
  exact ⟨hs.byte _ z h1, (hs.fz _ _ h1).trans h2⟩
theorem soft_row {N : Nat} {w : World} {v : Value} {l : List UInt8} (h : Row N w v l) (hl : l.length ≤ 1000000) : SoftB N w v l.length := by
  obtain ⟨⟨a, cap, rfl, h2, h3, h4⟩, hr⟩ := h
  refine ⟨a, cap, rfl, hl, fun hn => ?_⟩
  cases a with
  | none => have := h3 rfl; omega
  | some ad =>
    obtain ⟨g, off, rfl, hg, hc⟩ := h4 ad rfl
    obtain ⟨hB, _, hf⟩ := hr _ _ _ rfl
    exact ⟨g, off, rfl, hB, fun k hk => ⟨⟨_, hc k hk⟩, (hf k (by omega)).2⟩⟩
/-- Deeds whose bytes may be turned. -/
def SoftD (N : Nat) (w : World) (v : Value) (n : Nat) : Prop := ∃ a c, v = .slice a n c ∧ n ≤ 12 ∧ (0 < n → ∃ g o, a = some ⟨g, o, none⟩ ∧ ∀ j, j < n → ∃ bv m, w.cell? ⟨g, o + j * 10 + 9, none⟩ = some bv ∧ SoftB N w bv m)
theorem SoftD.sft {N : Nat} {w w' : World} {v : Value} {n : Nat} (h : SoftD N w v n) (hs : Sft N w w') : SoftD N w' v n := by
  obtain ⟨a, c, rfl, hn, h⟩ := h
  refine ⟨a, c, rfl, hn, fun h0 => ?_⟩
  obtain ⟨g, o, rfl, hj⟩ := h h0
  refine ⟨g, o, rfl, fun j hjn => ?_⟩
  obtain ⟨bv, m, h3, h4⟩ := hj j hjn
  have hbv : ∀ z, bv ≠ .int .u8 z := fun z e => by
    obtain ⟨a', c', e', _⟩ := h4
    rw [e'] at e
    cases e
  exact ⟨bv, m, hs.keep _ _ h3 hbv, h4.sft hs⟩
theorem soft_ds {N : Nat} {w : World} {v : Value} {ps : List (Dd × Value)} (h : DsAt N w v ps) (hn : ps.length ≤ 12) (hs : ∀ p ∈ ps, p.1.Small) : SoftD N w v ps.length := by
  have ho := h.own
  obtain ⟨a, c, e, _⟩ := owns_shape ho
  refine ⟨a, c, e, hn, fun h0 => ?_⟩
  rcases ho.2 with ⟨_, h1⟩ | ⟨g, cap, cur, e2, _, hg, _⟩
  · omega
  · rw [e] at e2
    injection e2 with ea _ _
    subst ea
    refine ⟨g, 0, rfl, fun j hj => ?_⟩
    have hp := List.getElem?_eq_getElem hj
    generalize ps[j] = p at hp
    have hm := List.mem_of_getElem? hp
    have := World.ownsRow.cells ho (g := g) (by rw [e]; rfl) _ p.2 (flat_at cellsDd 10 ps j (fun _ _ => rfl) p hp 9 p.2 rfl)
    rw [addr_plus] at this
    refine ⟨p.2, p.1.bytes.length, by rw [Nat.add_assoc]; exact this, soft_row (h.rows p hm) (by have := (hs p hm).bytes; omega)⟩

set_option maxHeartbeats 8000000 in
set_option maxRecDepth 100000 in
theorem walk_own (sv : Value) (ps : List (Di × Value)) (w : World) (hd : Deeds w sv ps) (hT : Tabs w) :
    Calls Tryd.prog 10 #[sv] w fun e w' => e = .returned (.bool true) ∧ Below w.heap.size w w' := by
  obtain ⟨sa, sc, rfl⟩ := hd.shape
  have HT : Hid (∀ u, Below w.heap.size w u → Tabs u) := Lib.hid (fun u hu => hT.below hu (Nat.le_refl _))
  have HP : Hid (∀ u, Below w.heap.size w u → Calls Tryd.prog 20 #[.slice sa ps.length sc] u (PutAllR (ps.map (·.1)) u)) := Lib.hid (fun u hu => putAll_any _ ps u (hd.below hu) (HT.out u hu))
  have HC1 := Lib.hid (HP.out w (Below.refl _ _))
  obtain ⟨DS, hDS⟩ : ∃ DS, ps.map (·.1) = DS := ⟨_, rfl⟩
  rw [hDS] at HC1 HP
  clear hd hT hDS
  go_enter Tryd.func10, Tryd.ntmps10
  go_wp2_with fail
  refine HC1.out.mono ?_
  rintro e w1 ⟨hb1, hor⟩
  clear HC1
  rcases hor with ⟨hk, rfl⟩ | ⟨hk, v1, rfl, hr⟩
  · have HB1 := Lib.hid hb1
    have e0 : (putAllE DS == 0) = false := by rw [beq_eq_false_iff_ne]; exact hk
    have e1 : (putAllE DS != 0) = true := by rw [bne_iff_ne]; exact hk
    have HLV := Lib.hid (live_any w1 (HT.out w1 hb1))
    generalize putAllE DS = K at *
    clear hb1 hk HT HP
    go_wp2_with fail
    refine HLV.out.mono ?_
    rintro e w2 ⟨rfl, hb2⟩
    have HB2 := Lib.hid (HB1.out.trans (hb2.mono HB1.out.size))
    clear hb2 HLV
    go_wp2
    go_ret
    exact ⟨rfl, HB2.out⟩
  obtain ⟨h1, h2, -⟩ := put_take hk
  have h18 := (putAllE_parts hk).2.2
  have HK := Lib.hid hk
  obtain ⟨Q, hQ⟩ : ∃ Q, DS.map Di.nat = Q := ⟨_, rfl⟩
  rw [hQ] at hr h1 h2 h18
  obtain ⟨L, hL⟩ : ∃ L, dsL Q = L := ⟨_, rfl⟩
  rw [hL] at hr h1 h2 h18
  have HQL : Hid (dsL (DS.map Di.nat) = L) := Lib.hid (by rw [hQ, hL])
  have HB1 := Lib.hid hb1
  have HC2 := Lib.hid (takeAll_any w1 v1 L hr.1.z (by omega) (HT.out w1 hb1))
  have H1 := Lib.hid h1
  have H2 := Lib.hid h2
  have HR := Lib.hid hr
  have cv := run_byz_string w1 _ _ 5 Tryd.underlying26 Tryd.underlying5 Tryd.underlying9 hr.1.z
  obtain ⟨va, vc, rfl, _⟩ := hr.1.shape
  clear hk hb1 hr h1 h2 hL hQ
  go_wp2_with fail
  refine HC2.out.mono ?_
  rintro e w2 ⟨hb2, ⟨hx, _⟩ | ⟨_, qs, lv, ht, hds, rfl⟩⟩
  · exact absurd H2.out hx
  rw [H1.out] at ht
  injection ht with ht
  obtain ⟨-, ⟨-, hq12⟩, hsm⟩ := takeE_back H1.out
  rw [ht, List.length_map] at hq12
  have hsd := soft_ds hds hq12 (fun p hp => hsm _ (by rw [ht]; exact List.mem_map_of_mem hp))
  have HSD := Lib.hid hsd
  have HB2 := Lib.hid hb2
  obtain ⟨la, lc, e, hn12, _⟩ := id hsd
  subst e
  clear hb2 ht hds hsm hsd HC2 H1 H2 cv hq12
  go_wp2_with fail
  go_loopw [8] (fun i wr => ∃ j : Nat, j ≤ qs.length ∧ i = .int .i64 j ∧ Sft w1.heap.size w2 wr) (fun i _ => qs.length - (intOf i).toNat)
  case atStart => exact ⟨0, Nat.zero_le _, rfl, Sft.refl _ _⟩
  case round =>
    obtain ⟨j, hj, rfl, hs⟩ := hrel
    have HS := Lib.hid hs
    by_cases hjl : j < qs.length
    · have hjl' : (j : Int) < (qs.length : Int) := by omega
      obtain ⟨a', c', e, _, hcells⟩ := HSD.out.sft hs
      cases e
      obtain ⟨g, o, rfl, hat⟩ := hcells (by omega)
      obtain ⟨bv, m, f3, hsb⟩ := hat j hjl
      have HSB := Lib.hid hsb
      obtain ⟨ba, bc, hbv, hmb, _⟩ := id hsb
      subst hbv
      have F3 := Lib.hid f3
      clear hcells hat hsb hs
      go_wp2_with fail
      obtain ⟨w6, rfl⟩ : ∃ w6 : World, w6 = wr := ⟨_, rfl⟩
      clear f3
      go_loopw [9] (fun i wr => ∃ l : Nat, l ≤ m ∧ i = .int .i64 l ∧ Sft w1.heap.size w6 wr) (fun i _ => m - (intOf i).toNat)
      case atStart => exact ⟨0, Nat.zero_le _, rfl, Sft.refl _ _⟩
      case round =>
        obtain ⟨l, hl, rfl, hsl⟩ := hrel
        have f3 := hsl.keep _ _ F3.out (fun z e => by cases e)
        obtain ⟨ba', bc', he, _, hby⟩ := HSB.out.sft hsl
        cases he
        have HSL := Lib.hid hsl
        clear hsl
        by_cases hll : l < m
        · obtain ⟨gb, ob, rfl, hNb, hbt⟩ := hby (by omega)
          obtain ⟨⟨zb, x1⟩, x2⟩ := hbt l hll
          have hl1 : (l : Int) < (m : Int) := by omega
          have HSN := Lib.hid (HSL.out.trans (Sft.set x1 hNb (bits .xor .u8 zb 1)))
          clear hby hbt
          go_wp2
          go_roundw
          case rel => exact ⟨l + 1, by omega, by go_num, HSN.out⟩
          case measure => simp [intOf]; omega
        · have hl1 : ¬ (l : Int) < (m : Int) := by omega
          have HSN := Lib.hid (HS.out.trans HSL.out)
          clear hby
          go_wp2
          go_roundw
          case rel => exact ⟨j + 1, by omega, by go_num, HSN.out⟩
          case measure => simp [intOf]; omega
    · have hjl' : ¬ (j : Int) < (qs.length : Int) := by omega
      have hB3 := HB2.out.trans hs.below
      have HB3 := Lib.hid hB3
      have cv := run_byz_string wr _ _ 5 Tryd.underlying26 Tryd.underlying5 Tryd.underlying9 (HR.out.1.z.below hB3)
      have HV : Hid (SoftB w.heap.size wr (.slice va L.length vc) L.length) := Lib.hid (soft_row (HR.out.below hB3) (by omega))
      have hBW := HB1.out.trans (hB3.mono HB1.out.size)
      have HBW := Lib.hid hBW
      clear hs hB3 hBW HS
      go_wp2_with fail
      obtain ⟨w7, rfl⟩ : ∃ w7 : World, w7 = wr := ⟨_, rfl⟩
      clear cv
      go_loopw [10] (fun i wr => ∃ l : Nat, l ≤ L.length ∧ i = .int .i64 l ∧ Sft w.heap.size w7 wr) (fun i _ => L.length - (intOf i).toNat)
      case atStart => exact ⟨0, Nat.zero_le _, rfl, Sft.refl _ _⟩
      case round =>
        obtain ⟨l, hl, rfl, hsl⟩ := hrel
        obtain ⟨ba', bc', he, _, hby⟩ := HV.out.sft hsl
        cases he
        have HSL := Lib.hid hsl
        clear hsl
        by_cases hll : l < L.length
        · obtain ⟨gb, ob, rfl, hNb, hbt⟩ := hby (by omega)
          obtain ⟨⟨zb, x1⟩, x2⟩ := hbt l hll
          have hl1 : (l : Int) < (L.length : Int) := by omega
          have HSN := Lib.hid (HSL.out.trans (Sft.set x1 hNb (bits .xor .u8 zb 1)))
          clear hby hbt
          go_wp2
          go_roundw
          case rel => exact ⟨l + 1, by omega, by go_num, HSN.out⟩
          case measure => simp [intOf]; omega
        · have hl1 : ¬ (l : Int) < (L.length : Int) := by omega
          have hB8 := HBW.out.trans HSL.out.below
          have HB8 := Lib.hid hB8
          have HC8 := Lib.hid (HP.out wr hB8)
          clear hby hB8
          go_wp2_with fail
          refine HC8.out.mono ?_
          rintro e w9 ⟨hb9, ⟨hx, _⟩ | ⟨_, v9, rfl, hr9⟩⟩
          · exact absurd HK.out hx
          rw [HQL.out] at hr9
          have hB9 := HB8.out.trans (hb9.mono HB8.out.size)
          have HB9 := Lib.hid hB9
          have HLV := Lib.hid (live_any w9 (HT.out w9 hB9))
          have HR9 := Lib.hid hr9.1.z
          obtain ⟨xa, xc, rfl, _⟩ := hr9.1.shape
          clear hb9 hr9 hB9 HC8
          go_wp2_with fail
          refine HLV.out.mono ?_
          rintro e w10 ⟨rfl, hb10⟩
          have cv := run_byz_string w10 _ _ 5 Tryd.underlying26 Tryd.underlying5 Tryd.underlying9 (HR9.out.below hb10)
          have HB10 := Lib.hid (HB9.out.trans (hb10.mono HB9.out.size))
          clear hb10 HLV HR9
          go_wp2
          go_ret
          exact ⟨ret_bool (by simp), HB10.out⟩
end Go.Proofs.YtjljbnilckkjnaaDoor
