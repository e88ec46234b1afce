/- Deed: checkAll, TakeAll, PutAll. -/
import Derived.Test.YtjljbnilckkjnaaDoorG25
import Derived.Deep.MidRow
import Derived.Test.YtjljbnilckkjnaaDoorGQ1
namespace Go.Proofs.YtjljbnilckkjnaaDoor
open Go Go.RowKit

def diS (d : Di) (pv : Value) : List Value := [.int .i64 d.act, .string d.user, .string d.box, .string d.dest, .int .i64 d.uid, .int .i64 d.how, .int .u8 (d.flags.toNat : Int), .int .i64 d.shard, .int .i64 d.epoch, pv]
/-- The slice v reads as the deeds ps. -/
structure Deeds (w : World) (v : Value) (ps : List (Di × Value)) : Prop where
  shape : ∃ a cap, v = .slice a ps.length cap
  cells : ps ≠ [] → ∃ g off cap, v = .slice (some ⟨g, off, none⟩) ps.length cap ∧ g < w.heap.size ∧ ∀ i p, ps[i]? = some p → w.rangeAt g (off + i * 10) (diS p.1 p.2)
  bytes : ∀ p ∈ ps, Byz w p.2 p.1.bytes ∧ p.1.bytes.length ≤ 9223372036854775807 ∧ p.1.user.size ≤ 9223372036854775807
theorem rangeAt_below {w w' : World} {B g o : Nat} {cs : List Value} (h : w.rangeAt g o cs) (hb : Below B w w') (hg : g < B) : w'.rangeAt g o cs := fun j v hv => (hb.cell (p := ⟨g, o + j, none⟩) hg).trans (h j v hv)
theorem Deeds.below {w w' : World} {v : Value} {ps : List (Di × Value)} (h : Deeds w v ps) (hb : Below w.heap.size w w') : Deeds w' v ps := by
  refine ⟨h.shape, fun hne => ?_, fun p hp => ⟨(h.bytes p hp).1.below hb, (h.bytes p hp).2⟩⟩
  obtain ⟨g, off, cap, e, hg, hc⟩ := h.cells hne
  exact ⟨g, off, cap, e, Nat.lt_of_lt_of_le hg hb.size, fun i p hi => rangeAt_below (hc i p hi) hb hg⟩
def ckAll : List Di → Int
  | [] => 0
  | d :: t => if ckDeed d = 0 then ckAll t else ckDeed d
theorem ckAll_all : ∀ l : List Di, ckAll l = 0 → ∀ d ∈ l, ckDeed d = 0
  | [], _, d, hd => by cases hd
  | x :: t, h, d, hd => by
    unfold ckAll at h
    by_cases hx : ckDeed x = 0
    · rw [if_pos hx] at h
      rcases List.mem_cons.1 hd with rfl | hd
      · exact hx
      · exact ckAll_all t h d hd
    · rw [if_neg hx] at h; exact absurd h hx
set_option maxHeartbeats 4000000 in
set_option maxRecDepth 100000 in
theorem checkAll_any (v : Value) (ps : List (Di × Value)) (w : World) (h : Deeds w v ps) (hlen : ps.length ≤ 9223372036854775807) (hT : Tabs w) :
    Calls Tryd.prog 41 #[v] w fun e w' => e = .returned (.int .i64 (ckAll (ps.map (·.1)))) ∧ Below w.heap.size w w' := by
  obtain ⟨a, cap, rfl⟩ := h.shape
  obtain ⟨E, hE⟩ : ∃ E, ckAll (ps.map (·.1)) = E := ⟨_, rfl⟩
  rw [hE]
  have HD := Lib.hid h
  have HT := Lib.hid hT
  have HE := Lib.hid hE
  have HI1 : ∀ cs : List Value, cs.length = 10 → Hid ((Tryd.prog.info? 28).map (·.size) = some cs.length) := fun cs h => Lib.hid (by rw [h]; kernel_rfl)
  clear h hT hE
  go_enter Tryd.func41, Tryd.ntmps41
  go_wp2
  go_loopw [8] (fun iv wr => ∃ k : Nat, k ≤ ps.length ∧ iv = .int .i64 (k : Int) ∧ Hid (ckAll ((ps.map (·.1)).drop k) = E ∧ Below w.heap.size w wr)) (fun iv _ => ps.length - (intOf iv).toNat)
  case atStart => exact ⟨0, Nat.zero_le _, rfl, Lib.hid ⟨HE.out, Below.refl _ _⟩⟩
  case round =>
    clear HE
    obtain ⟨k, hk, rfl, hH⟩ := hrel
    obtain ⟨hgo, hb⟩ := hH.out
    by_cases hlt : k < ps.length
    · have hlt' : (k : Int) < (ps.length : Int) := by omega
      have hp := List.getElem?_eq_getElem hlt
      generalize ps[k] = p at hp
      obtain ⟨g, off, cap', e, hg, hc⟩ := HD.out.cells (fun e => by subst e; simp at hlt)
      injection e with ea _ ec
      subst ea
      subst ec
      obtain ⟨hz, hl, hs⟩ := HD.out.bytes p (List.mem_of_getElem? hp)
      obtain ⟨pa, pc, hpv⟩ := hz.1
      have hr := rangeAt_below (hc k p hp) hb hg
      rw [hpv] at hr hz
      have HR : Hid (wr.rangeAt g (off + k * 10) [.int .i64 p.1.act, .string p.1.user, .string p.1.box, .string p.1.dest, .int .i64 p.1.uid, .int .i64 p.1.how, .int .u8 (p.1.flags.toNat : Int), .int .i64 p.1.shard, .int .i64 p.1.epoch, .slice pa p.1.bytes.length pc]) := Lib.hid hr
      rw [drop_at9 (show (ps.map (·.1))[k]? = some p.1 by rw [List.getElem?_map, hp]; rfl), ckAll] at hgo
      have HGO := Lib.hid hgo
      obtain ⟨w1, hw1⟩ : ∃ w1, w1 = (wr.alloc (.cells #[.int .i64 0, .string ⟨#[]⟩, .string ⟨#[]⟩, .string ⟨#[]⟩, .int .i64 0, .int .i64 0, .int .u8 0, .int .i64 0, .int .i64 0, .slice none 0 0] 28)).setRow wr.heap.size #[.int .i64 p.1.act, .string p.1.user, .string p.1.box, .string p.1.dest, .int .i64 p.1.uid, .int .i64 p.1.how, .int .u8 (p.1.flags.toNat : Int), .int .i64 p.1.shard, .int .i64 p.1.epoch, .slice pa p.1.bytes.length pc] := ⟨_, rfl⟩
      have hrow0 : (wr.alloc (.cells #[.int .i64 0, .string ⟨#[]⟩, .string ⟨#[]⟩, .string ⟨#[]⟩, .int .i64 0, .int .i64 0, .int .u8 0, .int .i64 0, .int .i64 0, .slice none 0 0] 28)).heap[wr.heap.size]? = some (.cells #[.int .i64 0, .string ⟨#[]⟩, .string ⟨#[]⟩, .string ⟨#[]⟩, .int .i64 0, .int .i64 0, .int .u8 0, .int .i64 0, .int .i64 0, .slice none 0 0] 28 (0, 0)) := heap_alloc_new wr _
      have hrow1 : w1.heap[wr.heap.size]? = some (.cells #[.int .i64 p.1.act, .string p.1.user, .string p.1.box, .string p.1.dest, .int .i64 p.1.uid, .int .i64 p.1.how, .int .u8 (p.1.flags.toNat : Int), .int .i64 p.1.shard, .int .i64 p.1.epoch, .slice pa p.1.bytes.length pc] 28 (0, 0)) := by rw [hw1]; exact setRow_heap _ _ _ _ _ _ hrow0
      have hb1 : Below wr.heap.size wr w1 := by
        have hb0 : Below wr.heap.size wr (wr.alloc (.cells #[.int .i64 0, .string ⟨#[]⟩, .string ⟨#[]⟩, .string ⟨#[]⟩, .int .i64 0, .int .i64 0, .int .u8 0, .int .i64 0, .int .i64 0, .slice none 0 0] 28)) := (Below.refl _ wr).alloc (Nat.le_refl _) _
        rw [hw1]
        exact ⟨hb0.os, hb0.tape, hb0.output, by rw [setRow_size]; exact hb0.size, fun k hk => (setRow_other _ _ _ _ (by omega)).trans (hb0.block k hk)⟩
      have hbw : Below w.heap.size w w1 := hb.trans (hb1.mono hb.size)
      have HCK := Lib.hid (check_deed p.1 (.slice pa p.1.bytes.length pc) w1 (hz.below hbw) hl hs (HT.out.below hbw (Nat.le_refl _)))
      have HBW := Lib.hid hbw
      have HROW0 := Lib.hid hrow0
      have HROW1 := Lib.hid hrow1
      have HW1 := Lib.hid hw1
      have HI2 : Hid ((#[.int .i64 p.1.act, .string p.1.user, .string p.1.box, .string p.1.dest, .int .i64 p.1.uid, .int .i64 p.1.how, .int .u8 (p.1.flags.toNat : Int), .int .i64 p.1.shard, .int .i64 p.1.epoch, .slice pa p.1.bytes.length pc] : Array Value).all (·.oneCell') = true) := Lib.hid (by rw [Array.all_eq_true_iff_forall_mem]; intro u hu; simp only [List.mem_toArray, List.mem_cons, List.not_mem_nil, or_false] at hu; rcases hu with rfl | rfl | rfl | rfl | rfl | rfl | rfl | rfl | rfl | rfl <;> rfl)
      have HI3 := HI1 [.int .i64 p.1.act, .string p.1.user, .string p.1.box, .string p.1.dest, .int .i64 p.1.uid, .int .i64 p.1.how, .int .u8 (p.1.flags.toNat : Int), .int .i64 p.1.shard, .int .i64 p.1.epoch, .slice pa p.1.bytes.length pc] rfl
      have HI4 : Hid ((Tryd.prog.info? 28).map (·.size) = some (#[.int .i64 p.1.act, .string p.1.user, .string p.1.box, .string p.1.dest, .int .i64 p.1.uid, .int .i64 p.1.how, .int .u8 (p.1.flags.toNat : Int), .int .i64 p.1.shard, .int .i64 p.1.epoch, .slice pa p.1.bytes.length pc] : Array Value).size) := Lib.hid (HI1 [.int .i64 p.1.act, .string p.1.user, .string p.1.box, .string p.1.dest, .int .i64 p.1.uid, .int .i64 p.1.how, .int .u8 (p.1.flags.toNat : Int), .int .i64 p.1.shard, .int .i64 p.1.epoch, .slice pa p.1.bytes.length pc] rfl).out
      clear hgo hb hp hc hz hpv hr hw1 hrow0 hrow1 hb1 hbw hH hl hs hg
      go_wp2_with (first
        | (refine wpList_load_mid rfl 28 _ rfl g (off + k * 10) rfl _ _ HR.out Tryd.underlying28 rfl HI3.out ?_)
        | (refine wpList_store_row rfl 28 _ _ rfl wr.heap.size _ rfl rfl 28 _ HROW0.out HI4.out rfl HI2.out ?_; rw [← HW1.out])
        | (refine wpList_load_row rfl 28 _ rfl wr.heap.size rfl 28 _ (0, 0) _ HROW1.out Tryd.underlying28 rfl (by kernel_rfl) ?_))
      refine HCK.out.mono ?_
      rintro e w2 ⟨rfl, hb2⟩
      have HB2 := Lib.hid (HBW.out.trans (hb2.mono HBW.out.size))
      clear hb2 HCK HROW0 HROW1 HW1 HI2 HI3 HI4 HR
      by_cases hk0 : ckDeed p.1 = 0
      · have hgo := HGO.out
        rw [if_pos hk0] at hgo
        have HG2 := Lib.hid hgo
        rw [hk0]
        clear hgo hk0 HGO
        go_wp2
        go_roundw
        case rel => exact ⟨k + 1, by omega, by go_num, Lib.hid ⟨HG2.out, HB2.out⟩⟩
        case measure => simp [intOf]; omega
      · have hgo := HGO.out
        rw [if_neg hk0] at hgo
        have HG2 := Lib.hid hgo
        have hk1 : (ckDeed p.1 == 0) = false := by rw [beq_eq_false_iff_ne]; exact hk0
        generalize ckDeed p.1 = K at *
        clear hgo HGO
        go_wp2
        go_ret
        exact ⟨ret_int1 HG2.out, HB2.out⟩
    · have hlt' : ¬ (k : Int) < (ps.length : Int) := by omega
      rw [List.drop_of_length_le (by rw [List.length_map]; omega), ckAll] at hgo
      have HG2 := Lib.hid hgo
      have HB2 := Lib.hid hb
      clear hgo hb hH
      go_wp2
      go_ret
      exact ⟨ret_int1 HG2.out, HB2.out⟩
end Go.Proofs.YtjljbnilckkjnaaDoor
namespace Go.Proofs.YtjljbnilckkjnaaDoor
open Go Go.RowKit

/-- What is wrong with deeds' bytes. -/
def takeAllE (l : List UInt8) : Int := if 1800 < l.length then 6 else match takeE l with
  | .error k => k
  | .ok ds => ckAll (ds.map Dd.di)
theorem takeAllE_err {l : List UInt8} {k : Int} (h0 : ¬ 1800 < l.length) (h : takeE l = .error k) : takeAllE l = k := by unfold takeAllE; rw [if_neg h0, h]
theorem takeAllE_ok {l : List UInt8} {ds : List Dd} (h0 : ¬ 1800 < l.length) (h : takeE l = .ok ds) : takeAllE l = ckAll (ds.map Dd.di) := by unfold takeAllE; rw [if_neg h0, h]
theorem takeE_err {l : List UInt8} {k : Int} (h : takeE l = .error k) : k = 3 ∨ k = 4 := by
  unfold takeE at h
  cases hn : numP 1 l with
  | none => rw [hn] at h; injection h with h; exact Or.inl h.symm
  | some x =>
    obtain ⟨n, l1⟩ := x
    rw [hn] at h
    dsimp only at h
    by_cases hb : n = 0 ∨ 12 < n
    · rw [if_pos hb] at h; injection h with h; exact Or.inr h.symm
    rw [if_neg hb] at h
    cases hd : deedsP n l1 [] with
    | none => rw [hd] at h; injection h with h; exact Or.inl h.symm
    | some y =>
      obtain ⟨ds', rest⟩ := y
      rw [hd] at h
      dsimp only at h
      by_cases hr : rest = []
      · rw [if_pos hr] at h; cases h
      · rw [if_neg hr] at h; injection h with h; exact Or.inr h.symm
theorem DsAt.down {B B' : Nat} {w : World} {v : Value} {ps : List (Dd × Value)} (h : DsAt B w v ps) (hB : B' ≤ B) : DsAt B' w v ps :=
  ⟨World.ownsRow.mono h.own hB, fun p hp => ⟨(h.rows p hp).1, fun ad n c e => by obtain ⟨h1, h2⟩ := (h.rows p hp).2 ad n c e; exact ⟨by omega, h2⟩⟩, h.ne⟩
def diP (p : Dd × Value) : Di × Value := (p.1.di, p.2)
theorem DsAt.deeds {B : Nat} {w : World} {v : Value} {ps : List (Dd × Value)} (h : DsAt B w v ps) (hs : ∀ p ∈ ps, p.1.Small) : Deeds w v (ps.map diP) := by
  have ho := h.own
  refine ⟨by obtain ⟨a, c, e, _⟩ := owns_shape ho; exact ⟨a, c, by rw [List.length_map]; exact e⟩, fun hne => ?_, fun q hq => ?_⟩
  · rcases ho.2 with ⟨_, h0⟩ | ⟨g, cap, cur, rfl, _, hg, _⟩
    · exact absurd (by rw [List.eq_nil_of_length_eq_zero h0]; rfl) hne
    · refine ⟨g, 0, cap, by rw [List.length_map], (Array.getElem?_eq_some_iff.1 hg).1, fun i q hi j u hu => ?_⟩
      rw [List.getElem?_map] at hi
      obtain ⟨p, hp, rfl⟩ := Option.map_eq_some_iff.1 hi
      have := World.ownsRow.cells ho (g := g) rfl _ u (flat_at cellsDd 10 ps i (fun _ _ => rfl) p hp j u hu)
      rw [addr_plus] at this
      rw [Nat.add_assoc]
      exact this
  · obtain ⟨p, hp, rfl⟩ := List.mem_map.1 hq
    obtain ⟨_, s1, _, _, _, _, _, _, s2⟩ := hs p hp
    exact ⟨(h.rows p hp).1.z, by show p.1.bytes.length ≤ _; omega, by show p.1.user.size ≤ _; omega⟩
theorem AllG.fr {w0 w1 w2 : World} {l : List UInt8} {V B N : Nat} (h : AllG w0 l V B w1) (hf : Fr (· = N) w1 w2) (hV : V < N) (hN : N < B) (hw : w0.heap.size ≤ N) : AllG w0 l V B w2 := by
  obtain ⟨hf1, ps, lv, a1, a3, a4⟩ := h
  exact ⟨hf1.trans hf (fun _ _ h => h) (fun k hk e => by omega), ps, lv, a1, (hf.block V (Array.getElem?_eq_some_iff.1 a3).1 (by omega)).trans a3, a4.fr hf (fun g e => Or.inl (by omega))⟩
def TakeAllR (l : List UInt8) (w : World) (e : Ending) (w' : World) : Prop := Below w.heap.size w w' ∧ ((takeAllE l ≠ 0 ∧ e = .returned (.tuple #[.slice none 0 0, .int .i64 (takeAllE l)])) ∨
  (takeAllE l = 0 ∧ ∃ (ps : List (Dd × Value)) (lv : Value), takeE l = .ok (ps.map (·.1)) ∧ DsAt w.heap.size w' lv ps ∧ e = .returned (.tuple #[lv, .int .i64 0])))
set_option maxHeartbeats 4000000 in
set_option maxRecDepth 100000 in
theorem takeAll_any (w : World) (sv : Value) (l : List UInt8) (hsv : Byz w sv l) (hl : l.length ≤ 9223372036854775807) (hT : Tabs w) :
    Calls Tryd.prog 22 #[sv] w (TakeAllR l w) := by
  obtain ⟨sa, sc, rfl⟩ := hsv.1
  by_cases h18 : 1800 < l.length
  · have HF : Hid (TakeAllR l w (.returned (.tuple #[.slice none 0 0, .int .i64 6])) w) := Lib.hid (by
      have e : takeAllE l = 6 := by unfold takeAllE; rw [if_pos h18]
      exact ⟨Below.refl _ _, Or.inl ⟨by rw [e]; decide, by rw [e]⟩⟩)
    have h18' : (1800 : Int) < (l.length : Int) := by omega
    clear hsv hT h18
    go_enter Tryd.func22, Tryd.ntmps22
    go_wp2
    go_ret2
    exact HF.out
  have h18' : ¬ (1800 : Int) < (l.length : Int) := by omega
  obtain ⟨y, hy⟩ : ∃ y, y = w.alloc (.cells #[.slice none 0 0] 32) := ⟨_, rfl⟩
  have hb : Below w.heap.size w y := by rw [hy]; exact (Below.refl _ w).alloc (Nat.le_refl _) _
  have row0 : y.heap[w.heap.size]? = some (.cells #[.slice none 0 0] 32 (0, 0)) := by rw [hy]; exact heap_alloc_new w _
  have hz : y.heap.size = w.heap.size + 1 := by rw [hy]; simp
  have HC := Lib.hid (readAll y (.slice sa l.length sc) l w.heap.size (AllB y l w.heap.size) (AllG y l w.heap.size (y.heap.size + 1)) (hsv.below hb) (by omega)
    (fun y0 D hy0 hD hr => takeAll1 y y0 D w.heap.size _ l hy0 hD (by omega) hr (by omega) ((hy0.block _ (by omega)).trans row0) (fun g hg hn e => by have := hsv.lt g hg hn; omega))
    (fun k w1 w2 h hf => ⟨h.1, h.2.trans hf (fun _ _ h => h) (fun k hk e => by omega)⟩)
    (fun w1 w2 h hf => h.fr hf (by omega) (by omega) (Nat.le_refl _)))
  have HG : Hid (∀ u, Fr (· = w.heap.size) y u → Below w.heap.size w u ∧ Tabs u) := Lib.hid (fun u hf => by
    have h2 : Below w.heap.size w u := ⟨hf.os.trans hb.os, hf.tape.trans hb.tape, hf.output.trans hb.output, Nat.le_trans hb.size hf.size, fun k hk => (hf.block k (by omega) (by omega)).trans (hb.block k hk)⟩
    exact ⟨h2, hT.below h2 (Nat.le_refl _)⟩)
  have HY := Lib.hid (show w.alloc (.cells #[.slice none 0 0] 32) = y from hy.symm)
  have HZ := Lib.hid hz
  have H18 := Lib.hid h18
  clear hT hsv hy hb row0 hz h18
  go_enter Tryd.func22, Tryd.ntmps22
  go_wp2_with (first | rw [HY.out])
  refine HC.out.mono ?_
  rintro e w3 ⟨err, rfl, hor⟩
  rcases hor with ⟨rfl, hG⟩ | ⟨htk, hf⟩
  · obtain ⟨hf, ps, lv, ht, hv, hds⟩ := hG
    obtain ⟨h1, h3⟩ := HG.out w3 hf
    obtain ⟨_, ⟨g1, g2⟩, g3⟩ := takeE_back ht
    rw [List.length_map] at g1 g2
    have hck := checkAll_any lv (ps.map diP) w3 (hds.deeds (fun p hp => g3 _ (List.mem_map_of_mem hp))) (by rw [List.length_map]; omega) h3
    have hU := takeAllE_ok H18.out ht
    have hue : ckAll ((ps.map diP).map (·.1)) = takeAllE l := by rw [hU, List.map_map, List.map_map]; rfl
    rw [hue] at hck
    obtain ⟨K, hKK⟩ : ∃ K, takeAllE l = K := ⟨_, rfl⟩
    rw [hKK] at hck
    obtain ⟨la, lc, rfl, _⟩ := owns_shape hds.own
    have cV : w3.cell? ⟨w.heap.size, 0, none⟩ = some (.slice la ps.length lc) := cell_of_row _ _ _ _ _ _ hv
    have hlt := (Array.getElem?_eq_some_iff.1 hv).1
    have HKK := Lib.hid hKK
    have HCK := Lib.hid hck
    have HV := Lib.hid hv
    have HT := Lib.hid ht
    have HDS := Lib.hid hds
    have HB := Lib.hid h1
    clear hf ht hv hds h1 h3 g1 g2 g3 hck hU hue hKK HC HG
    go_wp2_with fail
    refine HCK.out.mono ?_
    rintro e w4 ⟨rfl, hb4⟩
    have HB4 : Hid (Below w.heap.size w w4) := Lib.hid (HB.out.trans (hb4.mono HB.out.size))
    have HDS4 := Lib.hid (HDS.out.fr (Fr.of_below (fun _ => False) hb4) (fun _ e => e.elim))
    have cV4 : w4.cell? ⟨w.heap.size, 0, none⟩ = some (.slice la ps.length lc) := (hb4.cell (p := ⟨w.heap.size, 0, none⟩) hlt).trans cV
    clear hb4 HCK HV HDS HB cV
    by_cases hK : K = 0
    · subst hK
      have HFIN : Hid (TakeAllR l w (.returned (.tuple #[.slice la ps.length lc, .int .i64 0])) w4) := Lib.hid ⟨HB4.out, Or.inr ⟨HKK.out, ps, _, HT.out, HDS4.out.down (by have := HZ.out; omega), rfl⟩⟩
      clear HKK HT HB4 HDS4
      go_wp2
      go_ret2
      exact HFIN.out
    · have hk1 : (K == 0) = false := by rw [beq_eq_false_iff_ne]; exact hK
      have HFIN : Hid (TakeAllR l w (.returned (.tuple #[.slice none 0 0, .int .i64 K])) w4) := Lib.hid ⟨HB4.out, Or.inl ⟨by rw [HKK.out]; exact hK, by rw [HKK.out]⟩⟩
      clear HKK HT HB4 HDS4 hK
      go_wp2
      go_ret2
      exact HFIN.out
  · obtain ⟨h1, h3⟩ := HG.out w3 hf
    have hK : ¬ err = 0 := by rcases takeE_err htk with e | e <;> omega
    have hU := takeAllE_err H18.out htk
    have hk1 : (err == 0) = false := by rw [beq_eq_false_iff_ne]; exact hK
    have HFIN : Hid (TakeAllR l w (.returned (.tuple #[.slice none 0 0, .int .i64 err])) w3) := Lib.hid ⟨h1, Or.inl ⟨by rw [hU]; exact hK, by rw [hU]⟩⟩
    clear hf htk h1 h3 hK hU HC HG
    go_wp2
    go_ret2
    exact HFIN.out
end Go.Proofs.YtjljbnilckkjnaaDoor
namespace Go.Proofs.YtjljbnilckkjnaaDoor
open Go Go.RowKit

def Di.nat (d : Di) : Dd := ⟨d.act.toNat, d.user, d.box, d.dest, d.uid.toNat, d.how.toNat, d.flags, d.shard.toNat, d.epoch.toNat, d.bytes⟩
/-- A deed with which nothing is wrong. -/
structure Di.Fit (d : Di) : Prop where
  act : 1 ≤ d.act ∧ d.act ≤ 9
  user : d.user.size ≤ 24
  box : d.box.size ≤ 24
  dest : d.dest.size ≤ 24
  uid : 0 ≤ d.uid ∧ d.uid ≤ 4294967295
  how : 0 ≤ d.how ∧ d.how ≤ 2
  shard : 0 ≤ d.shard ∧ d.shard ≤ 3
  epoch : 0 ≤ d.epoch ∧ d.epoch ≤ 4294967295
  bytes : d.bytes.length ≤ 200000
theorem rightU_size {s : ByteArray} (h : rightU s = true) : s.size ≤ 24 := by
  unfold rightU at h
  simp only [Bool.and_eq_true, decide_eq_true_eq] at h
  exact h.2.2
theorem rightX_size {s : ByteArray} (h : rightX s = true) : s.size ≤ 24 := by
  unfold rightX at h
  simp only [Bool.and_eq_true, decide_eq_true_eq] at h
  exact h.1.2
theorem nmB_size {s : ByteArray} {a : Bool} (h : nmB s a = true) : s.size ≤ 24 := by
  unfold nmB at h
  cases a with
  | true => rw [if_pos rfl] at h; exact rightX_size h
  | false => rw [if_neg (by simp)] at h; have := of_decide_eq_true h; omega
theorem cntB_bd {n lo hi : Int} {a : Bool} (h : cntB n a lo hi = true) (h0 : 0 ≤ lo) (h1 : 0 ≤ hi) : 0 ≤ n ∧ n ≤ hi := by
  unfold cntB at h
  cases a with
  | true => rw [if_pos rfl] at h; simp only [Bool.and_eq_true, decide_eq_true_eq] at h; omega
  | false => rw [if_neg (by simp)] at h; have := of_decide_eq_true h; omega
theorem ckEntry_fit {user : ByteArray} {p : List UInt8} (h : ckEntry user p = 0) : ∃ u, takeU p = .ok u ∧ ckUser u = 0 ∧ (u.name.toList == user.toList) = true := by
  unfold ckEntry at h
  cases hu : takeU p with
  | error k => rw [hu] at h; dsimp only at h; have := takeU_err hu; omega
  | ok u =>
    rw [hu] at h
    dsimp only at h
    by_cases h1 : ckUser u ≠ 0
    · rw [if_pos h1] at h; exact absurd h h1
    rw [if_neg h1] at h
    refine ⟨u, rfl, Decidable.not_not.1 h1, ?_⟩
    by_cases h2 : (u.name.toList == user.toList) = true
    · exact h2
    · rw [if_neg h2] at h; omega
theorem ckDeed_fit {d : Di} (h : ckDeed d = 0) : d.Fit := by
  unfold ckDeed at h
  by_cases a1 : d.act < 1
  · rw [if_pos a1] at h; omega
  rw [if_neg a1] at h
  by_cases a2 : 9 < d.act
  · rw [if_pos a2] at h; omega
  rw [if_neg a2] at h
  by_cases a3 : rightU d.user = false
  · rw [if_pos a3] at h; omega
  rw [if_neg a3] at h
  by_cases a4 : nmB d.box (isA d [2, 3, 4, 5, 6, 7]) = false
  · rw [if_pos a4] at h; omega
  rw [if_neg a4] at h
  by_cases a5 : nmB d.dest (isA d [7]) = false
  · rw [if_pos a5] at h; omega
  rw [if_neg a5] at h
  by_cases a6 : cntB d.uid (isA d [5, 6]) 1 4294967295 = false
  · rw [if_pos a6] at h; omega
  rw [if_neg a6] at h
  by_cases a7 : cntB d.how (isA d [5]) 0 2 = false
  · rw [if_pos a7] at h; omega
  rw [if_neg a7] at h
  by_cases a8 : cntB (d.flags.toNat : Int) (isA d [4, 5]) 0 31 = false
  · rw [if_pos a8] at h; omega
  rw [if_neg a8] at h
  by_cases a9 : cntB d.shard (isA d [9]) 0 3 = false
  · rw [if_pos a9] at h; omega
  rw [if_neg a9] at h
  by_cases a10 : cntB d.epoch (isA d [8, 9]) 1 4294967295 = false
  · rw [if_pos a10] at h; omega
  rw [if_neg a10] at h
  by_cases a11 : (isA d [4] && decide (600 < (d.bytes.length : Int))) = true
  · rw [if_pos a11] at h; omega
  rw [if_neg a11] at h
  by_cases a12 : (!isA d [4, 8] && decide (0 < (d.bytes.length : Int))) = true
  · rw [if_pos a12] at h; omega
  rw [if_neg a12] at h
  have hb : d.bytes.length ≤ 200000 := by
    by_cases a13 : isA d [8] = true
    · rw [if_pos a13] at h
      obtain ⟨u, hu, hk, _⟩ := ckEntry_fit h
      rw [(takeU_back hu).1]
      exact userL_le hk
    · cases h4 : isA d [4] with
      | true =>
        rw [h4] at a11
        simp only [Bool.true_and, decide_eq_true_eq] at a11
        omega
      | false =>
        have h48 : isA d [4, 8] = false := by
          unfold isA at *
          simp only [List.any_cons, List.any_nil, Bool.or_false] at *
          rw [h4]
          simpa using a13
        rw [h48] at a12
        simp only [Bool.not_false, Bool.true_and, decide_eq_true_eq] at a12
        omega
  exact ⟨by omega, rightU_size (by simpa using a3), nmB_size (by simpa using a4), nmB_size (by simpa using a5), cntB_bd (by simpa using a6) (by omega) (by omega), cntB_bd (by simpa using a7) (by omega) (by omega), cntB_bd (by simpa using a9) (by omega) (by omega), cntB_bd (by simpa using a10) (by omega) (by omega), hb⟩
theorem Di.Fit.back {d : Di} (h : d.Fit) : d.nat.di = d := by
  obtain ⟨h1, _, _, _, h2, h3, h4, h5, _⟩ := h
  unfold Di.nat Dd.di
  simp only [Int.toNat_of_nonneg (show 0 ≤ d.act by omega), Int.toNat_of_nonneg h2.1, Int.toNat_of_nonneg h3.1, Int.toNat_of_nonneg h4.1, Int.toNat_of_nonneg h5.1]
theorem Di.Fit.lay {d : Di} (h : d.Fit) : d.nat.Fit := by
  obtain ⟨h1, u1, u2, u3, h2, h3, h4, h5, h6⟩ := h
  unfold Di.nat
  exact ⟨by dsimp only; omega, by dsimp only; omega, by dsimp only; omega, by dsimp only; omega, by dsimp only; omega, by dsimp only; omega, by dsimp only; omega, by dsimp only; omega, by dsimp only; omega⟩
theorem bodyL_len (p : List UInt8) : (bodyL p).length = 2 + p.length := by unfold bodyL; rw [List.length_append, numL_len]
theorem ddL_len (d : Dd) : (ddL d).length = 17 + d.user.size + d.box.size + d.dest.size + d.bytes.length := by
  unfold ddL
  simp only [List.length_append, numL_len, textL_len, bodyL_len]
  omega
theorem Di.Fit.len {d : Di} (h : d.Fit) : (ddL d.nat).length ≤ 200100 := by
  obtain ⟨h1, u1, u2, u3, h2, h3, h4, h5, h6⟩ := h
  rw [ddL_len]
  unfold Di.nat
  dsimp only
  omega
/-- What is wrong with deeds that are laid. -/
def putAllE (ds : List Di) : Int :=
  if ds.length = 0 then 2 else if 12 < ds.length then 6 else if ckAll ds ≠ 0 then ckAll ds else if 1800 < (dsL (ds.map Di.nat)).length then 6 else 0
def PutAllR (ds : List Di) (w : World) (e : Ending) (w' : World) : Prop := Below w.heap.size w w' ∧ ((putAllE ds ≠ 0 ∧ e = .returned (.tuple #[.slice none 0 0, .int .i64 (putAllE ds)])) ∨
  (putAllE ds = 0 ∧ ∃ v, e = .returned (.tuple #[v, .int .i64 0]) ∧ Row w.heap.size w' v (dsL (ds.map Di.nat))))
theorem PutAllR.bad {ds : List Di} {w w' : World} {k : Int} (hk : k ≠ 0) (h : putAllE ds = k) (hb : Below w.heap.size w w') : PutAllR ds w (.returned (.tuple #[.slice none 0 0, .int .i64 k])) w' := ⟨hb, Or.inl ⟨by rw [h]; exact hk, by rw [h]⟩⟩
set_option maxHeartbeats 4000000 in
set_option maxRecDepth 100000 in
theorem putAll_any (v : Value) (ps : List (Di × Value)) (w : World) (h : Deeds w v ps) (hT : Tabs w) :
    Calls Tryd.prog 20 #[v] w (PutAllR (ps.map (·.1)) w) := by
  obtain ⟨a, cap, rfl⟩ := h.shape
  have hln : (ps.map (·.1)).length = ps.length := List.length_map _
  by_cases h0 : ps.length = 0
  · have HF := Lib.hid (PutAllR.bad (ds := ps.map (·.1)) (k := 2) (w := w) (by decide) (by unfold putAllE; rw [hln, if_pos h0]) (Below.refl _ _))
    have e0 : ((ps.length : Int) == 0) = true := by rw [beq_iff_eq]; omega
    clear h hT hln h0
    go_enter Tryd.func20, Tryd.ntmps20
    go_wp2
    go_ret2
    exact HF.out
  have e0 : ((ps.length : Int) == 0) = false := by rw [beq_eq_false_iff_ne]; omega
  by_cases h12 : 12 < ps.length
  · have HF := Lib.hid (PutAllR.bad (ds := ps.map (·.1)) (k := 6) (w := w) (by decide) (by unfold putAllE; rw [hln, if_neg h0, if_pos h12]) (Below.refl _ _))
    have e1 : (12 : Int) < (ps.length : Int) := by omega
    clear h hT hln h0 h12
    go_enter Tryd.func20, Tryd.ntmps20
    go_wp2
    go_ret2
    exact HF.out
  have e1 : ¬ (12 : Int) < (ps.length : Int) := by omega
  have HCK := Lib.hid (checkAll_any (.slice a ps.length cap) ps w h (by omega) hT)
  by_cases hk0 : ckAll (ps.map (·.1)) = 0
  case neg =>
    have HF : Hid (∀ u, Below w.heap.size w u → PutAllR (ps.map (·.1)) w (.returned (.tuple #[.slice none 0 0, .int .i64 (ckAll (ps.map (·.1)))])) u) := Lib.hid (fun u hu => PutAllR.bad hk0 (by unfold putAllE; rw [hln, if_neg h0, if_neg h12, if_pos hk0]) hu)
    have e2 : (ckAll (ps.map (·.1)) == 0) = false := by rw [beq_eq_false_iff_ne]; exact hk0
    generalize ckAll (ps.map (·.1)) = K at *
    clear h hT hln h0 h12 hk0
    go_enter Tryd.func20, Tryd.ntmps20
    go_wp2_with fail
    refine HCK.out.mono ?_
    rintro e w1 ⟨rfl, hb⟩
    have HF1 := Lib.hid (HF.out w1 hb)
    clear hb HF HCK
    go_wp2
    go_ret2
    exact HF1.out
  have hfits : ∀ p ∈ ps, p.1.Fit := fun p hp => ckDeed_fit (ckAll_all _ hk0 _ (List.mem_map_of_mem hp))
  obtain ⟨U, hU⟩ : ∃ U, dsL ((ps.map (·.1)).map Di.nat) = U := ⟨_, rfl⟩
  have hUU : numL 1 ps.length ++ (ps.map (·.1.nat)).flatMap ddL = U := by
    rw [← hU]
    unfold dsL
    rw [List.length_map, hln, List.map_map]
    rfl
  have hle : U.length ≤ 3000000 := by
    have := flat_le ddL 200100 (ps.map (·.1.nat)) (fun x hx => by obtain ⟨p, hp, rfl⟩ := List.mem_map.1 hx; exact (hfits p hp).len)
    have h6 : (ps.map (·.1.nat)).length * 200100 ≤ 12 * 200100 := Nat.mul_le_mul_right _ (by rw [List.length_map]; omega)
    rw [← hUU, List.length_append, numL_len]
    omega
  have HBAD : Hid (1800 < U.length → ∀ u, Below w.heap.size w u → PutAllR (ps.map (·.1)) w (.returned (.tuple #[.slice none 0 0, .int .i64 6])) u) := Lib.hid (fun hx u hu => PutAllR.bad (by decide) (by unfold putAllE; rw [hln, if_neg h0, if_neg h12, if_neg (by rw [hk0]; simp), hU, if_pos hx]) hu)
  have HGOOD : Hid (¬ 1800 < U.length → ∀ v u, Below w.heap.size w u → Row w.heap.size u v U → PutAllR (ps.map (·.1)) w (.returned (.tuple #[v, .int .i64 0])) u) := Lib.hid (fun hx v u hu hr => ⟨hu, Or.inr ⟨by unfold putAllE; rw [hln, if_neg h0, if_neg h12, if_neg (by rw [hk0]; simp), hU, if_neg hx], v, rfl, by rw [hU]; exact hr⟩⟩)
  have HD := Lib.hid h
  have HFITS := Lib.hid hfits
  have HUU := Lib.hid hUU
  have HI1 : ∀ cs : List Value, cs.length = 10 → Hid ((Tryd.prog.info? 28).map (·.size) = some cs.length) := fun cs h => Lib.hid (by rw [h]; kernel_rfl)
  rw [hk0] at HCK
  clear h hT hln hfits hU hUU hk0
  go_enter Tryd.func20, Tryd.ntmps20
  go_wp2_with fail
  refine HCK.out.mono ?_
  rintro e w1 ⟨rfl, hb1⟩
  have HB1 := Lib.hid hb1
  have s1 := hb1.size
  have HC1 := Lib.hid (putNumber_any w.heap.size w1 (.slice none 0 0) [] 1 ps.length (Row.nil w.heap.size w1) s1 (by omega) (by omega) (by simp))
  clear HCK hb1
  go_wp2_with fail
  refine HC1.out.mono ?_
  rintro e w2 ⟨v2, rfl, hro, hg⟩
  have HB2 := Lib.hid (HB1.out.trans (hg.below (Row.nil w.heap.size w1) s1))
  have R2 := Lib.hid hro
  clear hro hg HC1 HB1 s1
  go_wp2
  go_loopw [5, 26] (fun bv iv wr => ∃ (k : Nat) (l' : List UInt8), k ≤ ps.length ∧ iv = .int .i64 (k : Int) ∧ Hid (l' ++ ((ps.map (·.1.nat)).drop k).flatMap ddL = U ∧ Row w.heap.size wr bv l' ∧ Below w.heap.size w wr)) (fun _ iv _ => ps.length - (intOf iv).toNat)
  case atStart => exact ⟨0, _, Nat.zero_le _, rfl, Lib.hid ⟨by rw [← HUU.out, List.drop_zero]; simp only [List.nil_append], R2.out, HB2.out⟩⟩
  case round =>
    clear R2 HB2 HUU
    obtain ⟨k, l', hk, rfl, hH⟩ := hrel
    obtain ⟨hgo, hr, hb⟩ := hH.out
    by_cases hlt : k < ps.length
    · have hlt' : (k : Int) < (ps.length : Int) := by omega
      have hp := List.getElem?_eq_getElem hlt
      generalize ps[k] = p at hp
      obtain ⟨g, off, cap', e, hgl, hc⟩ := HD.out.cells (fun e => by subst e; simp at hlt)
      injection e with ea _ ec
      subst ea
      subst ec
      have hmem := List.mem_of_getElem? hp
      obtain ⟨hz, _, _⟩ := HD.out.bytes p hmem
      have hfit := HFITS.out p hmem
      obtain ⟨pa, pc, hpv⟩ := hz.1
      have hra := rangeAt_below (hc k p hp) hb hgl
      have hzl := hz.lt
      rw [hpv] at hra hz hzl
      have HR : Hid (wr.rangeAt g (off + k * 10) [.int .i64 p.1.act, .string p.1.user, .string p.1.box, .string p.1.dest, .int .i64 p.1.uid, .int .i64 p.1.how, .int .u8 (p.1.flags.toNat : Int), .int .i64 p.1.shard, .int .i64 p.1.epoch, .slice pa p.1.bytes.length pc]) := Lib.hid hra
      rw [drop_at9 (show (ps.map (·.1.nat))[k]? = some p.1.nat by rw [List.getElem?_map, hp]; rfl), List.flatMap_cons] at hgo
      have hll := len_ap (show (l' ++ ddL p.1.nat) ++ ((ps.map (·.1.nat)).drop (k + 1)).flatMap ddL = U by rw [← hgo, List.append_assoc])
      have hll1 : l'.length ≤ 3000000 := by rw [List.length_append] at hll; omega
      have HGO := Lib.hid hgo
      obtain ⟨y, hy⟩ : ∃ y, y = (wr.alloc (.cells #[.int .i64 0, .string ⟨#[]⟩, .string ⟨#[]⟩, .string ⟨#[]⟩, .int .i64 0, .int .i64 0, .int .u8 0, .int .i64 0, .int .i64 0, .slice none 0 0] 28)).setRow wr.heap.size #[.int .i64 p.1.act, .string p.1.user, .string p.1.box, .string p.1.dest, .int .i64 p.1.uid, .int .i64 p.1.how, .int .u8 (p.1.flags.toNat : Int), .int .i64 p.1.shard, .int .i64 p.1.epoch, .slice pa p.1.bytes.length pc] := ⟨_, rfl⟩
      have hrow0 : (wr.alloc (.cells #[.int .i64 0, .string ⟨#[]⟩, .string ⟨#[]⟩, .string ⟨#[]⟩, .int .i64 0, .int .i64 0, .int .u8 0, .int .i64 0, .int .i64 0, .slice none 0 0] 28)).heap[wr.heap.size]? = some (.cells #[.int .i64 0, .string ⟨#[]⟩, .string ⟨#[]⟩, .string ⟨#[]⟩, .int .i64 0, .int .i64 0, .int .u8 0, .int .i64 0, .int .i64 0, .slice none 0 0] 28 (0, 0)) := heap_alloc_new wr _
      have hrow1 : y.heap[wr.heap.size]? = some (.cells #[.int .i64 p.1.act, .string p.1.user, .string p.1.box, .string p.1.dest, .int .i64 p.1.uid, .int .i64 p.1.how, .int .u8 (p.1.flags.toNat : Int), .int .i64 p.1.shard, .int .i64 p.1.epoch, .slice pa p.1.bytes.length pc] 28 (0, 0)) := by rw [hy]; exact setRow_heap _ _ _ _ _ _ hrow0
      have hby : Below wr.heap.size wr y := by
        have hb0 : Below wr.heap.size wr (wr.alloc (.cells #[.int .i64 0, .string ⟨#[]⟩, .string ⟨#[]⟩, .string ⟨#[]⟩, .int .i64 0, .int .i64 0, .int .u8 0, .int .i64 0, .int .i64 0, .slice none 0 0] 28)) := (Below.refl _ wr).alloc (Nat.le_refl _) _
        rw [hy]
        exact ⟨hb0.os, hb0.tape, hb0.output, by rw [setRow_size]; exact hb0.size, fun k hk => (setRow_other _ _ _ _ (by omega)).trans (hb0.block k hk)⟩
      have hbw : Below w.heap.size w y := hb.trans (hby.mono hb.size)
      have hry : Row w.heap.size y u5 l' := hr.below hby
      have hC := putDeed_any w.heap.size y u5 l' p.1.nat (.slice pa p.1.bytes.length pc) hry hbw.size (hz.below hbw)
        (fun g hg hn e => by have h5 := row_base hry g hg; have h6 := hzl g e hn; omega) hfit.lay (by omega)
      rw [ddV_di, hfit.back] at hC
      unfold diV diC at hC
      have HC := Lib.hid hC
      have HRY := Lib.hid hry
      have HBW := Lib.hid hbw
      have HROW0 := Lib.hid hrow0
      have HROW1 := Lib.hid hrow1
      have HY := Lib.hid hy
      have HI2 : Hid ((#[.int .i64 p.1.act, .string p.1.user, .string p.1.box, .string p.1.dest, .int .i64 p.1.uid, .int .i64 p.1.how, .int .u8 (p.1.flags.toNat : Int), .int .i64 p.1.shard, .int .i64 p.1.epoch, .slice pa p.1.bytes.length pc] : Array Value).all (·.oneCell') = true) := Lib.hid (by rw [Array.all_eq_true_iff_forall_mem]; intro u hu; simp only [List.mem_toArray, List.mem_cons, List.not_mem_nil, or_false] at hu; rcases hu with rfl | rfl | rfl | rfl | rfl | rfl | rfl | rfl | rfl | rfl <;> rfl)
      have HI3 := HI1 [.int .i64 p.1.act, .string p.1.user, .string p.1.box, .string p.1.dest, .int .i64 p.1.uid, .int .i64 p.1.how, .int .u8 (p.1.flags.toNat : Int), .int .i64 p.1.shard, .int .i64 p.1.epoch, .slice pa p.1.bytes.length pc] rfl
      have HI4 : Hid ((Tryd.prog.info? 28).map (·.size) = some (#[.int .i64 p.1.act, .string p.1.user, .string p.1.box, .string p.1.dest, .int .i64 p.1.uid, .int .i64 p.1.how, .int .u8 (p.1.flags.toNat : Int), .int .i64 p.1.shard, .int .i64 p.1.epoch, .slice pa p.1.bytes.length pc] : Array Value).size) := Lib.hid (HI1 [.int .i64 p.1.act, .string p.1.user, .string p.1.box, .string p.1.dest, .int .i64 p.1.uid, .int .i64 p.1.how, .int .u8 (p.1.flags.toNat : Int), .int .i64 p.1.shard, .int .i64 p.1.epoch, .slice pa p.1.bytes.length pc] rfl).out
      clear hgo hr hb hp hc hz hpv hra hy hrow0 hrow1 hby hbw hry hH hzl hC hfit hmem hll
      go_wp2_with (first
        | (refine wpList_load_mid rfl 28 _ rfl g (off + k * 10) rfl _ _ HR.out Tryd.underlying28 rfl HI3.out ?_)
        | (refine wpList_store_row rfl 28 _ _ rfl wr.heap.size _ rfl rfl 28 _ HROW0.out HI4.out rfl HI2.out ?_; rw [← HY.out])
        | (refine wpList_load_row rfl 28 _ rfl wr.heap.size rfl 28 _ (0, 0) _ HROW1.out Tryd.underlying28 rfl (by kernel_rfl) ?_))
      refine HC.out.mono ?_
      rintro e w3 ⟨v3, rfl, hro, hg⟩
      have HREL := Lib.hid (And.intro hro (HBW.out.trans (hg.below HRY.out HBW.out.size)))
      clear hro hg HC HRY HBW HROW0 HROW1 HY HI2 HI3 HI4 HR
      go_wp2
      go_roundw
      case rel => exact ⟨k + 1, _, by omega, by go_num, Lib.hid ⟨by rw [← HGO.out]; simp only [List.append_assoc], HREL.out.1, HREL.out.2⟩⟩
      case measure => simp [intOf]; omega
    · have hlt' : ¬ (k : Int) < (ps.length : Int) := by omega
      rw [List.drop_of_length_le (by rw [List.length_map]; omega), List.flatMap_nil, List.append_nil] at hgo
      subst hgo
      have HROW := Lib.hid hr
      have HBB := Lib.hid hb
      obtain ⟨va, vc, rfl, _⟩ := hr.1.shape
      clear hr hb hH
      by_cases h18 : 1800 < l'.length
      · have HF := Lib.hid (HBAD.out h18 _ HBB.out)
        have h18' : (1800 : Int) < (l'.length : Int) := by omega
        clear HROW HBB
        go_wp2
        go_ret2
        exact HF.out
      · have HF := Lib.hid (HGOOD.out h18 _ _ HBB.out HROW.out)
        have h18' : ¬ (1800 : Int) < (l'.length : Int) := by omega
        clear HROW HBB
        go_wp2
        go_ret2
        exact HF.out
end Go.Proofs.YtjljbnilckkjnaaDoor
