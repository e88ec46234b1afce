/- Box: the document's with, and its Cut. -/
import Derived.Test.YtpmakbjchepkmaaBA2
import Derived.Deep.DeepCutAuto
import Derived.Test.YtpmakbjchepkmaaB4
import Derived.Test.YtpmakbjchepkmaaBR1
namespace Go.Proofs.Ytpmakbjchepkmaa
open Go Go.RowKit

theorem chain_alloc1 (w : World) (ob : Obj) : Below w.heap.size w (w.alloc ob) := chain_alloc _ (Below.refl _ _)
theorem chain_alloc2 (w : World) (ob ob' : Obj) : Below w.heap.size w ((w.alloc ob).alloc ob') := chain_alloc _ (chain_alloc1 _ _)
/-- The letters of which those with a UID are others. -/
def putU (u : Int) (ls : List LV) (l : List LV) : List LV := l.flatMap fun q => if q.1.uid = u then ls else [q]
def hasU (u : Int) (l : List LV) : Bool := l.any fun q => q.1.uid == u
theorem putU_snoc (u : Int) (ls l : List LV) (q : LV) : putU u ls (l ++ [q]) = putU u ls l ++ (if q.1.uid = u then ls else [q]) := by simp [putU]
theorem hasU_snoc (u : Int) (l : List LV) (q : LV) : hasU u (l ++ [q]) = (hasU u l || q.1.uid == u) := by simp [hasU]
theorem putU_len (u : Int) (ls : List LV) (hm : ls.length ≤ 1) : ∀ l : List LV, (putU u ls l).length ≤ l.length
  | [] => by simp [putU]
  | q :: t => by
    have ih := putU_len u ls hm t
    unfold putU at ih ⊢
    rw [List.flatMap_cons, List.length_append, List.length_cons]
    split
    · omega
    · simp only [List.length_cons, List.length_nil]; omega
theorem putU_mem {u : Int} {ls l : List LV} {q : LV} (h : q ∈ putU u ls l) : q ∈ ls ∨ q ∈ l := by
  obtain ⟨x, hx, hq⟩ := List.mem_flatMap.1 h
  split at hq
  · exact Or.inl hq
  · rw [List.mem_singleton] at hq; subst hq; exact Or.inr hx
/-- What with tells. -/
def WithR (W : World) (name : ByteArray) (valid next : Int) (ps : List LV) (u : Int) (ls : List LV) (e : Ending) (w' : World) : Prop :=
  ∃ a c, e = .returned (.tuple #[boxV name valid next (.slice a (putU u ls ps).length c), .bool (hasU u ps)]) ∧ Lets w' (.slice a (putU u ls ps).length c) (putU u ls ps) ∧ Below W.heap.size W w' ∧ ∀ g, (Value.slice a (putU u ls ps).length c).ownBlock = some g → W.heap.size ≤ g
/-- At a round's head. -/
structure WMid (w wr : World) (name : ByteArray) (valid next : Int) (sv : Value) (u : Int) (ls : List LV) (ps : List LV) (k : Nat) (lv : Value) : Prop where
  b0 : BoxW wr w.heap.size name valid next sv
  b1 : BoxW wr (w.heap.size + 1) ⟨#[]⟩ 0 0 (.slice none 0 0)
  bc : BoxW wr (w.heap.size + 1 + 1) name valid next lv
  own : Owns (w.heap.size + 3) wr lv (putU u ls (ps.take k))
  below : Below w.heap.size w wr
theorem WMid.step {w wr wn wm : World} {name : ByteArray} {valid next : Int} {sv : Value} {u : Int} {ls ps : List LV} {k : Nat} {lv lv' : Value} (h : WMid w wr name valid next sv u ls ps k lv) (q : LV) (hq : ps[k]? = some q) (hn : Below wr.heap.size wr wn) (hg : wn.grownBy wm lv.ownBlock)
    (ho : Owns (w.heap.size + 3) wm lv' (putU u ls (ps.take k) ++ (if q.1.uid = u then ls else [q]))) : WMid w (wm.setCell ⟨w.heap.size + 1 + 1, 3, none⟩ lv') name valid next sv u ls ps (k + 1) lv' := by
  have hlt := h.bc.lt
  have hlt0 := h.b0.lt
  have hlt1 := h.b1.lt
  have hrow : ∀ g, lv.ownBlock = some g → w.heap.size + 3 ≤ g := fun g hg => (World.ownsRow.lt h.own g hg).1
  have hsn := hn.size
  have hb : ∀ b, b < w.heap.size + 3 → b < wr.heap.size → wm.heap[b]? = wr.heap[b]? := fun b h1 h2 => (hg.block b (by omega) (fun e => by have := hrow b e.symm; omega)).trans (hn.block b h2)
  have hbw : Below w.heap.size w wm := (h.below.trans (hn.mono h.below.size)).grown hg (by have := h.below.size; omega) (fun k hk => by have := hrow k hk; omega)
  refine ⟨(h.b0.kept (hb _ (by omega) hlt0)).kept (setCell_kept _ _ _ _ (by simp <;> omega)), (h.b1.kept (hb _ (by omega) hlt1)).kept (setCell_kept _ _ _ _ (by simp <;> omega)), (h.bc.kept (hb _ (by omega) hlt)).set3 _, ?_, hbw.setCell (by simp <;> omega) _⟩
  rw [List.take_add_one, hq, Option.toList_some, putU_snoc]
  exact Owns.fr ho ((Fr.refl (· = w.heap.size + 1 + 1) wm).setCell ⟨w.heap.size + 1 + 1, 3, none⟩ (Or.inl rfl) _) (fun k e => by omega)
theorem WMid.room {w wr wn wm : World} {name : ByteArray} {valid next : Int} {sv : Value} {u : Int} {ls ps : List LV} {k : Nat} {lv : Value} (h : WMid w wr name valid next sv u ls ps k lv) (hn : Below wr.heap.size wr wn) (hg : wn.grownBy wm lv.ownBlock) :
    BoxW wm (w.heap.size + 1 + 1) name valid next lv :=
  h.bc.kept ((hg.block _ (by have := h.bc.lt; have := hn.size; omega) (fun e => by have := (World.ownsRow.lt h.own _ e.symm).1; omega)).trans (hn.block _ h.bc.lt))

set_option maxHeartbeats 4000000 in
set_option maxRecDepth 100000 in
theorem with_any (name : ByteArray) (valid next : Int) (sv lv : Value) (ps ls : List LV) (u : Int) (w : World) (h : Lets w sv ps) (hl : Lets w lv ls) (hn : ps.length ≤ 40) (hm : ls.length ≤ 1) :
    Calls Try.prog 30 #[boxV name valid next sv, .int .i64 u, lv] w (WithR w name valid next ps u ls) := by
  have hst : ∀ W, W = (((w.alloc (.cells #[.string name, .int .i64 valid, .int .i64 next, sv] 24)).alloc (.cells #[.string ⟨#[]⟩, .int .i64 0, .int .i64 0, .slice none 0 0] 24)).alloc (.cells #[.string name, .int .i64 valid, .int .i64 next, .slice none 0 0] 24)) → WMid w W name valid next sv u ls ps 0 (.slice none 0 0) := by
    intro W hW
    subst hW
    have x0 := BoxW.new w name valid next sv 24
    have x1 := BoxW.new (w.alloc (.cells #[.string name, .int .i64 valid, .int .i64 next, sv] 24)) ⟨#[]⟩ 0 0 (.slice none 0 0) 24
    have x2 := BoxW.new ((w.alloc (.cells #[.string name, .int .i64 valid, .int .i64 next, sv] 24)).alloc (.cells #[.string ⟨#[]⟩, .int .i64 0, .int .i64 0, .slice none 0 0] 24)) name valid next (.slice none 0 0) 24
    simp only [World.size_alloc] at x1 x2
    refine ⟨x0.below (chain_alloc2 _ _ _) (by simp), x1.below (chain_alloc1 _ _) (by simp), x2, ⟨rfl, Or.inl ⟨rfl, rfl⟩⟩, chain_alloc _ (chain_alloc _ (chain_alloc _ (Below.refl _ _)))⟩
  obtain ⟨sa, sc, hsv, g1, o1, hg1, hc1⟩ := h.opened
  obtain ⟨la, lc, hlv, _⟩ := id hl.shape
  subst hsv
  subst hlv
  unfold boxV
  obtain ⟨W0, hW0⟩ : ∃ W0, W0 = (((w.alloc (.cells #[.string name, .int .i64 valid, .int .i64 next, .slice sa ps.length sc] 24)).alloc (.cells #[.string ⟨#[]⟩, .int .i64 0, .int .i64 0, .slice none 0 0] 24)).alloc (.cells #[.string name, .int .i64 valid, .int .i64 next, .slice none 0 0] 24)) := ⟨_, rfl⟩
  have HST := Lib.hid (hst W0 hW0)
  have HW0 := Lib.hid hW0
  have HL := Lib.hid h
  have HLS := Lib.hid hl
  have HC1 := Lib.hid hc1
  have HG1 := Lib.hid hg1
  clear hst hW0 h hl hc1 hg1
  go_enter Try.func30, Try.ntmps30
  go_wp2_with (first | rw [← HW0.out])
  go_loopw [9, 10] (fun f i wr => ∃ (k : Nat) (a : Option Addr) (c n : Nat), k ≤ ps.length ∧ i = .int .i64 k ∧ f = .bool (hasU u (ps.take k)) ∧ n = (putU u ls (ps.take k)).length ∧ WMid w wr name valid next (.slice sa ps.length sc) u ls ps k (.slice a n c)) (fun _ i _ => ps.length - (intOf i).toNat)
  case atStart => exact ⟨0, none, 0, 0, Nat.zero_le _, rfl, rfl, rfl, HST.out⟩
  case round =>
    obtain ⟨k, a, c, n, hk, rfl, rfl, hn0, hmid⟩ := hrel
    have HN0 := Lib.hid hn0
    have hb := hmid.below
    have HMID := Lib.hid hmid
    obtain ⟨c0, c1, c2, c3, f0, f1, f2, f3⟩ := hmid.b0
    obtain ⟨d0, d1, d2, d3, e0, e1, e2, e3⟩ := hmid.b1
    obtain ⟨x0, x1, x2, x3, y0, y1, y2, y3⟩ := hmid.bc
    have hnl : n ≤ 40 := by rw [hn0]; refine Nat.le_trans (putU_len u ls hm _) ?_; rw [List.length_take]; omega
    clear hn0 hmid
    by_cases hlt : k < ps.length
    · have hpk := List.getElem?_eq_getElem hlt
      generalize ps[k] = q at hpk
      have hne : ps ≠ [] := fun e => by subst e; simp at hlt
      obtain ⟨rfl, hgl⟩ := HG1.out hne
      obtain ⟨p0, p1, p2⟩ := HC1.out k _ hpk
      have m0 := (hb.cell (p := ⟨g1, o1 + k * 3, none⟩) hgl).trans p0
      have m1 := (hb.cell (p := ⟨g1, o1 + k * 3 + 1, none⟩) hgl).trans p1
      have m2 := (hb.cell (p := ⟨g1, o1 + k * 3 + 2, none⟩) hgl).trans p2
      have hk1 : (k : Int) < (ps.length : Int) := by omega
      have HQ := Lib.hid (show Byz wr q.2 q.1.bytes from (HL.out.bytes _ (List.mem_of_getElem? hpk)).below hb)
      have HLR := Lib.hid (HLS.out.below hb)
      have HPK := Lib.hid hpk
      have hsb : w.heap.size + 1 + 1 < wr.heap.size := HMID.out.bc.lt
      have hgs : g1 < wr.heap.size := by omega
      clear p0 p1 p2 hpk hne hb
      by_cases hu : q.1.uid = u
      · obtain ⟨a', c', wm, hr, ho, hg⟩ := appL wr HMID.out.own HLR.out (by omega) (by rw [← HN0.out]; omega)
        have hL : (putU u ls (ps.take k) ++ ls).length = n + ls.length := by rw [List.length_append, ← HN0.out]
        rw [hL] at hr ho
        have hstep := HMID.out.step q HPK.out (Below.refl _ _) hg (lv' := .slice a' (n + ls.length) c') (by rw [if_pos hu]; exact ho)
        obtain ⟨z0, z1, z2, z3, t0, t1, t2, t3⟩ := HMID.out.room (Below.refl _ _) hg
        have HR := Lib.hid hr
        have HS := Lib.hid hstep
        have hu' : (q.1.uid == u) = true := by simpa using hu
        have HU := Lib.hid hu
        clear hr ho hg hstep hL hu
        go_wp2_with (at_builtin; refine wpList_append_run _ rfl _ _ 22 22 rfl _ _ rfl rfl _ wm HR.out ?_)
        go_roundw
        case rel => exact ⟨k + 1, a', c', n + ls.length, by omega, by go_num, by rw [List.take_add_one, HPK.out, Option.toList_some, hasU_snoc, hu', Bool.or_true], by rw [List.take_add_one, HPK.out, Option.toList_some, putU_snoc, if_pos HU.out, List.length_append, ← HN0.out], HS.out⟩
        case measure => simp [intOf]; omega
      · have hu' : (q.1.uid == u) = false := by simpa using hu
        have HU := Lib.hid hu
        clear hu
        obtain ⟨⟨qu, qf, qb⟩, qv⟩ := q
        obtain ⟨⟨qa, qc, hqv⟩, _⟩ := id HQ.out
        simp only at m0 m1 m2 hu' hqv
        subst hqv
        go_wp2_with fail
        have HKK := Lib.hid (fun (wx : World) (hb : ∀ b, b < wr.heap.size → b < w.heap.size + 1 → wx.heap[b]? = wr.heap[b]?) => (⟨(World.cell?_of_block (w := wr) (a := ⟨w.heap.size, 3, none⟩) (hb w.heap.size (by omega) (by omega))).trans c3, (World.cell?_of_block (a := ⟨g1, o1 + k * 3, none⟩) (hb g1 hgs (by omega))).trans m0, (World.cell?_of_block (a := ⟨g1, o1 + k * 3 + 1, none⟩) (hb g1 hgs (by omega))).trans m1, (World.cell?_of_block (a := ⟨g1, o1 + k * 3 + 2, none⟩) (hb g1 hgs (by omega))).trans m2⟩ :
          wx.cell? ⟨w.heap.size, 3, none⟩ = some (.slice (some ⟨g1, o1, none⟩) ps.length sc) ∧ wx.cell? ⟨g1, o1 + k * 3, none⟩ = some (.int .i64 qu) ∧ wx.cell? ⟨g1, o1 + k * 3 + 1, none⟩ = some (.int .u8 (qf.toNat : Int)) ∧ wx.cell? ⟨g1, o1 + k * 3 + 2, none⟩ = some (.slice qa qb.length qc)))
        have HOB := Lib.hid (fun (g : Nat) (hg : (Value.slice a n c).ownBlock = some g) => (World.ownsRow.lt HMID.out.own g hg).1)
        have HW8 := Lib.hid (fun wx (hb : Below wr.heap.size wr wx) => (hb.cell (p := ⟨w.heap.size + 1 + 1, 3, none⟩) hsb).trans x3)
        have hbX : ∀ X, Below wr.heap.size wr X → ∀ a' c' wm, X.grownBy wm (Value.slice a n c).ownBlock → Owns (w.heap.size + 3) wm (.slice a' (n + 1) c') (putU u ls (ps.take k) ++ [((⟨qu, qf, qb⟩ : Letr), Value.slice qa qb.length qc)]) →
            WMid w (wm.setCell ⟨w.heap.size + 1 + 1, 3, none⟩ (.slice a' (n + 1) c')) name valid next (.slice (some ⟨g1, o1, none⟩) ps.length sc) u ls ps (k + 1) (.slice a' (n + 1) c') ∧ BoxW wm (w.heap.size + 1 + 1) name valid next (.slice a n c) := fun X hX a' c' wm hg ho =>
          ⟨HMID.out.step _ HPK.out hX hg (lv' := .slice a' (n + 1) c') (by rw [if_neg HU.out]; exact ho), HMID.out.room hX hg⟩
        have HBX := Lib.hid hbX
        clear hbX HKK HOB HW8
        go_region_law (first
            | (refine step_appL1 rfl (.tmp 34) (.tmp 40) rfl ((⟨qu, qf, qb⟩ : Letr), Value.slice qa qb.length qc) rfl rfl HMID.out.own HN0.out.symm (by omega) (by omega) (by repeat (with_reducible first | exact Below.refl _ _ | assumption | refine chain_alloc _ ?_ | refine chain_drew ?_ | refine chain ?_ (by assumption))) (by repeat (with_reducible first | exact Below.refl _ _ | assumption | refine chain_alloc _ ?_ | refine chain_drew ?_ | refine chain ?_ (by assumption))) (by first | rfl | simp only [World.size_alloc, World.size_drew]) (HQ.out.below (by repeat (with_reducible first | exact Below.refl _ _ | assumption | refine chain_alloc _ ?_ | refine chain_drew ?_ | refine chain ?_ (by assumption)))) ?_
               rintro a' c' wm o' g' y'
               have hfin := HBX.out _ (by repeat (with_reducible first | exact Below.refl _ _ | assumption | refine chain_alloc _ ?_ | refine chain_drew ?_ | refine chain ?_ (by assumption))) _ _ _ g' o'
               obtain ⟨z0, z1, z2, z3, t0, t1, t2, t3⟩ := hfin.2
               have HS := Lib.hid hfin.1
               clear hfin o' g' y'))
        all_goals
          clear z0 z1 z2 z3 t0 t1 t2 t3 x0 x1 x2 x3 y0 y1 y2 y3 c0 c1 c2 c3 f0 f1 f2 f3 d0 d1 d2 d3 e0 e1 e2 e3 m0 m1 m2 HBX
          go_wp2
          go_roundw
          case rel => exact ⟨k + 1, a', c', n + 1, by omega, by go_num, by rw [List.take_add_one, HPK.out, Option.toList_some, hasU_snoc, hu', Bool.or_false], by rw [List.take_add_one, HPK.out, Option.toList_some, putU_snoc, if_neg HU.out, List.length_append, ← HN0.out]; rfl, HS.out⟩
          case measure => simp [intOf]; omega
    · have hk2 : k = ps.length := by omega
      subst hk2
      obtain ⟨W4, hW4, hb4, hf4⟩ := HMID.out.b1.put4 name valid next (.slice a n c)
      obtain ⟨k0, k1, k2, k3, _⟩ := hb4
      have HW4 := Lib.hid hW4
      have hbw : Below w.heap.size w W4 := hb.trans (hf4.below hb.size (fun k e => by omega))
      have hown := HMID.out.own.fr hf4 (fun k e => by omega)
      rw [List.take_length] at hown
      have hlet : Lets W4 (.slice a n c) (putU u ls ps) := hown.lets (fun q hq => by
        rcases putU_mem hq with hq | hq
        · exact (HLS.out.bytes q hq).below hbw
        · exact (HL.out.bytes q hq).below hbw)
      have HEND := Lib.hid (show n = (putU u ls ps).length ∧ Lets W4 (.slice a n c) (putU u ls ps) ∧ Below w.heap.size w W4 ∧ (∀ g, (Value.slice a n c).ownBlock = some g → w.heap.size ≤ g) from ⟨by rw [HN0.out, List.take_length], hlet, hbw, fun g hg => by have := (World.ownsRow.lt hown g hg).1; omega⟩)
      clear hW4 hf4 hbw hown hlet hb
      go_wp2
      rw [← HW4.out]
      obtain ⟨rfl, hl4, hb5, hg5⟩ := HEND.out
      exact bodyPost_ret (v := .tuple #[.agg #[.string name, .int .i64 valid, .int .i64 next, .slice a (putU u ls ps).length c], .bool (hasU u (ps.take ps.length))]) (by simp [results, Try.results30, go_sem, k0, k1, k2, k3]) rfl ⟨a, c, by rw [List.take_length]; rfl, hl4, hb5, hg5⟩
end Go.Proofs.Ytpmakbjchepkmaa
namespace Go.Proofs.Ytpmakbjchepkmaa
open Go Go.RowKit

theorem putU_cut (u : Int) (l : List LV) : (putU u [] l).map (·.1) = cutL (l.map (·.1)) u := by
  unfold putU cutL
  induction l with
  | nil => rfl
  | cons q t ih =>
    rw [List.flatMap_cons, List.map_append, ih, List.map_cons, List.filter_cons]
    by_cases h : q.1.uid = u
    · rw [if_pos h, if_neg (by simp [h])]; rfl
    · rw [if_neg h, if_pos (by simpa using h)]; rfl
theorem hasU_find (u : Int) (l : List LV) : hasU u l = decide (findU (l.map (·.1)) u ≠ (l.map (·.1)).length) := by
  have h : (findU (l.map (·.1)) u ≠ (l.map (·.1)).length) ↔ ∃ x ∈ l.map (·.1), (x.uid == u) = true := by
    unfold findU
    have h1 : (l.map (·.1)).findIdx (fun x => x.uid == u) ≤ (l.map (·.1)).length := List.findIdx_le_length
    rw [← List.findIdx_lt_length]
    omega
  rw [decide_eq_decide.2 h]
  unfold hasU
  rw [Bool.eq_iff_iff, List.any_eq_true, decide_eq_true_iff]
  constructor
  · rintro ⟨q, hq, e⟩; exact ⟨q.1, List.mem_map.2 ⟨q, hq, rfl⟩, e⟩
  · rintro ⟨x, hx, e⟩; obtain ⟨q, hq, rfl⟩ := List.mem_map.1 hx; exact ⟨q, hq, e⟩

/-- What a call that turns a box tells: the error, or the letters. -/
def TurnR (W : World) (E : Int) (name : ByteArray) (valid next : Int) (L : List Letr) (e : Ending) (w' : World) : Prop :=
  Below W.heap.size W w' ∧ (E ≠ 0 → e = .returned (.tuple #[boxV0, .int .i64 E])) ∧
  (E = 0 → ∃ a c qs, e = .returned (.tuple #[boxV name valid next (.slice a qs.length c), .int .i64 0]) ∧ Lets w' (.slice a qs.length c) qs ∧ qs.map (·.1) = L)
theorem TurnR.bad {W w' : World} {name : ByteArray} {valid next : Int} {L : List Letr} {E x : Int} (hx : E = x) (h0 : x ≠ 0) (hb : Below W.heap.size W w') :
    TurnR W E name valid next L (.returned (.tuple #[boxV0, .int .i64 x])) w' :=
  ⟨hb, fun _ => by rw [hx], fun h => absurd (hx.symm.trans h) h0⟩

set_option maxHeartbeats 4000000 in
set_option maxRecDepth 100000 in
theorem rcut_any (name : ByteArray) (valid next : Int) (sv : Value) (ps : List LV) (u : Int) (w : World) (h : Lets w sv ps) (hlen : ps.length ≤ 9223372036854775807) :
    Calls Try.prog 21 #[boxV name valid next sv, .int .i64 u] w (TurnR w (cutE valid next (ps.map (·.1)) u) name valid next (cutL (ps.map (·.1)) u)) := by
  have hb0 : Below w.heap.size w ((w.alloc (.cells #[.string name, .int .i64 valid, .int .i64 next, sv] 24)).alloc (.cells #[.string ⟨#[]⟩, .int .i64 0, .int .i64 0, .slice none 0 0] 24)) := ((Below.refl _ w).alloc (Nat.le_refl _) _).alloc (by simp) _
  have h0 := h.below hb0
  have hBx : BoxW ((w.alloc (.cells #[.string name, .int .i64 valid, .int .i64 next, sv] 24)).alloc (.cells #[.string ⟨#[]⟩, .int .i64 0, .int .i64 0, .slice none 0 0] 24)) w.heap.size name valid next sv :=
    (BoxW.new w name valid next sv 24).below ((Below.refl _ _).alloc (Nat.le_refl _) _) (by simp)
  have hBr : BoxW ((w.alloc (.cells #[.string name, .int .i64 valid, .int .i64 next, sv] 24)).alloc (.cells #[.string ⟨#[]⟩, .int .i64 0, .int .i64 0, .slice none 0 0] 24)) (w.heap.size + 1) ⟨#[]⟩ 0 0 (.slice none 0 0) := by
    have := BoxW.new (w.alloc (.cells #[.string name, .int .i64 valid, .int .i64 next, sv] 24)) ⟨#[]⟩ 0 0 (.slice none 0 0) 24
    simpa using this
  have hsz0 : ((w.alloc (.cells #[.string name, .int .i64 valid, .int .i64 next, sv] 24)).alloc (.cells #[.string ⟨#[]⟩, .int .i64 0, .int .i64 0, .slice none 0 0] 24)).heap.size = w.heap.size + 2 := by simp
  have hck := refCheck name valid next sv ps _ h0 hlen
  have hok := fun h => (chk_ok (valid := valid) (next := next) (l := ps.map (·.1)) h).2.2.1
  rw [List.length_map] at hok
  have hhas := hasU_find u ps
  have HLT := Lib.hid (fun q (hq : q ∈ ps) g (hg : q.2.ownBlock = some g) (hn : q.1.bytes ≠ []) => (h.bytes q hq).lt g hg hn)
  obtain ⟨sa, sc, rfl, _⟩ := h.shape
  generalize hX : cutE valid next (ps.map (·.1)) u = X
  have HX := Lib.hid hX
  unfold cutE at hX
  unfold boxV at hck ⊢
  generalize chk valid next (ps.map (·.1)) = ck at *
  have HCK := Lib.hid hck
  have HOK := Lib.hid hok
  have HBX := Lib.hid hBx
  have HBR := Lib.hid hBr
  have HB0 := Lib.hid hb0
  have HSZ := Lib.hid hsz0
  have HXX := Lib.hid hX
  have HL0 := Lib.hid h0
  have HHAS := Lib.hid hhas
  clear hck hBx hBr hb0 hsz0 h0 h hX hok hhas
  go_enter Try.func21, Try.ntmps21
  go_wp2_with fail
  refine HCK.out.mono ?_
  rintro e w1 ⟨rfl, hb1⟩
  have hB1 := HBX.out.below hb1 (by rw [HSZ.out]; omega)
  have hR1 := HBR.out.below hb1 (by rw [HSZ.out]; omega)
  have hbb := HB0.out.trans (hb1.mono HB0.out.size)
  have HL1 := Lib.hid (HL0.out.below hb1)
  have HR1 := Lib.hid hR1
  have HBB := Lib.hid hbb
  have hz1 : w.heap.size + 2 ≤ w1.heap.size := by have := hb1.size; rw [HSZ.out] at this; exact this
  obtain ⟨c0, c1, c2, c3, f0, f1, f2, f3⟩ := hB1
  by_cases hc : ck = 0
  · subst hc
    have h32 := HOK.out rfl
    have HWI := Lib.hid (with_any name valid next (.slice sa ps.length sc) (.slice none 0 0) ps [] u w1 HL1.out (Lets.nil _ none 0) (by omega) (by simp))
    unfold boxV at HWI
    clear hb1 hbb hR1 HB0 HBX HBR HCK HSZ HL0 HOK
    go_wp2_with fail
    refine HWI.out.mono ?_
    rintro e w2 ⟨a, c, rfl, hl2, hb2, hg2⟩
    unfold boxV
    have hx2 := BoxW.new w2 name valid next (.slice a (putU u [] ps).length c) 24
    have hy2 : Below w2.heap.size w2 (w2.alloc (.cells #[.string name, .int .i64 valid, .int .i64 next, .slice a (putU u [] ps).length c] 24)) := (Below.refl _ w2).alloc (Nat.le_refl _) _
    obtain ⟨W2, hW2⟩ : ∃ W2, W2 = w2.alloc (.cells #[.string name, .int .i64 valid, .int .i64 next, .slice a (putU u [] ps).length c] 24) := ⟨_, rfl⟩
    rw [← hW2] at hx2 hy2
    have HW2 := Lib.hid hW2
    have hbw := hb2.trans (hy2.mono hb2.size)
    have hR2 := HR1.out.below hbw (by omega)
    have hB2 := HBB.out.trans (hbw.mono HBB.out.size)
    have hX := HXX.out
    rw [if_neg (by simp)] at hX
    have HL2 := Lib.hid (hl2.below hy2)
    by_cases hf : findU (ps.map (·.1)) u = (ps.map (·.1)).length
    · rw [if_pos hf] at hX
      subst hX
      have hu : hasU u ps = false := by rw [HHAS.out, decide_eq_false_iff_not]; exact fun h => h hf
      obtain ⟨W4, hW4, hb4, hf4⟩ := hR2.put4 ⟨#[]⟩ 0 0 (.slice none 0 0)
      have HW4 := Lib.hid hW4
      have HB4 := Lib.hid (hB2.trans (hf4.below hB2.size (fun k e => by omega)))
      obtain ⟨k0, k1, k2, k3, _⟩ := hb4
      obtain ⟨r0, r1, r2, r3, s0, s1, s2, s3⟩ := hR2
      clear c0 c1 c2 c3 f0 f1 f2 f3 hW2 hb2 hg2 hl2 hx2 hy2 hbw hB2 hW4 hf4 HXX HWI HHAS hf
      go_wp2_with (first | rw [← HW2.out])
      rw [← HW4.out]
      exact bodyPost_ret (v := .tuple #[boxV0, .int .i64 9]) (by simp [results, Try.results21, go_sem, k0, k1, k2, k3, boxV0, boxV]) rfl (TurnR.bad rfl (by decide) HB4.out)
    · rw [if_neg hf] at hX
      subst hX
      have hu : hasU u ps = true := by rw [HHAS.out, decide_eq_true_iff]; exact hf
      obtain ⟨W4, hW4, hb4, hf4⟩ := hR2.put4 name valid next (.slice a (putU u [] ps).length c)
      have HW4 := Lib.hid hW4
      have hq4 : Lets W4 (.slice a (putU u [] ps).length c) (putU u [] ps) := by
        refine Lets.fr (b := w.heap.size + 1) HL2.out ⟨fun _ e => by have := hg2 _ e; omega, fun q hq hn e => ?_⟩ hf4
        rcases putU_mem hq with hq | hq
        · simp at hq
        · have := HLT.out q hq _ e hn; omega
      have HEND := Lib.hid (show TurnR w 0 name valid next (cutL (ps.map (·.1)) u) (.returned (.tuple #[.agg #[.string name, .int .i64 valid, .int .i64 next, .slice a (putU u [] ps).length c], .int .i64 0])) W4 from
        ⟨hB2.trans (hf4.below hB2.size (fun k e => by omega)), fun h => absurd rfl h, fun _ => ⟨a, c, putU u [] ps, rfl, hq4, putU_cut u ps⟩⟩)
      obtain ⟨k0, k1, k2, k3, _⟩ := hb4
      obtain ⟨r0, r1, r2, r3, s0, s1, s2, s3⟩ := hR2
      obtain ⟨t0, t1, t2, t3, _⟩ := hx2
      clear c0 c1 c2 c3 f0 f1 f2 f3 hW2 hb2 hg2 hl2 hy2 hbw hB2 hW4 hf4 HXX HWI HHAS hf hq4
      go_wp2_with (first | rw [← HW2.out])
      rw [← HW4.out]
      exact bodyPost_ret (v := .tuple #[.agg #[.string name, .int .i64 valid, .int .i64 next, .slice a (putU u [] ps).length c], .int .i64 0]) (by simp [results, Try.results21, go_sem, k0, k1, k2, k3]) rfl HEND.out
  · have hc' : (ck != 0) = true := by simpa using hc
    have hX := HXX.out
    rw [if_pos hc] at hX
    subst hX
    obtain ⟨W4, hW4, hb4, hf4⟩ := hR1.put4 ⟨#[]⟩ 0 0 (.slice none 0 0)
    have HW4 := Lib.hid hW4
    have HB4 := Lib.hid (hbb.trans (hf4.below hbb.size (fun k e => by omega)))
    obtain ⟨k0, k1, k2, k3, _⟩ := hb4
    obtain ⟨r0, r1, r2, r3, s0, s1, s2, s3⟩ := hR1
    clear hb1 hbb hW4 hf4 HB0 HBX HBR HCK HSZ HL0 HOK HXX HHAS
    go_wp2
    rw [← HW4.out]
    exact bodyPost_ret (v := .tuple #[boxV0, .int .i64 ck]) (by simp [results, Try.results21, go_sem, k0, k1, k2, k3, boxV0, boxV]) rfl (TurnR.bad rfl hc HB4.out)
end Go.Proofs.Ytpmakbjchepkmaa
