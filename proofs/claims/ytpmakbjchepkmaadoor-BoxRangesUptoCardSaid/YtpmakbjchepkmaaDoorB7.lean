/- Box: clone, walked. -/
import Derived.Test.YtpmakbjchepkmaaDoorB6
import Derived.IntWalk
import Derived.Deep.Onto
namespace Go.Proofs.YtpmakbjchepkmaaDoor
open Go Go.RowKit

/-- What clone tells: the box, its letters and their bytes new memory. -/
def CloneR (W : World) (name : ByteArray) (valid next : Int) (ps : List LV) (e : Ending) (w' : World) : Prop :=
  ∃ a c qs, e = .returned (.agg #[.string name, .int .i64 valid, .int .i64 next, .slice a qs.length c]) ∧ Owns W.heap.size w' (.slice a qs.length c) qs ∧ qs.map (·.1) = ps.map (·.1) ∧
    (∀ q ∈ qs, Row W.heap.size w' q.2 q.1.bytes ∧ ∀ g, a = some ⟨g, 0, none⟩ → q.2.ownBlock ≠ some g) ∧ Below W.heap.size W w'
theorem Half.start {W w0 : World} {g cap : Nat} {ps : List LV} {B : Nat} (ho : Owns B w0 (.slice (some ⟨g, 0, none⟩) ps.length cap) ps) (hB : W.heap.size ≤ B) (hb : Below W.heap.size W w0) (hs : W.heap.size + 2 ≤ w0.heap.size) : Half W w0 g cap ps ps 0 :=
  ⟨World.ownsRow.mono ho hB, rfl, fun i q hi => by omega, hs, fun _ _ => rfl, hb⟩

structure Stage (W wr : World) (a : Option Addr) (c : Nat) (ps qs : List LV) (k : Nat) : Prop where
  own : Owns W.heap.size wr (.slice a ps.length c) qs
  half : ps ≠ [] → ∃ g, a = some ⟨g, 0, none⟩ ∧ W.heap.size + 2 ≤ g ∧ Half W wr g c ps qs k
  nil : ps = [] → qs = []
  start : a = none ∨ ∃ g, a = some ⟨g, 0, none⟩ ∧ W.heap.size + 2 ≤ g
  below : Below W.heap.size W wr
theorem Stage.first {W w0 : World} {a : Option Addr} {c : Nat} {ps : List LV} (ho : Owns (W.heap.size + 2) w0 (.slice a ps.length c) ps) (hb : Below W.heap.size W w0) (hs : W.heap.size + 2 ≤ w0.heap.size) : Stage W w0 a c ps ps 0 := by
  refine ⟨World.ownsRow.mono ho (by omega), fun hne => ?_, fun h => h, ?_, hb⟩
  rotate_left
  · rcases ho.2 with ⟨e, _⟩ | ⟨g, cap, cur, e, hg, _⟩
    · injection e with e1; exact Or.inl e1
    · injection e with e1; exact Or.inr ⟨g, e1, hg⟩
  rcases ho.2 with ⟨_, h0⟩ | ⟨g, cap, cur, e, hg, _⟩
  · exact absurd (List.eq_nil_of_length_eq_zero h0) hne
  · injection e with e1 _ e3
    subst e1
    subst e3
    exact ⟨g, rfl, hg, Half.start ho (by omega) hb hs⟩
theorem Stage.step {W wr wn : World} {g c : Nat} {ps qs : List LV} {k : Nat} (h : Half W wr g c ps qs k) (hg : W.heap.size + 2 ≤ g) (p : LV) (hp : ps[k]? = some p) (a : Option Addr) (m : Nat)
    (hrow : Row wr.heap.size wn (.slice a p.1.bytes.length m) p.1.bytes) (hb : Below wr.heap.size wr wn) :
    Stage W (wn.setCell ⟨g, k * 3 + 2, none⟩ (.slice a p.1.bytes.length m)) (some ⟨g, 0, none⟩) c ps (qs.set k (p.1, .slice a p.1.bytes.length m)) (k + 1) := by
  have hs := h.step p hp a m hrow hb
  exact ⟨hs.own, fun _ => ⟨g, rfl, hg, hs⟩, fun e => by subst e; simp at hp, Or.inr ⟨g, rfl, hg⟩, hs.below⟩
theorem Stage.done {W wr w' : World} {a : Option Addr} {c : Nat} {ps qs : List LV} {name : ByteArray} {valid next : Int} (h : Stage W wr a c ps qs ps.length) (hf : Fr (· = W.heap.size + 1) wr w') :
    CloneR W name valid next ps (.returned (.agg #[.string name, .int .i64 valid, .int .i64 next, .slice a ps.length c])) w' := by
  have hbw : Below W.heap.size W w' := h.below.trans (hf.below h.below.size (fun k e => by subst e; omega))
  by_cases hne : ps = []
  · have hq := h.nil hne
    have hown := h.own
    subst hne hq
    refine ⟨a, c, [], rfl, ?_, rfl, fun q hq => by simp at hq, hbw⟩
    rcases h.start with rfl | ⟨g, rfl, hg⟩
    · rcases hown.2 with ⟨e, _⟩ | ⟨_, _, _, e, _⟩
      · rw [e]; exact World.ownsRow_nil ..
      · cases e
    · exact owns_frame hown (fun k hk => hf.block k (World.ownsRow.lt hown k hk).2 (by simp [Value.ownBlock] at hk; omega))
  · obtain ⟨g, rfl, hg, hh⟩ := h.half hne
    have hlen : qs.length = ps.length := by have := congrArg List.length hh.same; simpa using this
    refine ⟨_, c, qs, by rw [hlen], by rw [hlen]; exact owns_frame hh.own (fun k hk => hf.block k (World.ownsRow.lt hh.own k hk).2 (by simp [Value.ownBlock] at hk; omega)), hh.same, fun q hq => ?_, hbw⟩
    obtain ⟨i, hi⟩ := List.getElem?_of_mem hq
    have hil := (List.getElem?_eq_some_iff.1 hi).1
    obtain ⟨r1, r2⟩ := hh.done i q (by omega) hi
    have r3 := r1.kept hf.size (fun x hx => hf.block x (r1.1.lt x hx) (by
      obtain ⟨ad, n', c', e⟩ : ∃ ad n' c', q.2 = .slice (some ad) n' c' := by
        obtain ⟨a0, c0, e0, _⟩ := r1.1.shape
        rw [e0] at hx ⊢
        cases a0 with
        | none => simp [Value.ownBlock] at hx
        | some ad => exact ⟨ad, _, _, rfl⟩
      have := (r1.2 ad n' c' e).1
      rw [e] at hx
      simp [Value.ownBlock] at hx
      omega))
    exact ⟨⟨r3.1, fun ad n' c' e => by obtain ⟨z1, z2⟩ := r3.2 ad n' c' e; exact ⟨by omega, z2⟩⟩, fun g' e => by cases e; exact r2⟩

set_option maxHeartbeats 4000000 in
set_option maxRecDepth 100000 in
theorem clone_any (name : ByteArray) (valid next : Int) (sv : Value) (ps : List LV) (w : World) (h : Lets w sv ps) (hl : ps.length ≤ 1000) (hby : ∀ p ∈ ps, p.1.bytes.length ≤ 1000000) :
    Calls Tryd.prog 28 #[boxV name valid next sv] w (CloneR w name valid next ps) := by
  have hb0 : Below w.heap.size w ((w.alloc (.cells #[.string name, .int .i64 valid, .int .i64 next, sv] 40)).alloc (.cells #[.string ⟨#[]⟩, .int .i64 0, .int .i64 0, .slice none 0 0] 40)) := ((Below.refl _ w).alloc (Nat.le_refl _) _).alloc (by simp) _
  have h0 := h.below hb0
  have hBx : BoxW ((w.alloc (.cells #[.string name, .int .i64 valid, .int .i64 next, sv] 40)).alloc (.cells #[.string ⟨#[]⟩, .int .i64 0, .int .i64 0, .slice none 0 0] 40)) w.heap.size name valid next sv :=
    (BoxW.new w name valid next sv 40).below ((Below.refl _ _).alloc (Nat.le_refl _) _) (by simp)
  have hBr : BoxW ((w.alloc (.cells #[.string name, .int .i64 valid, .int .i64 next, sv] 40)).alloc (.cells #[.string ⟨#[]⟩, .int .i64 0, .int .i64 0, .slice none 0 0] 40)) (w.heap.size + 1) ⟨#[]⟩ 0 0 (.slice none 0 0) := by
    have := BoxW.new (w.alloc (.cells #[.string name, .int .i64 valid, .int .i64 next, sv] 40)) ⟨#[]⟩ 0 0 (.slice none 0 0) 40
    simpa using this
  have hsz0 : ((w.alloc (.cells #[.string name, .int .i64 valid, .int .i64 next, sv] 40)).alloc (.cells #[.string ⟨#[]⟩, .int .i64 0, .int .i64 0, .slice none 0 0] 40)).heap.size = w.heap.size + 2 := by simp
  unfold boxV
  have hcl := lclone_any sv ps _ h0 hl
  have HCL := Lib.hid hcl
  have HBX := Lib.hid hBx
  have HBR := Lib.hid hBr
  have HB0 := Lib.hid hb0
  have HSZ := Lib.hid hsz0
  have HL0 := Lib.hid h0
  have HLW := Lib.hid h
  have HBY := Lib.hid hby
  obtain ⟨sa, sc, rfl, _⟩ := h.shape
  clear hcl hBx hBr hb0 hsz0 h0 h hby
  go_enter Tryd.func28, Tryd.ntmps28
  go_wp2_with fail
  refine HCL.out.mono ?_
  rintro e w1 ⟨a, c, rfl, hown, hb1⟩
  have hB1 := HBX.out.below hb1 (by rw [HSZ.out]; omega)
  have hR1 := HBR.out.below hb1 (by rw [HSZ.out]; omega)
  have hbb := HB0.out.trans (hb1.mono HB0.out.size)
  have hL1 := HL0.out.below hb1
  have hz1 := hb1.size
  rw [HSZ.out] at hz1 hown
  generalize ((w.alloc (.cells #[.string name, .int .i64 valid, .int .i64 next, .slice sa ps.length sc] 40)).alloc (.cells #[.string ⟨#[]⟩, .int .i64 0, .int .i64 0, .slice none 0 0] 40)) = W0 at *
  have hset := hB1.set3 (.slice a ps.length c)
  have hR2 : BoxW (w1.setCell ⟨w.heap.size, 3, none⟩ (.slice a ps.length c)) (w.heap.size + 1) ⟨#[]⟩ 0 0 (.slice none 0 0) := hR1.kept (setCell_kept _ _ _ _ (by simp))
  have hown2 : Owns (w.heap.size + 2) (w1.setCell ⟨w.heap.size, 3, none⟩ (.slice a ps.length c)) (.slice a ps.length c) ps := owns_frame hown (fun k hk => setCell_kept _ _ _ _ (by have := (World.ownsRow.lt hown k hk).1; simp only; omega))
  have hbb2 : Below w.heap.size w (w1.setCell ⟨w.heap.size, 3, none⟩ (.slice a ps.length c)) := hbb.setCell (Nat.le_refl _) _
  have hz2 : w.heap.size + 2 ≤ (w1.setCell ⟨w.heap.size, 3, none⟩ (.slice a ps.length c)).heap.size := by simp [World.setCell]; exact hz1
  obtain ⟨c0, c1, c2, c3, f0, f1, f2, f3⟩ := hB1
  have HS := Lib.hid hset
  have HR2 := Lib.hid hR2
  have HO2 := Lib.hid hown2
  have HBB := Lib.hid hbb2
  have HZ2 := Lib.hid hz2
  clear hset hR2 hown2 hbb2 hz2 hown hR1 hbb hL1 hb1 HCL HBX HBR HB0 HSZ
  go_wp2
  go_loopw [11] (fun i wr => ∃ (k : Nat) (qs : List LV), k ≤ ps.length ∧ i = .int .i64 k ∧ BoxW wr w.heap.size name valid next (.slice a ps.length c) ∧ BoxW wr (w.heap.size + 1) ⟨#[]⟩ 0 0 (.slice none 0 0) ∧ Stage w wr a c ps qs k) (fun i _ => ps.length - (intOf i).toNat)
  case atStart => exact ⟨0, ps, Nat.zero_le _, rfl, HS.out, HR2.out, Stage.first HO2.out HBB.out HZ2.out⟩
  case round =>
    clear c0 c1 c2 c3 f0 f1 f2 f3
    obtain ⟨k, qs, hk, rfl, hB, hR, hst⟩ := hrel
    have hB' := hB
    have hR' := hR
    obtain ⟨c0, c1, c2, c3, f0, f1, f2, f3⟩ := hB'
    have HB := Lib.hid hB
    have HR := Lib.hid hR
    have hlt1 := hR.lt
    by_cases hlt : k < ps.length
    · have hp := List.getElem?_eq_getElem hlt
      generalize ps[k] = p at hp
      have hne : ps ≠ [] := fun e => by subst e; simp at hlt
      obtain ⟨g, rfl, hg, hh⟩ := hst.half hne
      have hpm := List.mem_of_getElem? hp
      have hq : qs[k]? = some p := (hh.rest k (Nat.le_refl _)).trans hp
      have hqs : qs.length = ps.length := by have := congrArg List.length hh.same; simpa using this
      have hby := (HLW.out.bytes p hpm).below hh.below
      obtain ⟨⟨ba, bc, hbv⟩, _⟩ := id hby
      have hown : wr.ownsRow w.heap.size 68 3 (.slice (some ⟨g, 0, none⟩) ps.length c) ps.length (cellsP qs) := by have := hh.own; unfold Owns at this; rwa [hqs] at this
      have d2 : wr.cell? ⟨g, k * 3 + 2, none⟩ = some p.2 := by
        have := World.ownsRow.cells hown (g := g) rfl (k * 3 + 2) _ (cellsP_at qs k p hq).2.2
        rwa [addr_plus, Nat.zero_add] at this
      have e2 : wr.frozen? ⟨g, k * 3 + 2, none⟩ = false := (owns_there hown (k * 3) 3 (by omega) 2 (by omega)).2
      have hgl := (World.ownsRow.lt hown g rfl).2
      rw [hbv] at d2 hby
      have hC : ∀ W, Below wr.heap.size wr W → Calls Tryd.prog 29 #[.slice ba p.1.bytes.length bc] W (BytesR W p.1.bytes) := fun W hW => bclone_any _ _ _ (hby.below hW) (HBY.out p hpm)
      have HD := Lib.hid d2
      have HE := Lib.hid e2
      have HH := Lib.hid hh
      have HP := Lib.hid hp
      have HC := Lib.hid hC
      have hlt2 : w.heap.size < wr.heap.size := by omega
      clear hh hp hC hown hq hqs hpm hne hst hby hbv hB hR
      go_wp2_with fail
      go_region_with (go_at_call 29; (with_reducible refine (HC.out _ ((Below.refl _ _).drew)).mono ?_); rintro e wn ⟨ba', bc', rfl, hrow, hbn⟩; have hbn : Below wr.heap.size wr wn := (Below.refl _ wr).drew.trans hbn; obtain ⟨n0, n1, n2, n3, m0, m1, m2, m3⟩ := HB.out.below hbn hlt2; have x2 := (hbn.cell (p := ⟨g, k * 3 + 2, none⟩) hgl).trans HD.out; have xf := (hbn.frozen (p := ⟨g, k * 3 + 2, none⟩) hgl).trans HE.out)
      all_goals
        have hrow' : Row wr.heap.size wn (.slice ba' p.1.bytes.length bc') p.1.bytes := hrow
        have hst' := Stage.step HH.out hg p HP.out ba' bc' hrow' hbn
        have hB2 : BoxW (wn.setCell ⟨g, k * 3 + 2, none⟩ (.slice ba' p.1.bytes.length bc')) w.heap.size name valid next (.slice (some ⟨g, 0, none⟩) ps.length c) := (HB.out.below hbn hlt2).kept (setCell_kept _ _ _ _ (by simp only; omega))
        have hR2 : BoxW (wn.setCell ⟨g, k * 3 + 2, none⟩ (.slice ba' p.1.bytes.length bc')) (w.heap.size + 1) ⟨#[]⟩ 0 0 (.slice none 0 0) := (HR.out.below hbn hlt1).kept (setCell_kept _ _ _ _ (by simp only; omega))
        have HS1 := Lib.hid hst'
        have HS2 := Lib.hid hB2
        have HS3 := Lib.hid hR2
        clear hst' hB2 hR2 hrow hrow' n0 n1 n2 n3 m0 m1 m2 m3 x2 xf c0 c1 c2 c3 f0 f1 f2 f3 hbn
        generalize wn.setCell ⟨g, k * 3 + 2, none⟩ (.slice ba' p.1.bytes.length bc') = W3 at *
        go_wp2
        go_roundw
        case rel => exact ⟨k + 1, _, by omega, by go_num, HS2.out, HS3.out, HS1.out⟩
        case measure => simp [intOf]; omega
    · have hk : k = ps.length := by omega
      subst hk
      obtain ⟨p0, p1, p2, p3, q0, q1, q2, q3⟩ := id hR
      have HST := Lib.hid hst
      clear hst hB hR
      go_wp2
      obtain ⟨W4, hW4, hb4, hf4⟩ := HR.out.put4 name valid next (.slice a ps.length c)
      rw [← hW4]
      obtain ⟨k0, k1, k2, k3, _⟩ := hb4
      exact bodyPost_ret (v := .agg #[.string name, .int .i64 valid, .int .i64 next, .slice a ps.length c]) (by simp [results, Tryd.results28, go_sem, k0, k1, k2, k3]) rfl (HST.out.done hf4)
end Go.Proofs.YtpmakbjchepkmaaDoor
