/- Box: BoxFinds, walked. -/
import Derived.Test.YtpmakbjchepkmaaBF7
import Derived.Test.YtpmakbjchepkmaaBR1
namespace Go.Proofs.Ytpmakbjchepkmaa
open Go Go.RowKit

theorem OwnsI.nums {B : Nat} {w : World} {v : Value} {l : List Int} (h : OwnsI B w v l) : Nums w v l := by
  refine ⟨by obtain ⟨a, c, e, _⟩ := owns_shape h; exact ⟨a, c, e⟩, fun hne => ?_⟩
  rcases h.2 with ⟨_, h0⟩ | ⟨g, cap, cur, rfl, _, hg, _⟩
  · exact absurd (List.eq_nil_of_length_eq_zero h0) hne
  · refine ⟨g, 0, cap, rfl, (Array.getElem?_eq_some_iff.1 hg).1, fun j u hu => ?_⟩
    have := World.ownsRow.cells h (g := g) rfl j (.int .i64 u) (by rw [List.getElem?_map, hu]; rfl)
    rwa [addr_plus] at this
theorem Nums.opened {w : World} {v : Value} {l : List Int} (h : Nums w v l) : ∃ a cap, v = .slice a l.length cap ∧ ∃ g off, (l ≠ [] → a = some ⟨g, off, none⟩ ∧ g < w.heap.size) ∧ ∀ (i : Nat) (x : Int), l[i]? = some x → w.cell? ⟨g, off + i, none⟩ = some (.int .i64 x) := by
  by_cases hne : l = []
  · obtain ⟨a, cap, e⟩ := h.shape
    exact ⟨a, cap, e, 0, 0, fun h => absurd hne h, fun i p hp => by subst hne; simp at hp⟩
  · obtain ⟨g, off, cap, e, hg, hc⟩ := h.cells hne
    exact ⟨_, cap, e, g, off, fun _ => ⟨rfl, hg⟩, hc⟩
/-- What either Find tells, in one form. -/
def FindT (W : World) (E : Int) (L : List Int) (e : Ending) (w' : World) : Prop :=
  ∃ a c, e = .returned (.tuple #[.slice a L.length c, .int .i64 E]) ∧ Nums w' (.slice a L.length c) L ∧ Below W.heap.size W w'
theorem FindR.tell {W w' : World} {valid next : Int} {ps : List LV} {qs : List Qry} {e : Ending} (h : FindR W valid next ps qs e w') :
    FindT W (findE valid next (ps.map (·.1)) qs) (if findE valid next (ps.map (·.1)) qs = 0 then findL qs (ps.map (·.1)) else []) e w' := by
  obtain ⟨hb, hbad, hok⟩ := h
  by_cases hE : findE valid next (ps.map (·.1)) qs = 0
  · obtain ⟨a, c, e1, e2⟩ := hok hE
    rw [if_pos hE, hE]
    exact ⟨a, c, e1, e2.nums, hb⟩
  · rw [if_neg hE]
    exact ⟨none, 0, hbad hE, ⟨⟨none, 0, rfl⟩, fun h => absurd rfl h⟩, hb⟩
theorem rfind_any (name : ByteArray) (valid next : Int) (sv qv : Value) (ps : List LV) (qs : List Qry) (w : World) (h : Lets w sv ps) (hlen : ps.length ≤ 9223372036854775807) (hq : Qrys w qv qs) (hqt : ∀ q ∈ qs, q.text.size ≤ 9223372036854775807) :
    Calls Try.prog 23 #[boxV name valid next sv, qv] w (FindR w valid next ps qs) := by
  by_cases hc : chk valid next (ps.map (·.1)) = 0
  · by_cases hl : qs.length ≤ 16
    · exact rfind_ok name valid next sv qv ps qs w h hq hqt hc hl
    · exact rfind_bad name valid next sv qv ps qs w h hlen hq (Or.inr (by omega))
  · exact rfind_bad name valid next sv qv ps qs w h hlen hq (Or.inl hc)
theorem find_len {valid next : Int} {l : List Letr} {qs : List Qry} : (if findE valid next l qs = 0 then findL qs l else []).length ≤ 32 := by
  split
  · rename_i hE
    unfold findE at hE
    split at hE
    · rename_i h0; exact absurd hE h0
    · rename_i h0
      have := (chk_ok (by simpa using h0)).2.2.1
      unfold findL
      rw [List.length_map]
      exact Nat.le_trans (List.length_filter_le _ _) this
  · simp

set_option maxHeartbeats 4000000 in
set_option maxRecDepth 100000 in
theorem walk_finds (name : ByteArray) (valid next : Int) (sv qv : Value) (ps : List LV) (qs : List Qry) (w : World) (h : BoxIn w name valid next sv ps) (hq : Qrys w qv qs) (hqt : ∀ q ∈ qs, q.text.size ≤ 9223372036854775807) (hM : Ml w) :
    Calls Try.prog 8 #[boxV name valid next sv, qv] w fun e w' => e = .returned (.bool true) ∧ Below w.heap.size w w' := by
  have hb0 : Below w.heap.size w (w.alloc (.cells #[.string name, .int .i64 valid, .int .i64 next, sv] 24)) := (Below.refl _ w).alloc (Nat.le_refl _) _
  have hbx := BoxW.new w name valid next sv 24
  obtain ⟨W0, hW0⟩ : ∃ W0, W0 = w.alloc (.cells #[.string name, .int .i64 valid, .int .i64 next, sv] 24) := ⟨_, rfl⟩
  rw [← hW0] at hb0 hbx
  have hl0 := h.lets.below hb0
  have hq0 := hq.below hb0
  have hM0 := hM.below hb0
  have hlen := h.len
  have hf := (find_any name valid next sv qv ps qs W0 hl0 hlen hq0 hM0).mono fun e w' hr => hr.tell
  have hg := fun W (hW : Below W0.heap.size W0 W) => (rfind_any name valid next sv qv ps qs W (hl0.below hW) hlen (hq0.below hW) hqt).mono fun e w' hr => hr.tell
  have hL := find_len (valid := valid) (next := next) (l := ps.map (·.1)) (qs := qs)
  obtain ⟨sa, sc, rfl, _⟩ := h.lets.shape
  obtain ⟨qa, qc, rfl⟩ := hq.shape
  generalize (if findE valid next (ps.map (·.1)) qs = 0 then findL qs (ps.map (·.1)) else []) = L at *
  generalize findE valid next (ps.map (·.1)) qs = E at *
  unfold boxV at hf hg ⊢
  have HF := Lib.hid hf
  have HG := Lib.hid hg
  have HMM := Lib.hid hM0
  have HB := Lib.hid hb0
  have HW := Lib.hid hW0
  have HBX := Lib.hid hbx
  obtain ⟨c0, c1, c2, c3, _⟩ := id hbx
  clear hf hg hb0 hbx hW0 hl0 hq0 hM0 hM h hq hqt hlen
  go_enter Try.func8, Try.ntmps8
  go_wp2_with (rw [← HW.out])
  refine HF.out.mono ?_
  rintro e w1 ⟨a1, k1, rfl, hn1, hb1⟩
  have HN1 := Lib.hid hn1
  have HB1 := Lib.hid hb1
  have HG1 := Lib.hid (HG.out w1 hb1)
  clear c0 c1 c2 c3 hb1 hn1 HF HG
  obtain ⟨c0, c1, c2, c3, _⟩ := HBX.out.below HB1.out HBX.out.lt
  go_wp2_with fail
  refine HG1.out.mono ?_
  rintro e w2 ⟨a2, k2, rfl, hn2, hb2⟩
  have hb02 := HB1.out.trans (hb2.mono HB1.out.size)
  obtain ⟨b1, m1, e1, g1, o1, hg1, hc1⟩ := (HN1.out.below hb2).opened
  obtain ⟨b2, m2, e2, g2, o2, hg2, hc2⟩ := hn2.opened
  cases e1
  cases e2
  have HG1' := Lib.hid hg1
  have HG2' := Lib.hid hg2
  have HC1 := Lib.hid hc1
  have HC2 := Lib.hid hc2
  have HB2 := Lib.hid hb02
  have HLV := Lib.hid (fun W (hb : Below w2.heap.size w2 W) => live_any W (HMM.out.below (hb02.trans (hb.mono hb02.size))))
  clear c0 c1 c2 c3 hb2 hb02 hn2 hg1 hg2 hc1 hc2 HG1 HN1 HB1 HBX
  go_wp2_with fail
  go_loopw [9] (fun i wr => ∃ k : Nat, k ≤ L.length ∧ i = .int .i64 k ∧ Below w2.heap.size w2 wr) (fun i _ => L.length - (intOf i).toNat)
  case atStart => exact ⟨0, Nat.zero_le _, rfl, Below.refl _ _⟩
  case round =>
    obtain ⟨k, hk, rfl, hb⟩ := hrel
    have HBW := Lib.hid hb
    by_cases hlt : k < L.length
    · have hp := List.getElem?_eq_getElem hlt
      generalize L[k] = x at hp
      have hne : L ≠ [] := fun e => by subst e; simp at hlt
      obtain ⟨rfl, hgl1⟩ := HG1'.out hne
      obtain ⟨rfl, hgl2⟩ := HG2'.out hne
      have m0 := (hb.cell (p := ⟨g1, o1 + k, none⟩) hgl1).trans (HC1.out k x hp)
      have n0 := (hb.cell (p := ⟨g2, o2 + k, none⟩) hgl2).trans (HC2.out k x hp)
      have hk1 : (k : Int) < (L.length : Int) := by omega
      clear hp hne hb
      go_wp2_with fail
      go_quiet (fail)
      have HBW2 := Lib.hid (HBW.out.trans (show Below _ wr (wr.drewN nq) from ⟨rfl, rfl, rfl, Nat.le_refl _, fun _ _ => rfl⟩))
      clear m0 n0
      generalize wr.drewN nq = W2 at *
      go_wp2
      go_roundw
      case rel => exact ⟨k + 1, by omega, by go_num, HBW2.out⟩
      case measure => simp [intOf]; omega
    · have HL2 := Lib.hid (HLV.out wr hb)
      clear hb
      go_wp2_with fail
      refine HL2.out.mono ?_
      rintro e w4 ⟨rfl, hb4⟩
      have hb24 := HBW.out.trans (hb4.mono HBW.out.size)
      go_wp2
      go_ret
      exact ⟨rfl, HB.out.trans ((HB2.out.trans (hb24.mono HB2.out.size)).mono HB.out.size)⟩
end Go.Proofs.Ytpmakbjchepkmaa
