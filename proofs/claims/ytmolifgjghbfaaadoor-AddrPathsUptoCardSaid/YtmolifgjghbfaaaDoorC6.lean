/- The code's parts of an address: parted. -/
import Derived.Test.YtmolifgjghbfaaaDoorC5
namespace Go.Proofs.YtmolifgjghbfaaaDoor
open Go.RowKit

def resB (t : Took) : Value := .tuple #[.agg #[.string ⟨t.1.toArray⟩, .string ⟨t.2.1.toArray⟩], .int .i64 t.2.2.2]
theorem bcell {W w1 : World} (hb : Below W.heap.size W w1) : (∀ b o, b < W.heap.size → w1.cell? ⟨b, o, none⟩ = W.cell? ⟨b, o, none⟩) ∧ (∀ b o, b < W.heap.size → w1.frozen? ⟨b, o, none⟩ = W.frozen? ⟨b, o, none⟩) :=
  ⟨fun b o h => hb.cell (p := ⟨b, o, none⟩) h, fun b o h => hb.frozen (p := ⟨b, o, none⟩) h⟩

/-- A block that holds two values, and may be written. -/
def Two (W : World) (g : Nat) (x y : Value) : Prop :=
  W.cell? ⟨g, 0, none⟩ = some x ∧ W.cell? ⟨g, 1, none⟩ = some y ∧ W.frozen? ⟨g, 0, none⟩ = false ∧ W.frozen? ⟨g, 1, none⟩ = false
theorem Two.new (w : World) (t : TypeId) (x y : Value) : Two (w.alloc (.cells #[x, y] t)) w.heap.size x y :=
  ⟨World.cell?_alloc_new _ _ _ _, World.cell?_alloc_new _ _ _ _, World.frozen?_alloc_new _ _ _ _, World.frozen?_alloc_new _ _ _ _⟩
theorem Two.below {B g : Nat} {w w' : World} {x y : Value} (h : Two w g x y) (hb : Below B w w') (hg : g < B) : Two w' g x y :=
  ⟨(hb.cell (p := ⟨g, 0, none⟩) hg).trans h.1, (hb.cell (p := ⟨g, 1, none⟩) hg).trans h.2.1, (hb.frozen (p := ⟨g, 0, none⟩) hg).trans h.2.2.1, (hb.frozen (p := ⟨g, 1, none⟩) hg).trans h.2.2.2⟩
theorem Two.alloc {g : Nat} {w : World} {x y : Value} (h : Two w g x y) (hg : g < w.heap.size) (o : Obj) : Two (w.alloc o) g x y :=
  h.below (((Below.refl _ w).alloc (Nat.le_refl _) o)) hg
theorem Two.drew {g : Nat} {w : World} {x y : Value} (h : Two w g x y) : Two w.drew g x y := h
theorem Two.drewN {g : Nat} {w : World} {x y : Value} (h : Two w g x y) (n : Nat) : Two (w.drewN n) g x y := h
theorem Two.set0 {g : Nat} {w : World} {x y : Value} (h : Two w g x y) (x' : Value) : Two (w.setCell ⟨g, 0, none⟩ x') g x' y :=
  ⟨World.cell?_setCell_same _ _ _ h.1, (World.cell?_setCell_other _ _ _ _ (by simp)).trans h.2.1, (World.frozen?_setCell ..).trans h.2.2.1, (World.frozen?_setCell ..).trans h.2.2.2⟩
theorem Two.set1 {g : Nat} {w : World} {x y : Value} (h : Two w g x y) (y' : Value) : Two (w.setCell ⟨g, 1, none⟩ y') g x y' :=
  ⟨(World.cell?_setCell_other _ _ _ _ (by simp)).trans h.1, World.cell?_setCell_same _ _ _ h.2.1, (World.frozen?_setCell ..).trans h.2.2.1, (World.frozen?_setCell ..).trans h.2.2.2⟩
theorem Two.setOther {g g' i : Nat} {w : World} {x y : Value} (h : Two w g x y) (hne : g' ≠ g) (v : Value) : Two (w.setCell ⟨g', i, none⟩ v) g x y :=
  ⟨(World.cell?_setCell_other _ _ _ _ (by simp [hne])).trans h.1, (World.cell?_setCell_other _ _ _ _ (by simp [hne])).trans h.2.1, (World.frozen?_setCell ..).trans h.2.2.1, (World.frozen?_setCell ..).trans h.2.2.2⟩

def noStr : Value := .string ⟨#[]⟩
structure Parts (w W : World) (g : Nat) (x y : Value) : Prop where
  two : Two W g x y
  res : Two W w.heap.size noStr noStr
  bel : Below w.heap.size w W
  hz : g < W.heap.size
  hg : w.heap.size < g
theorem parts_new (w W1 : World) (t : TypeId) (x y : Value) (hb : Below (w.alloc (.cells #[noStr, noStr] t)).drew.heap.size (w.alloc (.cells #[noStr, noStr] t)).drew W1) : Parts w (W1.alloc (.cells #[x, y] t)) W1.heap.size x y := by
  have hz := hb.size
  have e : (w.alloc (.cells #[noStr, noStr] t)).drew.heap.size = w.heap.size + 1 := by show (w.alloc (.cells #[noStr, noStr] t)).heap.size = _; simp
  rw [e] at hz
  have hlt : w.heap.size < (w.alloc (.cells #[noStr, noStr] t)).drew.heap.size := by omega
  refine ⟨Two.new _ _ _ _, (((Two.new w t noStr noStr).drew).below hb hlt).alloc (by omega) _, ?_, by simp, by omega⟩
  exact ((((Below.refl _ w).alloc (Nat.le_refl _) _).drew).trans (hb.mono (by omega))).alloc (by omega) _
theorem parts_set (w W1 : World) (t : TypeId) (x y : Value) (hb : Below ((w.alloc (.cells #[noStr, noStr] t)).alloc (.cells #[noStr, noStr] t)).drew.heap.size ((w.alloc (.cells #[noStr, noStr] t)).alloc (.cells #[noStr, noStr] t)).drew W1) :
    Parts w ((W1.setCell ⟨w.heap.size + 1, 0, none⟩ x).setCell ⟨w.heap.size + 1, 1, none⟩ y) (w.heap.size + 1) x y := by
  have hz := hb.size
  have e : ((w.alloc (.cells #[noStr, noStr] t)).alloc (.cells #[noStr, noStr] t)).drew.heap.size = w.heap.size + 2 := by show ((w.alloc (.cells #[noStr, noStr] t)).alloc (.cells #[noStr, noStr] t)).heap.size = _; simp
  rw [e] at hz
  have h1 : Two ((w.alloc (.cells #[noStr, noStr] t)).alloc (.cells #[noStr, noStr] t)).drew (w.heap.size + 1) noStr noStr := by
    have := Two.new (w.alloc (.cells #[noStr, noStr] t)) t noStr noStr
    rw [show (w.alloc (.cells #[noStr, noStr] t)).heap.size = w.heap.size + 1 by simp] at this
    exact this.drew
  have h0 : Two ((w.alloc (.cells #[noStr, noStr] t)).alloc (.cells #[noStr, noStr] t)).drew w.heap.size noStr noStr := ((Two.new w t noStr noStr).alloc (by simp) _).drew
  have s1 := ((h1.below hb (by omega)).set0 x).set1 y
  have s0 := ((h0.below hb (by omega)).setOther (g' := w.heap.size + 1) (i := 0) (by omega) x).setOther (g' := w.heap.size + 1) (i := 1) (by omega) y
  refine ⟨s1, s0, ?_, by simp; omega, by omega⟩
  exact (((((((Below.refl _ w).alloc (Nat.le_refl _) _).alloc (by simp) _).drew).trans (hb.mono (by omega))).setCell (by simp) _).setCell (by simp) _)

set_option maxHeartbeats 2000000 in
set_option maxRecDepth 100000 in
theorem parted_any (s : ByteArray) (a d x : List UInt8) (w : World) (hT : Tabs w) (hz : s.size ≤ 140737488355000) (hs : s.data.toList = a ++ 64 :: d) (h64 : (64 : UInt8) ∉ d) (hsay : sayF 0 a = some x) :
    Calls Tryd.prog 21 #[.string s] w fun e w' => e = .returned (resB (finF x d)) ∧ Below w.heap.size w w' := by
  obtain ⟨hl, hxa, hxd, hsz⟩ := last_at s a d hs h64
  generalize hF : finF x d = F
  have HF := Lib.hid hF
  clear hF
  have hLI : ∀ W, Calls Tryd.prog 34 #[.string s, .int .u8 64] W fun e w' => e = .returned (.int .i64 a.length) ∧ w' = W := by
    intro W
    have := Tryd.strings_LastIndexByte s 64 (by omega) W
    rw [hl] at this; exact this
  have ha0 : 0 < a.length := by
    cases a with
    | nil => unfold sayF at hsay; rw [if_neg (by omega)] at hsay; cases hsay
    | cons => simp
  have hlow : ∀ W, Calls Tryd.prog 31 #[.string ⟨d.toArray⟩] W fun e w' => e = .returned (.string ⟨(low d).toArray⟩) ∧ Below W.heap.size W w' := fun W => lower ⟨d.toArray⟩ W
  have q1 : a.length ≤ s.size := by omega
  have q2 : a.length + 1 ≤ s.size := by omega
  have q3 : (a.length : Int) ≤ (s.size : Int) := by omega
  have q4 : (a.length : Int) + 1 ≤ (s.size : Int) := by omega
  have q5 : ((a.length : Int) + 1).toNat = a.length + 1 := by omega
  have q6 : IntKind.i64.wrap ((a.length : Int) + 1) = (a.length : Int) + 1 := wrap_small _ (by omega) (by omega)
  have HSZ := Lib.hid hsz
  have hs0 : 0 < s.size := by omega
  have hpl : s[0].toNat ≠ 34 → x = a := by
    intro h
    cases a with
    | nil => simp at ha0
    | cons b t =>
      refine say_plain b t x ?_ hsay
      intro e
      subst e
      apply h
      have hh := get_list s 0 hs0
      rw [get_lt s 0 hs0] at hh
      rw [← hh]
      simp [hs]
  have hq : s[0].toNat = 34 → unqF ⟨a.toArray⟩ = if 1024 < x.length then ([], 0, 6) else (x, a.length, 0) := by
    intro h
    cases a with
    | nil => simp at ha0
    | cons b t =>
      have hh := get_list s 0 hs0
      rw [get_lt s 0 hs0] at hh
      have hb : s[0] = b := by rw [← hh]; simp [hs]
      rw [hb] at h
      have hb : b = 34 := UInt8.toNat_inj.1 h
      subst hb
      have := unq_local ⟨(34 :: t).toArray⟩ t x (by simp) hsay
      rw [this]; simp [ByteArray.size]
  have HQ := Lib.hid hq
  clear hq
  have HPL := Lib.hid hpl
  clear hpl
  clear hl hsz
  go_enter Tryd.func21, Tryd.ntmps21
  go_wp2_with (go_at_call 34; refine (hLI _).mono ?_; rintro e w' ⟨rfl, rfl⟩)
  go_region_with (go_at_call 31; refine (hlow _).mono ?_; rintro e w1 ⟨rfl, hb1⟩; obtain ⟨hc1, hf1⟩ := bcell hb1; have hz1 := hb1.size; simp at hz1)
  any_goals
    first
    | (have P := parts_set w _ 23 (.string ⟨a.toArray⟩) (.string ⟨(low d).toArray⟩) hb1
       clear hb1 hc1 hf1 hz1
       generalize (w1.setCell { block := w.heap.size + 1, off := 0 } (Value.string { data := a.toArray })).setCell { block := w.heap.size + 1, off := 1 } (Value.string { data := (low d).toArray }) = W at P ⊢
       generalize w.heap.size + 1 = g at P ⊢)
    | (have P := parts_new w _ 23 (.string ⟨a.toArray⟩) (.string ⟨(low d).toArray⟩) hb1
       clear hb1 hc1 hf1 hz1
       generalize w1.alloc (Obj.cells #[Value.string { data := a.toArray }, Value.string { data := (low d).toArray }] 23) = W at P ⊢
       generalize w1.heap.size = g at P ⊢)
  all_goals
    obtain ⟨hP2, hP1, hbW, hgW, hg⟩ := P
    have hzW := hbW.size
    unfold noStr at hP1
    by_cases h34 : s[0].toNat = 34
    · have b34 : ((s[0].toNat : Int) == 34) = true := by rw [beq_iff_eq]; omega
      have hux := HQ.out h34
      clear h34
      have hU := unquote_any ⟨a.toArray⟩ W (hT.below hbW (Nat.le_refl _)) (by show a.toArray.size ≤ _; simp; omega)
      rw [hux] at hU
      clear hux
      have hPP2 := hP2
      obtain ⟨c0, c1, f0, f1⟩ := hPP2
      by_cases hbig : 1024 < x.length
      · rw [if_pos hbig] at hU
        have hF : resB F = .tuple #[.agg #[.string ⟨#[]⟩, .string ⟨#[]⟩], .int .i64 6] := by
          rw [← HF.out]; unfold finF; rw [if_pos (by omega)]; rfl
        have HF2 := Lib.hid hF
        unfold res3 at hU
        simp only at hU
        clear hbig hF
        go_wp2_with (go_at_call 35; refine hU.mono ?_; rintro e w2 ⟨rfl, hb2⟩; have hz2 := hb2.size; obtain ⟨d0, d1, g0, g1⟩ := hP2.below hb2 (by omega); have s1 := Lib.hid ((hP1.below hb2 (by omega)).setOther (g' := g) (i := 0) (by omega) (.string ⟨#[]⟩)); obtain ⟨r0, r1, fr0, fr1⟩ := s1.out)
        exact bodyPost_ret (v := .tuple #[.agg #[.string ⟨#[]⟩, .string ⟨#[]⟩], .int .i64 6]) (by simp [results, Tryd.results21, go_sem, r0, r1]) rfl ⟨by rw [HF2.out], (((hbW.trans (hb2.mono (by omega))).setCell (by simp; omega) _).setCell (by simp) _).setCell (by simp) _⟩
      · rw [if_neg hbig] at hU
        unfold res3 at hU
        simp only at hU
        by_cases hlim : 64 < x.length ∨ 255 < d.length
        · have hF : resB F = .tuple #[.agg #[.string ⟨#[]⟩, .string ⟨#[]⟩], .int .i64 6] := by
            rw [← HF.out]; unfold finF; rw [if_pos hlim]; rfl
          have HF2 := Lib.hid hF
          have hTL : ∀ W, Calls Tryd.prog 26 #[.agg #[.string ⟨x.toArray⟩, .string ⟨(low d).toArray⟩]] W fun e w' => e = .returned (.bool true) ∧ Below W.heap.size W w' := by
            intro W
            have := tooLong_any ⟨x.toArray⟩ ⟨(low d).toArray⟩ W
            rw [decide_eq_true (by simpa [low_length, ByteArray.size] using hlim)] at this
            exact this
          clear hbig hF hlim
          go_wp2_with (first | (go_at_call 35; refine hU.mono ?_; rintro e w2 ⟨rfl, hb2⟩; have hz2 := hb2.size; obtain ⟨d0, d1, g0, g1⟩ := hP2.below hb2 (by omega); have s1 := Lib.hid ((hP1.below hb2 (by omega)).setOther (g' := g) (i := 0) (by omega) (.string ⟨x.toArray⟩))) | (go_at_call 26; refine (hTL _).mono ?_; rintro e w3 ⟨rfl, hb3⟩; obtain ⟨r0, r1, fr0, fr1⟩ := s1.out.below hb3 (by simp; omega)))
          exact bodyPost_ret (v := .tuple #[.agg #[.string ⟨#[]⟩, .string ⟨#[]⟩], .int .i64 6]) (by simp [results, Tryd.results21, go_sem, r0, r1]) rfl ⟨by rw [HF2.out], ((((hbW.trans (hb2.mono (by omega))).setCell (by simp; omega) _).trans (hb3.mono (by simp; omega))).setCell (by simp) _).setCell (by simp) _⟩
        · have hF : resB F = .tuple #[.agg #[.string ⟨x.toArray⟩, .string ⟨(low d).toArray⟩], .int .i64 0] := by
            rw [← HF.out]; unfold finF; rw [if_neg hlim]; rfl
          have HF2 := Lib.hid hF
          have hTL : ∀ W, Calls Tryd.prog 26 #[.agg #[.string ⟨x.toArray⟩, .string ⟨(low d).toArray⟩]] W fun e w' => e = .returned (.bool false) ∧ Below W.heap.size W w' := by
            intro W
            have := tooLong_any ⟨x.toArray⟩ ⟨(low d).toArray⟩ W
            rw [decide_eq_false (by simpa [low_length, ByteArray.size] using hlim)] at this
            exact this
          clear hbig hF hlim
          go_wp2_with (first | (go_at_call 35; refine hU.mono ?_; rintro e w2 ⟨rfl, hb2⟩; have hz2 := hb2.size; obtain ⟨d0, d1, g0, g1⟩ := hP2.below hb2 (by omega); have s1 := Lib.hid ((hP1.below hb2 (by omega)).setOther (g' := g) (i := 0) (by omega) (.string ⟨x.toArray⟩)); have s2 := Lib.hid ((hP2.below hb2 (by omega)).set0 (.string ⟨x.toArray⟩))) | (go_at_call 26; refine (hTL _).mono ?_; rintro e w3 ⟨rfl, hb3⟩; obtain ⟨r0, r1, fr0, fr1⟩ := s1.out.below hb3 (by simp; omega); obtain ⟨d0, d1, g0, g1⟩ := s2.out.below hb3 (by simp; omega)))
          exact bodyPost_ret (v := .tuple #[.agg #[.string ⟨x.toArray⟩, .string ⟨(low d).toArray⟩], .int .i64 0]) (by simp [results, Tryd.results21, go_sem, r0, r1]) rfl ⟨by rw [HF2.out], ((((hbW.trans (hb2.mono (by omega))).setCell (by simp; omega) _).trans (hb3.mono (by simp; omega))).setCell (by simp) _).setCell (by simp) _⟩
    · have b34 : ((s[0].toNat : Int) == 34) = false := by rw [beq_eq_false_iff_ne]; omega
      have hx := HPL.out h34
      clear h34
      have hTL := tooLong_any ⟨a.toArray⟩ ⟨(low d).toArray⟩ W
      have hPP2 := hP2
      obtain ⟨c0, c1, f0, f1⟩ := hPP2
      by_cases hlim : 64 < a.length ∨ 255 < d.length
      · rw [decide_eq_true (by simpa [low_length, ByteArray.size] using hlim)] at hTL
        have hF : resB F = .tuple #[.agg #[.string ⟨#[]⟩, .string ⟨#[]⟩], .int .i64 6] := by
          rw [← HF.out, hx]; unfold finF; rw [if_pos hlim]; rfl
        have HF2 := Lib.hid hF
        clear hlim hx hF
        go_wp2_with (go_at_call 26; refine hTL.mono ?_; rintro e w2 ⟨rfl, hb2⟩; obtain ⟨r0, r1, fr0, fr1⟩ := hP1.below hb2 (by omega))
        exact bodyPost_ret (v := .tuple #[.agg #[.string ⟨#[]⟩, .string ⟨#[]⟩], .int .i64 6]) (by simp [results, Tryd.results21, go_sem, r0, r1]) rfl ⟨by rw [HF2.out], ((hbW.trans (hb2.mono (by omega))).setCell (by simp) _).setCell (by simp) _⟩
      · rw [decide_eq_false (by simpa [low_length, ByteArray.size] using hlim)] at hTL
        have hF : resB F = .tuple #[.agg #[.string ⟨a.toArray⟩, .string ⟨(low d).toArray⟩], .int .i64 0] := by
          rw [← HF.out, hx]; unfold finF; rw [if_neg hlim]; rfl
        have HF2 := Lib.hid hF
        clear hlim hx hF
        go_wp2_with (go_at_call 26; refine hTL.mono ?_; rintro e w2 ⟨rfl, hb2⟩; obtain ⟨r0, r1, fr0, fr1⟩ := hP1.below hb2 (by omega); obtain ⟨d0, d1, g0, g1⟩ := hP2.below hb2 (by omega))
        exact bodyPost_ret (v := .tuple #[.agg #[.string ⟨a.toArray⟩, .string ⟨(low d).toArray⟩], .int .i64 0]) (by simp [results, Tryd.results21, go_sem, r0, r1]) rfl ⟨by rw [HF2.out], ((hbW.trans (hb2.mono (by omega))).setCell (by simp) _).setCell (by simp) _⟩
end Go.Proofs.YtmolifgjghbfaaaDoor
