/- Box: a term that asks whether a text stands in a letter; the closure; is a term untrue? -/
import Derived.Test.YtpmakbjchepkmaaDoorBF1
namespace Go.Proofs.YtpmakbjchepkmaaDoor
open Go Go.RowKit

theorem low_size (l : List UInt8) : (⟨(low l).toArray⟩ : ByteArray).size = l.length := by
  show (low l).toArray.size = _
  simp [low]
theorem low_data (l : List UInt8) : (⟨(low l).toArray⟩ : ByteArray).data.toList = low l := rfl
theorem two_boxes (w : World) (cs ds : Array Value) (t u : TypeId) (j : Nat) : ((w.alloc (.cells cs t)).alloc (.cells ds u)).cell? ⟨w.heap.size, j, none⟩ = cs[j]? ∧ ((w.alloc (.cells cs t)).alloc (.cells ds u)).cell? ⟨w.heap.size + 1, j, none⟩ = ds[j]? := by
  have h1 : ((w.alloc (.cells cs t)).alloc (.cells ds u)).heap[w.heap.size]? = some (.cells cs t (0, 0)) := (((Below.refl _ (w.alloc (.cells cs t))).alloc (Nat.le_refl _) (.cells ds u)).block w.heap.size (by simp)).trans (heap_alloc_last w _)
  have h2 := heap_alloc_last (w.alloc (.cells cs t)) (.cells ds u)
  have hs : (w.alloc (.cells cs t)).heap.size = w.heap.size + 1 := by simp
  rw [hs] at h2
  exact ⟨cell_of_row _ _ _ _ _ _ h1, cell_of_row _ _ _ _ _ _ h2⟩
set_option maxHeartbeats 8000000 in
set_option maxRecDepth 100000 in
theorem holds_six (q : Qry) (x : Letr) (bv : Value) (w : World) (hb : Byz w bv x.bytes) (hl : x.bytes.length ≤ 1000000) (hM : Ml w) (h6 : q.ask = 6) :
    Calls Tryd.prog 31 #[qryV q, letV x bv] w fun e w' => e = .returned (.bool (holdB q x)) ∧ Below w.heap.size w w' := by
  unfold qryV letV
  obtain ⟨ask, fl, n, m, tx⟩ := q
  simp only at h6 ⊢
  subst h6
  have HT := Lib.hid (show holdB ⟨6, fl, n, m, tx⟩ x = Lib.contains (low x.bytes) (low tx.data.toList) by simp [holdB])
  obtain ⟨⟨ba, bc, rfl⟩, _⟩ := id hb
  have b1 : Below w.heap.size w (w.alloc (.cells #[.int .i64 6, .int .u8 (fl.toNat : Int), .int .i64 n, .int .i64 m, .string tx] 49)) := (Below.refl _ w).alloc (Nat.le_refl _) _
  have b2 : Below w.heap.size w ((w.alloc (.cells #[.int .i64 6, .int .u8 (fl.toNat : Int), .int .i64 n, .int .i64 m, .string tx] 49)).alloc (.cells #[.int .i64 x.uid, .int .u8 (x.flags.toNat : Int), .slice ba x.bytes.length bc] 68)) := b1.alloc (by simp) _
  obtain ⟨W0, hW0⟩ : ∃ W0, W0 = (w.alloc (.cells #[.int .i64 6, .int .u8 (fl.toNat : Int), .int .i64 n, .int .i64 m, .string tx] 49)).alloc (.cells #[.int .i64 x.uid, .int .u8 (x.flags.toNat : Int), .slice ba x.bytes.length bc] 68) := ⟨_, rfl⟩
  rw [← hW0] at b2
  have hs0 : W0.heap.size = w.heap.size + 2 := by rw [hW0]; simp
  have c4 : W0.cell? ⟨w.heap.size, 4, none⟩ = some (.string tx) := by rw [hW0]; exact (two_boxes w _ _ _ _ 4).1
  have c2 : W0.cell? ⟨w.heap.size + 1, 2, none⟩ = some (.slice ba x.bytes.length bc) := by rw [hW0]; exact (two_boxes w _ _ _ _ 2).2
  have hb0 := hb.below b2
  have hM0 := hM.below b2
  have K : ∀ W, Below W0.heap.size W0 W → W.cell? ⟨w.heap.size, 4, none⟩ = some (.string tx) ∧ W.cell? ⟨w.heap.size + 1, 2, none⟩ = some (.slice ba x.bytes.length bc) ∧ (convert 43 9 (.slice ba x.bytes.length bc)).run Tryd.prog W = .ok (.string ⟨x.bytes.toArray⟩) W := fun W hW =>
    ⟨(hW.cell (p := ⟨w.heap.size, 4, none⟩) (by simp only; omega)).trans c4, (hW.cell (p := ⟨w.heap.size + 1, 2, none⟩) (by simp only; omega)).trans c2, run_byz_string W _ _ 5 Tryd.underlying43 Tryd.underlying5 Tryd.underlying9 (hb0.below hW)⟩
  have L1 : ∀ W, Below W0.heap.size W0 W → Calls Tryd.prog 42 #[.string ⟨x.bytes.toArray⟩] W fun e w' => e = .returned (.string ⟨(low x.bytes).toArray⟩) ∧ Below W0.heap.size W0 w' := fun W hW => (lower _ W).mono fun e w' ⟨h1, h2⟩ => ⟨h1, hW.trans (h2.mono hW.size)⟩
  have L2 : ∀ W, Below W0.heap.size W0 W → Calls Tryd.prog 42 #[.string tx] W fun e w' => e = .returned (.string ⟨(low tx.data.toList).toArray⟩) ∧ Below W0.heap.size W0 w' := fun W hW => (lower _ W).mono fun e w' ⟨h1, h2⟩ => ⟨h1, hW.trans (h2.mono hW.size)⟩
  have L3 : ∀ W, Below W0.heap.size W0 W → Calls Tryd.prog 41 #[.string ⟨(low x.bytes).toArray⟩, .string ⟨(low tx.data.toList).toArray⟩] W fun e w' => e = .returned (.bool (Lib.contains (low x.bytes) (low tx.data.toList))) ∧ Below W0.heap.size W0 w' := fun W hW => by
    obtain ⟨mm, hm⟩ := hM0.below hW
    exact (Tryd.strings_Contains _ _ mm W (by rw [low_size]; omega) hm).mono fun e w' ⟨h1, h2⟩ => ⟨h1, by subst h2; exact hW⟩
  have HB := Lib.hid b2
  have HK := Lib.hid K
  have H1 := Lib.hid L1
  have H2 := Lib.hid L2
  have H3 := Lib.hid L3
  have HW := Lib.hid hW0
  clear b1 b2 hs0 c4 c2 hb0 hM0 K L1 L2 L3 hb hM hW0
  generalize Lib.contains (low x.bytes) (low tx.data.toList) = R at *
  go_enter Tryd.func31, Tryd.ntmps31
  go_wp2_with fail
  rw [← HW.out]
  go_region_held3 (fun W => Below W0.heap.size W0 W ∧ W.cell? ⟨w.heap.size, 4, none⟩ = some (.string tx) ∧ W.cell? ⟨w.heap.size + 1, 2, none⟩ = some (.slice ba x.bytes.length bc) ∧ (convert 43 9 (.slice ba x.bytes.length bc)).run Tryd.prog W = .ok (.string ⟨x.bytes.toArray⟩) W)
    (first | exact ⟨(Below.refl _ _).drew, HK.out _ ((Below.refl _ _).drew)⟩ | exact ⟨by assumption, HK.out _ (by assumption)⟩)
    (first
      | ((with_reducible refine (H3.out _ (by assumption)).mono ?_); rintro e wn ⟨rfl, hBn⟩)
      | ((with_reducible refine (H1.out _ (by first | assumption | exact (Below.refl _ _).drew)).mono ?_); rintro e wn ⟨rfl, hBn⟩)
      | ((with_reducible refine (H2.out _ (by first | assumption | exact (Below.refl _ _).drew)).mono ?_); rintro e wn ⟨rfl, hBn⟩))
  all_goals
    go_wp2
    go_ret
    exact ⟨ret_bool HT.out.symm, HB.out.trans ((by assumption : Below W0.heap.size W0 _).mono HB.out.size)⟩
theorem holds_any (q : Qry) (x : Letr) (bv : Value) (w : World) (hb : Byz w bv x.bytes) (hl : x.bytes.length ≤ 1000000) (hM : Ml w) :
    Calls Tryd.prog 31 #[qryV q, letV x bv] w fun e w' => e = .returned (.bool (holdB q x)) ∧ Below w.heap.size w w' := by
  by_cases h6 : q.ask = 6
  · exact holds_six q x bv w hb hl hM h6
  · obtain ⟨⟨ba, bc, rfl⟩, _⟩ := id hb
    exact holds_plain q x ba bc w h6

/-- A letter of the call's own in block b. -/
def LetIn (w : World) (b : Nat) (x : Letr) (bv : Value) : Prop := w.cell? ⟨b, 0, none⟩ = some (.int .i64 x.uid) ∧ w.cell? ⟨b, 1, none⟩ = some (.int .u8 (x.flags.toNat : Int)) ∧ w.cell? ⟨b, 2, none⟩ = some bv
theorem LetIn.below {w w' : World} {b : Nat} {x : Letr} {bv : Value} (h : LetIn w b x bv) (hb : Below w.heap.size w w') : LetIn w' b x bv := by
  have hlt := World.block_lt_of_cell? w _ h.1
  exact ⟨(hb.cell (p := ⟨b, 0, none⟩) hlt).trans h.1, (hb.cell (p := ⟨b, 1, none⟩) hlt).trans h.2.1, (hb.cell (p := ⟨b, 2, none⟩) hlt).trans h.2.2⟩
set_option maxHeartbeats 2000000 in
set_option maxRecDepth 100000 in
theorem untrue_any (q : Qry) (x : Letr) (bv : Value) (b : Nat) (w : World) (hin : LetIn w b x bv) (hb : Byz w bv x.bytes) (hl : x.bytes.length ≤ 1000000) (hM : Ml w) :
    Calls Tryd.prog 30 #[qryV q, .pointer (some ⟨b, 0, none⟩)] w fun e w' => e = .returned (.bool (!holdB q x)) ∧ Below w.heap.size w w' := by
  obtain ⟨⟨ba, bc, rfl⟩, _⟩ := id hb
  have b1 : Below w.heap.size w (w.alloc (.cells #[.int .i64 q.ask, .int .u8 (q.flags.toNat : Int), .int .i64 q.n, .int .i64 q.m, .string q.text] 49)) := (Below.refl _ w).alloc (Nat.le_refl _) _
  have HC := Lib.hid (holds_any q x (.slice ba x.bytes.length bc) _ (hb.below b1) hl (hM.below b1))
  have hlt := World.block_lt_of_cell? w _ hin.1
  obtain ⟨c0, c1, c2⟩ := hin.below b1
  have HB := Lib.hid b1
  clear b1 hb hM hin
  unfold qryV letV at HC
  unfold qryV
  generalize holdB q x = R at *
  go_enter Tryd.func30, Tryd.ntmps30
  go_wp2_with fail
  refine HC.out.mono ?_
  rintro e w1 ⟨rfl, hb1⟩
  have HB1 := Lib.hid (HB.out.trans (hb1.mono HB.out.size))
  clear hb1
  go_wp2
  go_ret
  exact ⟨rfl, HB1.out⟩
/-- The first place from k on where f is true; -1: none. -/
def idxFrom {α : Type} (f : α → Bool) : Nat → List α → Int
  | _, [] => -1
  | k, x :: t => if f x = true then (k : Int) else idxFrom f (k + 1) t
theorem idxFrom_any {α : Type} (f : α → Bool) : ∀ (l : List α) (k : Nat), decide (0 ≤ idxFrom f k l) = l.any f
  | [], _ => rfl
  | x :: t, k => by
    unfold idxFrom
    cases h : f x with
    | true => simp [h]
    | false => simpa [h] using idxFrom_any f t (k + 1)
set_option maxHeartbeats 2000000 in
set_option maxRecDepth 100000 in
theorem idxQ_any (qv : Value) (qs : List Qry) (x : Letr) (bv : Value) (b : Nat) (w : World) (hq : Qrys w qv qs) (hin : LetIn w b x bv) (hb : Byz w bv x.bytes) (hl : x.bytes.length ≤ 1000000) (hM : Ml w) (hn : qs.length ≤ 1000) :
    Calls Tryd.prog 43 #[qv, .func (.func 30) #[] #[.pointer (some ⟨b, 0, none⟩)]] w fun e w' => e = .returned (.int .i64 (idxFrom (fun q => !holdB q x) 0 qs)) ∧ Below w.heap.size w w' := by
  obtain ⟨qa, qc, rfl⟩ := hq.shape
  have HQ := Lib.hid hq
  have HU := Lib.hid (fun q W (hW : Below w.heap.size w W) => untrue_any q x bv b W (hin.below hW) (hb.below hW) hl (hM.below hW))
  generalize hF : idxFrom (fun q => !holdB q x) 0 qs = F
  have HF := Lib.hid hF
  clear hF hq hin hb hM
  go_enter Tryd.func43, Tryd.ntmps43
  go_wp2
  go_loopw [8] (fun i wr => ∃ k : Nat, k ≤ qs.length ∧ i = .int .i64 k ∧ idxFrom (fun q => !holdB q x) k (qs.drop k) = F ∧ Below w.heap.size w wr) (fun i _ => qs.length - (intOf i).toNat)
  case atStart => exact ⟨0, Nat.zero_le _, rfl, HF.out, Below.refl _ _⟩
  case round =>
    obtain ⟨k, hk, rfl, hgo, hbw⟩ := hrel
    by_cases hlt : k < qs.length
    · have hp := List.getElem?_eq_getElem hlt
      generalize qs[k] = q at hp
      rw [drop_at hp] at hgo
      obtain ⟨g, off, cap, he, hg, a0, a1, a2, a3, a4⟩ := (HQ.out.below hbw).at k q hp
      cases he
      have HC := Lib.hid (HU.out q wr hbw)
      unfold qryV at HC
      unfold idxFrom at hgo
      have HBW := Lib.hid hbw
      clear hp
      generalize hR : (!holdB q x) = R at *
      have hz := hbw.size
      clear hbw hR
      cases R with
      | true =>
        have HGo := Lib.hid hgo
        clear hgo
        go_wp2_with fail
        refine HC.out.mono ?_
        rintro e w1 ⟨rfl, hb1⟩
        have HB1 := Lib.hid (HBW.out.trans (hb1.mono HBW.out.size))
        clear hb1
        go_wp2
        go_ret
        exact ⟨ret_int HGo.out, HB1.out⟩
      | false =>
        have HGo := Lib.hid hgo
        clear hgo
        go_wp2_with fail
        refine HC.out.mono ?_
        rintro e w1 ⟨rfl, hb1⟩
        have HB1 := Lib.hid (HBW.out.trans (hb1.mono HBW.out.size))
        clear hb1
        go_wp2
        go_roundw
        case rel => exact ⟨k + 1, by omega, by go_num, HGo.out, HB1.out⟩
        case measure => simp [intOf]; omega
    · have hk : k = qs.length := by omega
      subst hk
      rw [List.drop_of_length_le (Nat.le_refl _)] at hgo
      have HGo := Lib.hid hgo
      clear hgo
      go_wp2
      go_ret
      exact ⟨ret_int HGo.out, hbw⟩
theorem containsQ_any (qv : Value) (qs : List Qry) (x : Letr) (bv : Value) (b : Nat) (w : World) (hq : Qrys w qv qs) (hin : LetIn w b x bv) (hb : Byz w bv x.bytes) (hl : x.bytes.length ≤ 1000000) (hM : Ml w) (hn : qs.length ≤ 1000) :
    Calls Tryd.prog 32 #[qv, .func (.func 30) #[] #[.pointer (some ⟨b, 0, none⟩)]] w fun e w' => e = .returned (.bool (qs.any fun q => !holdB q x)) ∧ Below w.heap.size w w' := by
  have HC := Lib.hid (idxQ_any qv qs x bv b w hq hin hb hl hM hn)
  have HA := Lib.hid (idxFrom_any (fun q => !holdB q x) qs 0)
  obtain ⟨qa, qc, rfl⟩ := hq.shape
  clear hq hin hb hM
  generalize idxFrom (fun q => !holdB q x) 0 qs = R at *
  go_enter Tryd.func32, Tryd.ntmps32
  go_wp2_with fail
  refine HC.out.mono ?_
  rintro e w1 ⟨rfl, hb1⟩
  go_wp2
  go_ret
  exact ⟨ret_bool HA.out, hb1⟩
end Go.Proofs.YtpmakbjchepkmaaDoor
