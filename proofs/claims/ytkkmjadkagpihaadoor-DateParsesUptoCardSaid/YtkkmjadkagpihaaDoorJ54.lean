/- Date: the document's Parse; what a row's list gives; DateParses walked. -/
import Derived.Test.YtkkmjadkagpihaaDoorJ49
import Derived.Test.YtkkmjadkagpihaaDoorJEnv
import Derived.Test.YtkkmjadkagpihaaDoorJM
import Derived.Test.YtkkmjadkagpihaaDoorJ25
namespace Go.Proofs.YtkkmjadkagpihaaDoor
open Go Go.RowKit

theorem refParse_full (t : ByteArray) (w : World) (hT : Tabs w) (hs : t.size ≤ 4398046511104) (s : Stp) (x1 x2 x3 x4 : Nat) (H : ParseP t.data.toList s x1 x2 x3 x4) (h1 : s.at_ = (patQ x1 x2 x3 x4).length) (h2 : s.at_ = t.data.toList.length) :
    Calls Tryd.prog 19 #[.string t] w fun e w' => e = .returned (momV (momR t s)) ∧ Below w.heap.size w w' := by
  have F := ltrs_fact t
  have D := H.full h1
  have hx1 := H.w2
  have hx2 := H.d2
  have hx3 := H.c2
  have hx4 := H.z4
  have hn32 : 16 * x1 + 8 * x2 + 4 * x3 + x4 < 32 := by omega
  have hPn := patS_of hx1 hx2 hx3 hx4
  have hn : s.at_ ≤ nAF t.data.toList := by
    rw [H.run.at_.uniq (mF_at _ _)]
    have h := patS_ok (16 * x1 + 8 * x2 + 4 * x3 + x4) hn32
    rw [hPn] at h
    exact mF_n F (pat_ok h)
  have hS := sg_of F (by have := F.le; omega)
  have hst := stop_yes rfl H.run h1 h2
  have hdx := day_idx (16 * x1 + 8 * x2 + 4 * x3 + x4) hn32
  rw [show (16 * x1 + 8 * x2 + 4 * x3 + x4) / 16 % 2 = x1 by omega, show (16 * x1 + 8 * x2 + 4 * x3 + x4) / 8 % 2 = x2 by omega] at hdx
  obtain ⟨d0, d1, d2, d3⟩ := hdx
  have hlen : t.data.toList.length ≤ 900 := by rw [hPn] at d3; omega
  have hLlen := hS.len
  have hL14 : 5 * x1 + x2 + 16 < (ltrs t).length := by have := D.zone.lt; omega
  have hLc := hS.cell (5 * x1 + x2 + 16) hL14
  rw [D.sec.1] at hLc
  have hrs : momR t s = (if rt s.year s.month s.day = true then (if x1 = 1 ∧ s.week ≠ (num s.year s.month s.day + 3) % 7 then (0, 0, 0, 2) else (num s.year s.month s.day * 86400 + s.clock - 60 * s.zone, s.zone, 0, 0)) else (0, 0, 0, 2)) := by
    unfold momR
    rw [hst, if_neg (by decide), H.weekly]
    simp
  rw [hrs]
  have hmb := idxF_bd monthsL (low [nb t.data.toList (5 * x1 + x2 + 2), nb t.data.toList (5 * x1 + x2 + 3), nb t.data.toList (5 * x1 + x2 + 4)]) 12 0
  have hme := D.month.2
  have hh := valR_bd D.hour 2 (by omega)
  have hm := valR_bd D.min 2 (by omega)
  have hk := parse_walk t w (ltrs t) (16 * x1 + 8 * x2 + 4 * x3 + x4) s.at_ x3 (5 * x1) (x2 + 1) (5 * x1 + x2 + 2) (5 * x1 + x2 + 6) (5 * x1 + x2 + 11) (5 * x1 + x2 + 14) (5 * x1 + x2 + 16) (5 * x1 + x2 + 17) (5 * x1 + x2 + 17 + 3 * x3) x1
    s.week s.day (s.month - 1) s.year (valR t.data.toList (5 * x1 + x2 + 11) 2) (valR t.data.toList (5 * x1 + x2 + 14) 2) (valR t.data.toList (5 * x1 + x2 + 17) 2) s.zone hT
    (Lib.hid (fun W hT => refLetters t W hT hs)) (Lib.hid (fun W v v2 hv hv2 => best_parse W v v2 t _ _ _ F hv hv2 s x1 x2 x3 x4 H _ (if_pos ⟨h1, h2⟩)))
    (Lib.hid (fun W v hv => yk_of (t := t) hv hS hx1 hx2 hx3 hlen D)) hn32 hx1 (by omega) hx3 rfl (by omega) (by omega) (by omega) (by omega) (by omega) (by omega) (by omega)
    d0 (by rw [d1]; rcases (show x2 = 0 ∨ x2 = 1 by omega) with rfl | rfl <;> rfl) d2 hL14 hLc (by omega) (by omega) hh.1 (by omega) hm.1 (by omega)
    (fun h => by have := valR_bd (D.sec.2 h) 2 (by omega); omega) D.zone.lo D.zone.hi (fun h => (D.week h).2.2) s.clock D.clock D.clo D.chi
  rw [show s.month - 1 + 1 = s.month by omega] at hk
  exact hk
theorem refParse (t : ByteArray) (w : World) (hT : Tabs w) (hs : t.size ≤ 4398046511104) :
    Calls Tryd.prog 19 #[.string t] w fun e w' => e = .returned (momV (parseR t)) ∧ Below w.heap.size w w' := by
  obtain ⟨x1, x2, x3, x4, H⟩ := parse_run (t := t) (bs := t.data.toList) rfl
  show Calls _ _ _ _ (fun e w' => e = .returned (momV (momR t (endS t))) ∧ _)
  by_cases h : (endS t).at_ = (patQ x1 x2 x3 x4).length ∧ (endS t).at_ = t.data.toList.length
  · exact refParse_full t w hT hs _ x1 x2 x3 x4 H h.1 h.2
  · exact refParse_no t w hT hs _ x1 x2 x3 x4 H h
end Go.Proofs.YtkkmjadkagpihaaDoor
namespace Go.Proofs.YtkkmjadkagpihaaDoor
open Go Go.RowKit

theorem first_is : Rows.laid_unicode_utf8_first = Lib.firstData := by kernel_rfl
theorem accept_is : Rows.laid_unicode_utf8_acceptRanges = Lib.acceptData := by kernel_rfl
structure EnvT (w : World) : Prop where
  env : Env w
  tabs : Tabs w
theorem EnvT.below {w w' : World} (h : EnvT w) (hb : Below w.heap.size w w') : EnvT w' := ⟨h.env.below hb, h.tabs.below hb (Nat.le_refl _)⟩
theorem envT_of {l : List (String × DataW Unit)} {W : World} (h : laidMetH Tryd.prog l W) (hp : (l.filter fun x => x.2.handleName?.isSome) = [])
    (h0 : ("internal/strconv.uint64pow10", Rows.laid_internal_strconv_uint64pow10) ∈ l) (h1 : ("unicode/utf8.first", Rows.laid_unicode_utf8_first) ∈ l) (h2 : ("unicode/utf8.acceptRanges", Rows.laid_unicode_utf8_acceptRanges) ∈ l) (hsh : W.ShapedOpen Tryd.prog) : EnvT W := by
  have hE := env_of h hp h0 hsh
  have h := laid_plain h hp
  rw [first_is] at h1
  rw [accept_is] at h2
  exact ⟨hE, utf8Tabs_of_readsT (U8Types.of260 Tryd.lays260) ⟨by kernel_rfl, by kernel_rfl, by kernel_rfl, by kernel_rfl, by kernel_rfl, by kernel_rfl, by kernel_rfl⟩ (Lib.laidMet.reads h h1) (Lib.laidMet.reads h h2)⟩
end Go.Proofs.YtkkmjadkagpihaaDoor
namespace Go.Proofs.YtkkmjadkagpihaaDoor
open Go Go.RowKit

/-- A block of cells. -/
def RowC (w : World) (b : Nat) (C : Array Value) (T : TypeId) : Prop := w.heap[b]? = some (.cells C T (0, 0))
theorem RowC.lt {w : World} {b : Nat} {C : Array Value} {T : TypeId} (h : RowC w b C T) : b < w.heap.size := (Array.getElem?_eq_some_iff.1 h).1
theorem RowC.below {w w' : World} {b : Nat} {C : Array Value} {T : TypeId} (h : RowC w b C T) (hb : Below w.heap.size w w') : RowC w' b C T := (hb.block b h.lt).trans h
theorem RowC.new (w : World) (C : Array Value) (T : TypeId) : RowC (w.alloc (.cells C T)) w.heap.size C T := heap_alloc_new w _
theorem RowC.c {w : World} {b : Nat} {C : Array Value} {T : TypeId} (h : RowC w b C T) (j : Nat) : w.cell? ⟨b, j, none⟩ = C[j]? := cell_of_row _ _ _ _ _ _ h

/-- Both sides tell the same of a text. -/
theorem both_parse (t : ByteArray) (hs : t.size ≤ 4398046511104) : ∃ (a1 a2 a3 a4 b1 b2 b3 b4 c1 c2 c3 c4 c5 : Int),
    (∀ w, EnvT w → Calls Tryd.prog 18 #[.string t] w fun x w' => x = .returned (.tuple #[.agg #[.int .i64 a1, .int .i64 a2], .int .i64 a3, .int .i64 a4]) ∧ Below w.heap.size w w') ∧
    (∀ w, EnvT w → Calls Tryd.prog 19 #[.string t] w fun x w' => x = .returned (.tuple #[.agg #[.int .i64 a1, .int .i64 a2], .int .i64 a3, .int .i64 a4]) ∧ Below w.heap.size w w') ∧
    (∀ w, EnvT w → Calls Tryd.prog 20 #[.string t] w fun x w' => x = .returned (.tuple #[.agg #[.int .i64 b1, .int .i64 b2], .int .i64 b3, .int .i64 b4]) ∧ Below w.heap.size w w') ∧
    (∀ w, EnvT w → Calls Tryd.prog 21 #[.string t] w fun x w' => x = .returned (.tuple #[.agg #[.int .i64 b1, .int .i64 b2], .int .i64 b3, .int .i64 b4]) ∧ Below w.heap.size w w') ∧
    (∀ w, EnvT w → Calls Tryd.prog 22 #[.string t] w fun x w' => x = .returned (.tuple #[.agg #[.int .i64 c1, .int .i64 c2, .int .i64 c3], .int .i64 c4, .int .i64 c5]) ∧ Below w.heap.size w w') ∧
    (∀ w, EnvT w → Calls Tryd.prog 23 #[.string t] w fun x w' => x = .returned (.tuple #[.agg #[.int .i64 c1, .int .i64 c2, .int .i64 c3], .int .i64 c4, .int .i64 c5]) ∧ Below w.heap.size w w') :=
  ⟨(parseR t).1, (parseR t).2.1, (parseR t).2.2.1, (parseR t).2.2.2, (shortR t).1, (shortR t).2.1, (shortR t).2.2.1, (shortR t).2.2.2, (pdR t).1, (pdR t).2.1, (pdR t).2.2.1, (pdR t).2.2.2.1, (pdR t).2.2.2.2,
    fun w h => parse_any t w (by omega) h.env.ml _ rfl, fun w h => refParse t w h.tabs hs, fun w h => parseShort_any t w (by omega) h.env.ml _ rfl, fun w h => refParseShort t w h.tabs hs, fun w h => parseDay_any t w (by omega) h.env.ml _ rfl, fun w h => refParseDay t w h.tabs hs⟩

set_option maxRecDepth 100000 in
set_option maxHeartbeats 2000000 in
theorem walk_parses (t : ByteArray) (w : World) (hE : EnvT w) (hs : t.size ≤ 4398046511104) :
    Calls Tryd.prog 6 #[.string t] w fun e w' => e = .returned (.bool true) ∧ Below w.heap.size w w' := by
  obtain ⟨a1, a2, a3, a4, b1, b2, b3, b4, c1, c2, c3, c4, c5, h1, h2, h3, h4, h5, h6⟩ := both_parse t hs
  have H1 := Lib.hid h1
  have H2 := Lib.hid h2
  have H3 := Lib.hid h3
  have H4 := Lib.hid h4
  have H5 := Lib.hid h5
  have H6 := Lib.hid h6
  clear h1 h2 h3 h4 h5 h6 hs
  have BB := Lib.hid (Below.refl w.heap.size w)
  have EE := Lib.hid hE
  clear hE
  go_enter Tryd.func6, Tryd.ntmps6
  go_wp2_with fail
  refine (H1.out _ EE.out).mono ?_
  rintro e w1 ⟨rfl, hb⟩
  replace BB := Lib.hid (BB.out.trans (hb.mono BB.out.size))
  replace EE := Lib.hid (EE.out.below hb)
  clear hb
  obtain ⟨w2, hW⟩ : ∃ W, w1.alloc (.cells #[.int .i64 a1, .int .i64 a2] 35) = W := ⟨_, rfl⟩
  have hb : Below w1.heap.size w1 w2 := by rw [← hW]; exact bal (Below.refl _ _) _
  replace BB := Lib.hid (BB.out.trans (hb.mono BB.out.size))
  replace EE := Lib.hid (EE.out.below hb)
  have R0 : Hid (RowC w2 w1.heap.size #[.int .i64 a1, .int .i64 a2] 35) := Lib.hid (by rw [← hW]; exact RowC.new w1 _ _)
  have HW2 := Lib.hid hW
  clear hb hW
  go_wp2_with (first | rw [HW2.out])
  refine (H2.out _ EE.out).mono ?_
  rintro e w3 ⟨rfl, hb⟩
  replace R0 := Lib.hid (R0.out.below hb)
  replace BB := Lib.hid (BB.out.trans (hb.mono BB.out.size))
  replace EE := Lib.hid (EE.out.below hb)
  clear hb
  obtain ⟨w4, hW⟩ : ∃ W, w3.alloc (.cells #[.int .i64 a1, .int .i64 a2] 35) = W := ⟨_, rfl⟩
  have hb : Below w3.heap.size w3 w4 := by rw [← hW]; exact bal (Below.refl _ _) _
  replace R0 := Lib.hid (R0.out.below hb)
  replace BB := Lib.hid (BB.out.trans (hb.mono BB.out.size))
  replace EE := Lib.hid (EE.out.below hb)
  have R1 : Hid (RowC w4 w3.heap.size #[.int .i64 a1, .int .i64 a2] 35) := Lib.hid (by rw [← hW]; exact RowC.new w3 _ _)
  have HW4 := Lib.hid hW
  clear hb hW
  go_wp2_with (first | rw [HW4.out])
  refine (H3.out _ EE.out).mono ?_
  rintro e w5 ⟨rfl, hb⟩
  replace R0 := Lib.hid (R0.out.below hb)
  replace R1 := Lib.hid (R1.out.below hb)
  replace BB := Lib.hid (BB.out.trans (hb.mono BB.out.size))
  replace EE := Lib.hid (EE.out.below hb)
  clear hb
  obtain ⟨w6, hW⟩ : ∃ W, w5.alloc (.cells #[.int .i64 b1, .int .i64 b2] 35) = W := ⟨_, rfl⟩
  have hb : Below w5.heap.size w5 w6 := by rw [← hW]; exact bal (Below.refl _ _) _
  replace R0 := Lib.hid (R0.out.below hb)
  replace R1 := Lib.hid (R1.out.below hb)
  replace BB := Lib.hid (BB.out.trans (hb.mono BB.out.size))
  replace EE := Lib.hid (EE.out.below hb)
  have R2 : Hid (RowC w6 w5.heap.size #[.int .i64 b1, .int .i64 b2] 35) := Lib.hid (by rw [← hW]; exact RowC.new w5 _ _)
  have HW6 := Lib.hid hW
  clear hb hW
  go_wp2_with (first | rw [HW6.out])
  refine (H4.out _ EE.out).mono ?_
  rintro e w7 ⟨rfl, hb⟩
  replace R0 := Lib.hid (R0.out.below hb)
  replace R1 := Lib.hid (R1.out.below hb)
  replace R2 := Lib.hid (R2.out.below hb)
  replace BB := Lib.hid (BB.out.trans (hb.mono BB.out.size))
  replace EE := Lib.hid (EE.out.below hb)
  clear hb
  obtain ⟨w8, hW⟩ : ∃ W, w7.alloc (.cells #[.int .i64 b1, .int .i64 b2] 35) = W := ⟨_, rfl⟩
  have hb : Below w7.heap.size w7 w8 := by rw [← hW]; exact bal (Below.refl _ _) _
  replace R0 := Lib.hid (R0.out.below hb)
  replace R1 := Lib.hid (R1.out.below hb)
  replace R2 := Lib.hid (R2.out.below hb)
  replace BB := Lib.hid (BB.out.trans (hb.mono BB.out.size))
  replace EE := Lib.hid (EE.out.below hb)
  have R3 : Hid (RowC w8 w7.heap.size #[.int .i64 b1, .int .i64 b2] 35) := Lib.hid (by rw [← hW]; exact RowC.new w7 _ _)
  have HW8 := Lib.hid hW
  clear hb hW
  go_wp2_with (first | rw [HW8.out])
  refine (H5.out _ EE.out).mono ?_
  rintro e w9 ⟨rfl, hb⟩
  replace R0 := Lib.hid (R0.out.below hb)
  replace R1 := Lib.hid (R1.out.below hb)
  replace R2 := Lib.hid (R2.out.below hb)
  replace R3 := Lib.hid (R3.out.below hb)
  replace BB := Lib.hid (BB.out.trans (hb.mono BB.out.size))
  replace EE := Lib.hid (EE.out.below hb)
  clear hb
  obtain ⟨w10, hW⟩ : ∃ W, w9.alloc (.cells #[.int .i64 c1, .int .i64 c2, .int .i64 c3] 23) = W := ⟨_, rfl⟩
  have hb : Below w9.heap.size w9 w10 := by rw [← hW]; exact bal (Below.refl _ _) _
  replace R0 := Lib.hid (R0.out.below hb)
  replace R1 := Lib.hid (R1.out.below hb)
  replace R2 := Lib.hid (R2.out.below hb)
  replace R3 := Lib.hid (R3.out.below hb)
  replace BB := Lib.hid (BB.out.trans (hb.mono BB.out.size))
  replace EE := Lib.hid (EE.out.below hb)
  have R4 : Hid (RowC w10 w9.heap.size #[.int .i64 c1, .int .i64 c2, .int .i64 c3] 23) := Lib.hid (by rw [← hW]; exact RowC.new w9 _ _)
  have HW10 := Lib.hid hW
  clear hb hW
  go_wp2_with (first | rw [HW10.out])
  refine (H6.out _ EE.out).mono ?_
  rintro e w11 ⟨rfl, hb⟩
  replace R0 := Lib.hid (R0.out.below hb)
  replace R1 := Lib.hid (R1.out.below hb)
  replace R2 := Lib.hid (R2.out.below hb)
  replace R3 := Lib.hid (R3.out.below hb)
  replace R4 := Lib.hid (R4.out.below hb)
  replace BB := Lib.hid (BB.out.trans (hb.mono BB.out.size))
  replace EE := Lib.hid (EE.out.below hb)
  clear hb
  obtain ⟨w12, hW⟩ : ∃ W, w11.alloc (.cells #[.int .i64 c1, .int .i64 c2, .int .i64 c3] 23) = W := ⟨_, rfl⟩
  have hb : Below w11.heap.size w11 w12 := by rw [← hW]; exact bal (Below.refl _ _) _
  replace R0 := Lib.hid (R0.out.below hb)
  replace R1 := Lib.hid (R1.out.below hb)
  replace R2 := Lib.hid (R2.out.below hb)
  replace R3 := Lib.hid (R3.out.below hb)
  replace R4 := Lib.hid (R4.out.below hb)
  replace BB := Lib.hid (BB.out.trans (hb.mono BB.out.size))
  replace EE := Lib.hid (EE.out.below hb)
  have R5 : Hid (RowC w12 w11.heap.size #[.int .i64 c1, .int .i64 c2, .int .i64 c3] 23) := Lib.hid (by rw [← hW]; exact RowC.new w11 _ _)
  have HW12 := Lib.hid hW
  clear hb hW
  go_wp2_with (first | rw [HW12.out])
  refine (live_any _ EE.out.env).mono ?_
  rintro e w13 ⟨rfl, hb⟩
  replace R0 := Lib.hid (R0.out.below hb)
  replace R1 := Lib.hid (R1.out.below hb)
  replace R2 := Lib.hid (R2.out.below hb)
  replace R3 := Lib.hid (R3.out.below hb)
  replace R4 := Lib.hid (R4.out.below hb)
  replace R5 := Lib.hid (R5.out.below hb)
  replace BB := Lib.hid (BB.out.trans (hb.mono BB.out.size))
  replace EE := Lib.hid (EE.out.below hb)
  clear hb
  have q0_0 : w13.cell? ⟨w1.heap.size, 0, none⟩ = some (.int .i64 a1) := R0.out.c 0
  have q0_1 : w13.cell? ⟨w1.heap.size, 1, none⟩ = some (.int .i64 a2) := R0.out.c 1
  have q1_0 : w13.cell? ⟨w3.heap.size, 0, none⟩ = some (.int .i64 a1) := R1.out.c 0
  have q1_1 : w13.cell? ⟨w3.heap.size, 1, none⟩ = some (.int .i64 a2) := R1.out.c 1
  have q2_0 : w13.cell? ⟨w5.heap.size, 0, none⟩ = some (.int .i64 b1) := R2.out.c 0
  have q2_1 : w13.cell? ⟨w5.heap.size, 1, none⟩ = some (.int .i64 b2) := R2.out.c 1
  have q3_0 : w13.cell? ⟨w7.heap.size, 0, none⟩ = some (.int .i64 b1) := R3.out.c 0
  have q3_1 : w13.cell? ⟨w7.heap.size, 1, none⟩ = some (.int .i64 b2) := R3.out.c 1
  have q4_0 : w13.cell? ⟨w9.heap.size, 0, none⟩ = some (.int .i64 c1) := R4.out.c 0
  have q4_1 : w13.cell? ⟨w9.heap.size, 1, none⟩ = some (.int .i64 c2) := R4.out.c 1
  have q4_2 : w13.cell? ⟨w9.heap.size, 2, none⟩ = some (.int .i64 c3) := R4.out.c 2
  have q5_0 : w13.cell? ⟨w11.heap.size, 0, none⟩ = some (.int .i64 c1) := R5.out.c 0
  have q5_1 : w13.cell? ⟨w11.heap.size, 1, none⟩ = some (.int .i64 c2) := R5.out.c 1
  have q5_2 : w13.cell? ⟨w11.heap.size, 2, none⟩ = some (.int .i64 c3) := R5.out.c 2
  go_wp2
  go_ret
  exact ⟨rfl, BB.out⟩
end Go.Proofs.YtkkmjadkagpihaaDoor
