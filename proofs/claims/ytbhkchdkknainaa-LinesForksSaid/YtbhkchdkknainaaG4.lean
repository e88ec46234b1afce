import Derived.Test.YtbhkchdkknainaaU4
namespace Go.Proofs.Ytbhkchdkknainaa
open Go.RowKit

/-- The slice v reads as l, or it is empty, wherever it points. -/
def Rd (w : World) (v : Value) (l : List UInt8) : Prop := Byt w v l ∨ (l = [] ∧ ∃ a cap, v = .slice a 0 cap)
theorem Rd.shape {w : World} {v : Value} {l : List UInt8} (h : Rd w v l) : ∃ a cap, v = .slice a l.length cap ∧ l.length ≤ cap := by
  rcases h with h | ⟨rfl, a, cap, rfl⟩
  · exact h.shape
  · exact ⟨a, cap, rfl, Nat.zero_le _⟩
theorem Rd.below {w w' : World} {v : Value} {l : List UInt8} (h : Rd w v l) (hb : Below w.heap.size w w') : Rd w' v l := by
  rcases h with h | h
  · exact Or.inl (h.below hb)
  · exact Or.inr h
theorem Rd.src {w : World} {v : Value} {l : List UInt8} (h : Rd w v l) : Go.Src Try.prog 1 31 v l.length (l.map fun b => Value.int .u8 (b.toNat : Int)) w := by
  rcases h with h | ⟨rfl, a, cap, rfl⟩
  · exact h.src Try.underlying31
  · cases a with
    | none => exact Go.Src.ofNil w Try.underlying31 cap
    | some ad => exact Go.Src.ofSlice w Try.underlying31 ad 0 cap _ rfl (fun j u hj => by simp at hj) (fun u hu => by cases hu)
theorem app_rd (w : World) {B : Nat} {v x : Value} {l p : List UInt8} (hv : Row B w v l) (hx : Rd w x p) (hB : B ≤ w.heap.size) (hlen : l.length + p.length ≤ 140737488355328) :
    ∃ v' w', (∀ ty, (Builtin.append_ #[31, 31] ty #[v, x]).run Try.prog w = .ok v' w') ∧ Row B w' v' (l ++ p) ∧ w.grownBy w' v.ownBlock ∧ (v'.ownBlock = v.ownBlock ∨ ∀ g, v'.ownBlock = some g → w.heap.size ≤ g) := by
  obtain ⟨i0, hi, hz0, hz1, hz2⟩ := info_parts info5
  exact run_append_src w 31 31 5 i0 Try.underlying31 hi hz0 hz1 hz2 hv hx.src hB hlen

set_option maxHeartbeats 800000 in
theorem feed_rd {B b : Nat} {v p : Value} {l q : List UInt8} (w : World) (h : LB B w b v l) (hp : Rd w p q) (hB : B ≤ w.heap.size) (hl : l.length ≤ 16384) (hfit : l.length + q.length ≤ 16384) :
    Calls Try.prog 12 #[.pointer (some ⟨b, 0, none⟩), p] w fun e w' => e = .returned (.int .i64 0) ∧ ∃ v', LB B w' b v' (l ++ q) ∧ Fr (fun k => k = b ∨ v.ownBlock = some k) w w' ∧ (v'.ownBlock = v.ownBlock ∨ ∀ g, v'.ownBlock = some g → w.heap.size ≤ g) := by
  obtain ⟨v2, w2, hr2, hrow2, hg2, hor⟩ := app_rd w h.row hp hB (by omega)
  obtain ⟨a, cap, rfl, hcap⟩ := h.row.1.shape
  obtain ⟨a2, cap2, rfl, hcap2⟩ := hp.shape
  obtain ⟨a3, cap3, rfl, hcap3⟩ := hrow2.1.shape
  have hc := h.cell
  have hf := h.free
  have hblt := h.lt
  have hap := h.apart
  have hne : some b ≠ (Value.slice a l.length cap).ownBlock := fun e => hap e.symm
  have hbk : w2.heap[b]? = w.heap[b]? := hg2.block b hblt hne
  have hc2 : w2.cell? ⟨b, 0, none⟩ = some (.slice a l.length cap) := (World.cell?_of_block (a := ⟨b, 0, none⟩) hbk).trans hc
  have hf2 : w2.frozen? ⟨b, 0, none⟩ = false := (World.frozen?_of_block (a := ⟨b, 0, none⟩) hbk).trans hf
  have hap3 : (Value.slice a3 (l ++ q).length cap3).ownBlock ≠ some b := by
    rcases hor with e | e
    · rw [e]; exact hap
    · intro hh; have := e b hh; omega
  have hfin : LB B (w2.setCell ⟨b, 0, none⟩ (.slice a3 (l ++ q).length cap3)) b (.slice a3 (l ++ q).length cap3) (l ++ q) := LB.set (by rw [hc2]; rfl) hf2 h.own hrow2 hap3
  have hfr : Fr (fun k => k = b ∨ (Value.slice a l.length cap).ownBlock = some k) w (w2.setCell ⟨b, 0, none⟩ (.slice a3 (l ++ q).length cap3)) :=
    Fr.trans (S := fun k => (Value.slice a l.length cap).ownBlock = some k) (T := fun k => k = b) ⟨hg2.os, hg2.tape, hg2.output, hg2.size, fun k hk hn => hg2.block k hk (fun e => hn e.symm)⟩ (Fr.set w2 b _ rfl) (fun _ hi => Or.inr hi) (fun _ _ hi => Or.inl hi)
  have hle : ¬ ((16384 : Int) - (l.length : Int) < (q.length : Int)) := by omega
  have R2 := Lib.hid hr2
  have HFIN := Lib.hid hfin
  have HFR := Lib.hid hfr
  have HOR := Lib.hid hor
  generalize hn3 : (l ++ q).length = n3 at hc2 R2 HFIN HFR HOR
  clear hr2 hfin hfr hor hrow2 hg2 hap3 hn3
  go_enter Try.func12, Try.ntmps12
  go_wp2_with (at_builtin; refine wpList_append_run _ rfl _ _ 31 31 rfl _ _ rfl rfl _ w2 R2.out ?_)
  go_ret
  exact ⟨rfl, _, HFIN.out, HFR.out, HOR.out⟩

/-- The slice v holds slices that read as the lists of L. -/
def Byts (w : World) (v : Value) (L : List (List UInt8)) : Prop :=
  ∃ a cap, v = .slice a L.length cap ∧ L.length ≤ cap ∧ (a = none → cap = 0) ∧
    ∀ j (h : j < L.length), ∃ g off, a = some ⟨g, off, none⟩ ∧ g < w.heap.size ∧ ∃ x, w.cell? ⟨g, off + j, none⟩ = some x ∧ Rd w x L[j]
theorem Byts.shape {w : World} {v : Value} {L : List (List UInt8)} (h : Byts w v L) : ∃ a cap, v = .slice a L.length cap ∧ L.length ≤ cap := by
  obtain ⟨a, cap, h1, h2, _⟩ := h
  exact ⟨a, cap, h1, h2⟩
theorem Byts.at {w wx : World} {a : Option Addr} {n cap : Nat} {L : List (List UInt8)} (h : Byts w (.slice a n cap) L) (hb : Below w.heap.size w wx) (j : Nat) (hj : j < L.length) :
    ∃ g off x, a = some ⟨g, off, none⟩ ∧ wx.cell? ⟨g, off + j, none⟩ = some x ∧ Rd wx x L[j] := by
  obtain ⟨a', cap', h1, _, _, h4⟩ := h
  injection h1 with e1 _ _
  subst e1
  obtain ⟨g, off, ha, hg, x, hc, hx⟩ := h4 j hj
  exact ⟨g, off, x, ha, (hb.cell hg).trans hc, hx.below hb⟩

set_option maxHeartbeats 1600000 in
set_option maxRecDepth 100000 in
theorem walk_pieces (v : Value) (L : List (List UInt8)) (w : World) (hv : Byts w v L) (hM : Ml w) : Calls Try.prog 4 #[v] w fun e w' => e = .returned (.bool true) ∧ Below w.heap.size w w' := by
  obtain ⟨a, cap, rfl, hcap⟩ := hv.shape
  have hw0 : 0 < w.heap.size := by obtain ⟨m, hm⟩ := hM; have := World.block_lt_of_cell? w _ hm; omega
  go_enter Try.func4, Try.ntmps4
  go_wp2_with fail
  refine (new_any w).mono ?_
  rintro e w1 ⟨rfl, L1, b1⟩
  have z1 := b1.size
  have hx1 := L1.lt
  go_wp2_with fail
  refine (new_any w1).mono ?_
  rintro e w2 ⟨rfl, Y2, b2'⟩
  have X2 := L1.stay b2'
  have b2 := b1.trans (b2'.mono z1)
  have Y2 : LB w.heap.size w2 w1.heap.size (.slice none 0 0) [] := ⟨Y2.cell, Y2.free, z1, Row.nil _ _, Y2.apart⟩
  have hyx : w.heap.size ≠ w1.heap.size := by omega
  generalize hby : w1.heap.size = by0 at Y2 hyx
  clear b2' L1
  go_wp2
  go_loopw [5, 6] (fun allv iv wr => ∃ (A : List UInt8) (i : Nat) (vx : Value), i ≤ L.length ∧ iv = .int .i64 (i : Int) ∧ A.length ≤ 4000 ∧ Row w.heap.size wr allv A ∧ LB w.heap.size wr w.heap.size vx A ∧ LB w.heap.size wr by0 (.slice none 0 0) [] ∧ Below w.heap.size w wr
      ∧ allv.ownBlock ≠ some w.heap.size ∧ allv.ownBlock ≠ some by0 ∧ vx.ownBlock ≠ some by0 ∧ (∀ g, allv.ownBlock = some g → vx.ownBlock ≠ some g)) (fun _ iv _ => L.length + 1 - intOf iv)
  case atStart => exact ⟨[], 0, _, Nat.zero_le _, rfl, by decide, Row.nil _ _, X2, Y2, b2, by simp [Value.ownBlock], by simp [Value.ownBlock], by simp [Value.ownBlock], by simp [Value.ownBlock]⟩
  case round =>
    obtain ⟨A, i, vx, hi, hu, hA, hrow, X, Y, b, d1, d2, d3, d4⟩ := hrel
    subst hu
    have hz := b.size
    by_cases hlt : i < L.length
    · obtain ⟨g, off, x, rfl, hc, hx⟩ := hv.at b i hlt
      by_cases h20 : i < 20
      · by_cases hbig : 4000 < L[i].length + A.length
        · have hbi : ((4000 : Int) - (A.length : Int) < (L[i].length : Int)) := by omega
          obtain ⟨ax, capx, hxs, hcapx⟩ := hx.shape
          subst hxs
          have M3 := hM.below b (Nat.le_refl _)
          obtain ⟨aa, capa, rfl, hcapa⟩ := hrow.1.shape
          clear hrow X Y hx d1 d2 d3 d4
          go_wp2_with fail
          refine (live_any wr M3).mono ?_
          rintro e w4 ⟨rfl, b4⟩
          have FIN := Lib.hid (b.trans (b4.mono hz))
          go_wp2
          go_ret
          exact ⟨rfl, FIN.out⟩
        · have hbi : ¬ ((4000 : Int) - (A.length : Int) < (L[i].length : Int)) := by omega
          obtain ⟨ax, capx, hxs, hcapx⟩ := hx.shape
          subst hxs
          obtain ⟨aa, capa, rfl, hcapa⟩ := hrow.1.shape
          obtain ⟨v3, w3, hr3, hrow3, hg3, ho3⟩ := app_rd wr hrow hx hz (by omega)
          have b3 := below_grow b hrow hz hg3
          have hF3 : Fr (fun k => (Value.slice aa A.length capa).ownBlock = some k) wr w3 := ⟨hg3.os, hg3.tape, hg3.output, hg3.size, fun k hk hn => hg3.block k hk (fun e => hn e.symm)⟩
          have X3 := X.fr hF3 d1 (fun g hg e => d4 g e hg)
          have Y3 := Y.fr hF3 d2 (fun g hg => by simp [Value.ownBlock] at hg)
          obtain ⟨g', off', x', hga, hc', hx'⟩ := hv.at b3 i hlt
          injection hga with hga
          injection hga with e1 e2
          subst e1 e2
          have hxw := X.lt
          have hxr := X.row.1.lt
          have e1' : v3.ownBlock ≠ some w.heap.size := by
            rcases ho3 with e | e
            · rw [e]; exact d1
            · intro hh; have := e _ hh; omega
          have e2' : v3.ownBlock ≠ some by0 := by
            rcases ho3 with e | e
            · rw [e]; exact d2
            · intro hh; have := e _ hh; have := Y.lt; omega
          have e4' : ∀ g, v3.ownBlock = some g → vx.ownBlock ≠ some g := by
            rcases ho3 with e | e
            · rw [e]; exact d4
            · intro g hg hh; have := e _ hg; have := hxr _ hh; omega
          have cf := feed_rd w3 X3 hx' b3.size (by omega) (by omega)
          have R3 := Lib.hid hr3
          have HR3 := Lib.hid hrow3
          clear hr3 hrow3 hrow X Y hg3 hx
          go_wp2_with (at_builtin; refine wpList_append_run _ rfl _ _ 31 31 rfl _ _ rfl rfl v3 w3 R3.out ?_)
          refine cf.mono ?_
          rintro e w4 ⟨rfl, v4, X4, F4, O4⟩
          have b4 := X3.to_below F4 b3 b3.size
          have R4 := HR3.out.fr F4 (fun g hg e => by
            rcases e with e | e
            · exact e1' (by rw [hg, e])
            · exact e4' g hg e)
          have Y4 := Y3.fr F4 (fun e => e.elim (fun e => hyx e.symm) (fun e => d3 e)) (fun g hg => by simp [Value.ownBlock] at hg)
          have z3 := b3.size
          have e3' : v4.ownBlock ≠ some by0 := by
            rcases O4 with e | e
            · rw [e]; exact d3
            · intro hh; have := e _ hh; have := Y3.lt; omega
          have e5' : ∀ g, v3.ownBlock = some g → v4.ownBlock ≠ some g := by
            rcases O4 with e | e
            · rw [e]; exact e4'
            · intro g hg hh; have := e _ hh; have := HR3.out.1.lt _ hg; omega
          have RES := Lib.hid (And.intro R4 (And.intro X4 (And.intro Y4 (And.intro b4 (And.intro e1' (And.intro e2' (And.intro e3' e5')))))))
          clear R4 X4 Y4 b4 e1' e2' e3' e5' e4' X3 Y3 cf F4 O4 d1 d2 d3 d4 b3
          go_wp2_with fail
          go_roundw
          case rel => 
            obtain ⟨R4, X4, Y4, b4, e1, e2, e3, e5⟩ := RES.out
            exact ⟨A ++ L[i], i + 1, v4, hlt, by rw [Int.natCast_add]; rfl, by rw [List.length_append]; omega, R4, X4, Y4, b4, e1, e2, e3, e5⟩
          case measure => simp only [intOf]; omega
      · --REST
        obtain ⟨aa, capa, rfl, hcapa⟩ := hrow.1.shape
        have cy := feed_any wr Y hrow.1 hz (by decide) (by simp only [List.length_nil]; omega)
        have hxw := X.lt
        go_wp2_with fail
        refine cy.mono ?_
        rintro e w3 ⟨rfl, vy, Y3, F3, O3⟩
        rw [List.nil_append] at Y3
        have b3 := Y.to_below F3 b hz
        have X3 := X.fr F3 (fun e => e.elim hyx (fun e => by simp [Value.ownBlock] at e)) (fun g hg e => e.elim (fun e => d3 (by rw [hg, e])) (fun e => by simp [Value.ownBlock] at e))
        have e1 : vy.ownBlock ≠ some w.heap.size := by
          rcases O3 with e | e
          · rw [e]; simp [Value.ownBlock]
          · intro hh; have := e _ hh; omega
        have START := Lib.hid (And.intro X3 (And.intro Y3 (And.intro b3 (And.intro d3 e1))))
        clear hrow X Y d1 d2 d3 d4 F3 O3 Y3 X3 e1 cy b3 b hz hxw
        go_wp2_with fail
        go_loopw [7, 8, 9, 10, 11] (fun iv _a _e _b _f wr => ∃ (k i : Nat) (vx vy : Value), k ≤ A.length ∧ i ≤ k ∧ iv = .int .i64 (i : Int) ∧ LB w.heap.size wr w.heap.size vx (A.drop k) ∧ LB w.heap.size wr by0 vy (A.drop k) ∧ Below w.heap.size w wr ∧ vx.ownBlock ≠ some by0 ∧ vy.ownBlock ≠ some w.heap.size) (fun iv _ _ _ _ _ => A.length + 1 - intOf iv)
        case atStart =>
          obtain ⟨X3, Y3, b3, d3, e1⟩ := START.out
          exact ⟨0, 0, vx, vy, Nat.zero_le _, Nat.le_refl _, rfl, X3, Y3, b3, d3, e1⟩
        case round =>
          obtain ⟨k, i2, vx2, vy2, hk, hik, hu2, X, Y, b, d3, e1⟩ := hrel
          subst hu2
          have hz := b.size
          have hlen : (A.drop k).length = A.length - k := List.length_drop
          have M := hM.below b (Nat.le_refl _)
          cases hln : lineLen (A.drop k) with
          | none =>
            have c1 := line_short _ X (by omega) M hln
            go_wp2_with fail
            refine c1.mono ?_
            rintro e w4 ⟨rfl, b4'⟩
            have X4 := X.stay b4'
            have Y4 := Y.stay b4'
            have b4 := b.trans (b4'.mono hz)
            have c2 := line_short _ Y4 (by omega) (hM.below b4 (Nat.le_refl _)) hln
            clear X Y c1 b4' b M
            go_wp2_with fail
            refine c2.mono ?_
            rintro e w5 ⟨rfl, b5'⟩
            have X5 := X4.stay b5'
            have Y5 := Y4.stay b5'
            have b5 := b4.trans (b5'.mono b4.size)
            clear X4 Y4 c2 b5' b4
            go_wp2_with fail
            refine (live_any w5 (hM.below b5 (Nat.le_refl _))).mono ?_
            rintro e w6 ⟨rfl, b6'⟩
            have X6 := X5.stay b6'
            have Y6 := Y5.stay b6'
            have b6 := b5.trans (b6'.mono b5.size)
            clear X5 Y5 b6' b5
            go_wp2_with fail
            refine (wait_any _ X6).mono ?_
            rintro e w7 ⟨rfl, rfl⟩
            go_wp2_with fail
            refine (wait_any _ Y6).mono ?_
            rintro e w8 ⟨rfl, rfl⟩
            go_wp2
            go_ret
            exact ⟨rfl, b6⟩
          | some n =>
            have hle := lineLen_le _ _ hln
            rw [hlen] at hle
            have c1 := line_some _ n X (by omega) M hln
            go_wp2_with fail
            refine c1.mono ?_
            rintro e w4 ⟨rfl, vx4, X4, O4, F4⟩
            have Y4 := Y.fr F4 (fun e => hyx e.symm) (fun g hg e => e1 (by rw [hg, e]))
            have b4 := X.to_below1 F4 b hz
            have c2 := line_some _ n Y4 (by omega) (hM.below b4 (Nat.le_refl _)) hln
            have f3 : vx4.ownBlock ≠ some by0 := by rw [O4]; exact d3
            clear X Y c1 F4 O4 b M
            have HC2 := Lib.hid c2
            have HY := Lib.hid Y4
            have HX := Lib.hid X4
            have HB := Lib.hid b4
            by_cases hb : 1024 < n - 2
            · have hV : lineV (A.drop k) n = .tuple #[.string ⟨#[]⟩, .int .i64 6] := by unfold lineV; rw [if_pos hb]
              rw [hV]
              have c2 := HC2.out
              rw [hV] at c2
              clear hV HC2 X4 Y4 b4
              go_wp2_with fail
              refine c2.mono ?_
              rintro e w5 ⟨rfl, vy5, Y5, O5, F5⟩
              have X5 := HX.out.fr F5 hyx (fun g hg e => f3 (by rw [hg, e]))
              have b5 := HY.out.to_below1 F5 HB.out HB.out.size
              have f1 : vy5.ownBlock ≠ some w.heap.size := by rw [O5]; exact e1
              rw [List.drop_drop] at X5 Y5
              have RES := Lib.hid (And.intro X5 (And.intro Y5 b5))
              clear X5 Y5 b5 F5 O5 c2 HX HY HB
              go_wp2_with fail
              go_roundw
              case rel =>
                obtain ⟨X5, Y5, b5⟩ := RES.out
                exact ⟨k + n, i2 + 1, vx4, vy5, by omega, by omega, by rw [Int.natCast_add]; rfl, X5, Y5, b5, f3, f1⟩
              case measure => simp only [intOf]; omega
            · have hV : lineV (A.drop k) n = .tuple #[.string ⟨((A.drop k).take (n - 2)).toArray⟩, .int .i64 0] := by unfold lineV; rw [if_neg hb]
              rw [hV]
              have c2 := HC2.out
              rw [hV] at c2
              clear hV HC2 X4 Y4 b4
              go_wp2_with fail
              refine c2.mono ?_
              rintro e w5 ⟨rfl, vy5, Y5, O5, F5⟩
              have X5 := HX.out.fr F5 hyx (fun g hg e => f3 (by rw [hg, e]))
              have b5 := HY.out.to_below1 F5 HB.out HB.out.size
              have f1 : vy5.ownBlock ≠ some w.heap.size := by rw [O5]; exact e1
              rw [List.drop_drop] at X5 Y5
              have RES := Lib.hid (And.intro X5 (And.intro Y5 b5))
              clear X5 Y5 b5 F5 O5 c2 HX HY HB
              go_wp2_with fail
              go_roundw
              case rel =>
                obtain ⟨X5, Y5, b5⟩ := RES.out
                exact ⟨k + n, i2 + 1, vx4, vy5, by omega, by omega, by rw [Int.natCast_add]; rfl, X5, Y5, b5, f3, f1⟩
              case measure => simp only [intOf]; omega
    · --REST
      obtain ⟨aa, capa, rfl, hcapa⟩ := hrow.1.shape
      have cy := feed_any wr Y hrow.1 hz (by decide) (by simp only [List.length_nil]; omega)
      have hxw := X.lt
      go_wp2_with fail
      refine cy.mono ?_
      rintro e w3 ⟨rfl, vy, Y3, F3, O3⟩
      rw [List.nil_append] at Y3
      have b3 := Y.to_below F3 b hz
      have X3 := X.fr F3 (fun e => e.elim hyx (fun e => by simp [Value.ownBlock] at e)) (fun g hg e => e.elim (fun e => d3 (by rw [hg, e])) (fun e => by simp [Value.ownBlock] at e))
      have e1 : vy.ownBlock ≠ some w.heap.size := by
        rcases O3 with e | e
        · rw [e]; simp [Value.ownBlock]
        · intro hh; have := e _ hh; omega
      have START := Lib.hid (And.intro X3 (And.intro Y3 (And.intro b3 (And.intro d3 e1))))
      clear hrow X Y d1 d2 d3 d4 F3 O3 Y3 X3 e1 cy b3 b hz hxw
      go_wp2_with fail
      go_loopw [7, 8, 9, 10, 11] (fun iv _a _e _b _f wr => ∃ (k i : Nat) (vx vy : Value), k ≤ A.length ∧ i ≤ k ∧ iv = .int .i64 (i : Int) ∧ LB w.heap.size wr w.heap.size vx (A.drop k) ∧ LB w.heap.size wr by0 vy (A.drop k) ∧ Below w.heap.size w wr ∧ vx.ownBlock ≠ some by0 ∧ vy.ownBlock ≠ some w.heap.size) (fun iv _ _ _ _ _ => A.length + 1 - intOf iv)
      case atStart =>
        obtain ⟨X3, Y3, b3, d3, e1⟩ := START.out
        exact ⟨0, 0, vx, vy, Nat.zero_le _, Nat.le_refl _, rfl, X3, Y3, b3, d3, e1⟩
      case round =>
        obtain ⟨k, i2, vx2, vy2, hk, hik, hu2, X, Y, b, d3, e1⟩ := hrel
        subst hu2
        have hz := b.size
        have hlen : (A.drop k).length = A.length - k := List.length_drop
        have M := hM.below b (Nat.le_refl _)
        cases hln : lineLen (A.drop k) with
        | none =>
          have c1 := line_short _ X (by omega) M hln
          go_wp2_with fail
          refine c1.mono ?_
          rintro e w4 ⟨rfl, b4'⟩
          have X4 := X.stay b4'
          have Y4 := Y.stay b4'
          have b4 := b.trans (b4'.mono hz)
          have c2 := line_short _ Y4 (by omega) (hM.below b4 (Nat.le_refl _)) hln
          clear X Y c1 b4' b M
          go_wp2_with fail
          refine c2.mono ?_
          rintro e w5 ⟨rfl, b5'⟩
          have X5 := X4.stay b5'
          have Y5 := Y4.stay b5'
          have b5 := b4.trans (b5'.mono b4.size)
          clear X4 Y4 c2 b5' b4
          go_wp2_with fail
          refine (live_any w5 (hM.below b5 (Nat.le_refl _))).mono ?_
          rintro e w6 ⟨rfl, b6'⟩
          have X6 := X5.stay b6'
          have Y6 := Y5.stay b6'
          have b6 := b5.trans (b6'.mono b5.size)
          clear X5 Y5 b6' b5
          go_wp2_with fail
          refine (wait_any _ X6).mono ?_
          rintro e w7 ⟨rfl, rfl⟩
          go_wp2_with fail
          refine (wait_any _ Y6).mono ?_
          rintro e w8 ⟨rfl, rfl⟩
          go_wp2
          go_ret
          exact ⟨rfl, b6⟩
        | some n =>
          have hle := lineLen_le _ _ hln
          rw [hlen] at hle
          have c1 := line_some _ n X (by omega) M hln
          go_wp2_with fail
          refine c1.mono ?_
          rintro e w4 ⟨rfl, vx4, X4, O4, F4⟩
          have Y4 := Y.fr F4 (fun e => hyx e.symm) (fun g hg e => e1 (by rw [hg, e]))
          have b4 := X.to_below1 F4 b hz
          have c2 := line_some _ n Y4 (by omega) (hM.below b4 (Nat.le_refl _)) hln
          have f3 : vx4.ownBlock ≠ some by0 := by rw [O4]; exact d3
          clear X Y c1 F4 O4 b M
          have HC2 := Lib.hid c2
          have HY := Lib.hid Y4
          have HX := Lib.hid X4
          have HB := Lib.hid b4
          by_cases hb : 1024 < n - 2
          · have hV : lineV (A.drop k) n = .tuple #[.string ⟨#[]⟩, .int .i64 6] := by unfold lineV; rw [if_pos hb]
            rw [hV]
            have c2 := HC2.out
            rw [hV] at c2
            clear hV HC2 X4 Y4 b4
            go_wp2_with fail
            refine c2.mono ?_
            rintro e w5 ⟨rfl, vy5, Y5, O5, F5⟩
            have X5 := HX.out.fr F5 hyx (fun g hg e => f3 (by rw [hg, e]))
            have b5 := HY.out.to_below1 F5 HB.out HB.out.size
            have f1 : vy5.ownBlock ≠ some w.heap.size := by rw [O5]; exact e1
            rw [List.drop_drop] at X5 Y5
            have RES := Lib.hid (And.intro X5 (And.intro Y5 b5))
            clear X5 Y5 b5 F5 O5 c2 HX HY HB
            go_wp2_with fail
            go_roundw
            case rel =>
              obtain ⟨X5, Y5, b5⟩ := RES.out
              exact ⟨k + n, i2 + 1, vx4, vy5, by omega, by omega, by rw [Int.natCast_add]; rfl, X5, Y5, b5, f3, f1⟩
            case measure => simp only [intOf]; omega
          · have hV : lineV (A.drop k) n = .tuple #[.string ⟨((A.drop k).take (n - 2)).toArray⟩, .int .i64 0] := by unfold lineV; rw [if_neg hb]
            rw [hV]
            have c2 := HC2.out
            rw [hV] at c2
            clear hV HC2 X4 Y4 b4
            go_wp2_with fail
            refine c2.mono ?_
            rintro e w5 ⟨rfl, vy5, Y5, O5, F5⟩
            have X5 := HX.out.fr F5 hyx (fun g hg e => f3 (by rw [hg, e]))
            have b5 := HY.out.to_below1 F5 HB.out HB.out.size
            have f1 : vy5.ownBlock ≠ some w.heap.size := by rw [O5]; exact e1
            rw [List.drop_drop] at X5 Y5
            have RES := Lib.hid (And.intro X5 (And.intro Y5 b5))
            clear X5 Y5 b5 F5 O5 c2 HX HY HB
            go_wp2_with fail
            go_roundw
            case rel =>
              obtain ⟨X5, Y5, b5⟩ := RES.out
              exact ⟨k + n, i2 + 1, vx4, vy5, by omega, by omega, by rw [Int.natCast_add]; rfl, X5, Y5, b5, f3, f1⟩
            case measure => simp only [intOf]; omega
end Go.Proofs.Ytbhkchdkknainaa
