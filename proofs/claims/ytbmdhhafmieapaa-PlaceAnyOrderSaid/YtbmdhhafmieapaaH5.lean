/- The code's Learn. -/
import Derived.Test.YtbmdhhafmieapaaH4
import Derived.Deep.RegionLaw
import Derived.StillTailTactics
namespace Go.Proofs.Ytbmdhhafmieapaa
open Go Go.RowKit Go.Maps

def putK (l : List Known) (x : Known) : DataW Unit := (mapD l).put (.string x.1) (entD x)
/-- What Learn tells. -/
def learnE (l : List Known) (n : Int) (x : Known) (u : ByteArray) : Int :=
  if x.2.1 < 0 ∨ n ≤ x.2.1 ∨ x.2.2 < 1 then 2 else if x.2.2 ≤ (seatOf l u n).2.2 then 12 else if (findK l x.1).isNone = true ∧ 64 ≤ l.length then 8 else 0
theorem lookE (b n : Nat) (l : List Known) (u : ByteArray) (w : World) (hu : u.size ≤ 140737488355000) (h : w.ownsMap Try.prog 9 seatElem b n (mapD l)) :
    (Instr.lookup 55 (.map (some b)) (.string u) true).run Try.prog w = .ok (.tuple #[seatV ((findK l u.data.toList).getD ([], 0, 0)), .bool (findK l u.data.toList).isSome]) w := by
  have hkey : keyOf Try.prog 9 (.string u) = some (.string u.data.toList) := Go.WideMaps.keyOf_string_mk Try.underlying9 (by unfold maxLen; omega)
  obtain ⟨v, ps, hrun, hv⟩ := h.look_ok keyS Try.underlying55 (zero_seat w) zero_reads hkey
  rw [hrun, has_mapD]
  rw [at_mapD] at hv
  have hv2 : seatElem v = some (entD ((findK l u.data.toList).getD ([], 0, 0)), ps) := by
    rw [hv]
    cases findK l u.data.toList <;> rfl
  rw [seat_inv hv2]; rfl
theorem IsMap.mono {w : World} {p b : Nat} {n : Int} {k k' : Nat} {D : DataW Unit} (h : IsMap w p b n k D) (hk : k ≤ k') : IsMap w p b n k' D := ⟨h.c0, h.c1, h.own.mono hk, h.ne⟩
theorem grown_of_below {w w' : World} (hb : Below w.heap.size w w') (r : Option Nat) : w.grownBy w' r := ⟨hb.os, hb.tape, hb.output, hb.size, fun k hk _ => hb.block k hk⟩
def LearnPost (w : World) (B p b : Nat) (n : Int) (k : Nat) (l : List Known) (x : Known) (u : ByteArray) (e : Ending) (w' : World) : Prop :=
  e = .returned (.int .i64 (learnE l n x u)) ∧ (Below B w w' ∧ w.grownBy w' (some b)) ∧ (learnE l n x u ≠ 0 → IsMap w' p b n k (mapD l)) ∧ (learnE l n x u = 0 → IsMap w' p b n (k + 1) (putK l x))
theorem learn_bad {w w' : World} {B p b : Nat} {n : Int} {k : Nat} {l : List Known} {x : Known} {u : ByteArray} {c : Int} (hc : learnE l n x u = c) (h0 : c ≠ 0) (hB : B ≤ w.heap.size) (hm : IsMap w p b n k (mapD l)) (hb : Below w.heap.size w w') :
    LearnPost w B p b n k l x u (.returned (.int .i64 c)) w' :=
  ⟨by rw [hc], ⟨hb.mono hB, grown_of_below hb _⟩, fun _ => hm.below hb hm.lt, fun h => absurd (hc.symm.trans h) h0⟩

theorem learn_good {w w3 w4 : World} {B p b : Nat} {n : Int} {k : Nat} {l : List Known} {x : Known} {u : ByteArray} (hc : learnE l n x u = 0) (hB : B ≤ b) (hBw : B ≤ w.heap.size) (B3 : Below w.heap.size w w3) (hm3 : IsMap w3 p b n k (mapD l))
    (own4 : w4.ownsMap Try.prog 9 seatElem b (k + 1) ((mapD l).put (.string x.1) (entD x))) (grow4 : w3.drew.grownBy w4 (some b)) :
    LearnPost w B p b n k l x u (.returned (.int .i64 0)) w4 := by
  have hp := hm3.lt
  have hz := B3.size
  refine ⟨by rw [hc], ⟨(B3.mono hBw).drew.grown grow4 (by show B ≤ w3.heap.size; omega) (fun j e => by cases e; exact hB), ⟨grow4.os.trans B3.os, grow4.tape.trans B3.tape, grow4.output.trans B3.output, Nat.le_trans hz grow4.size, fun k hk hne => (grow4.block k (Nat.lt_of_lt_of_le hk hz) hne).trans (B3.block k hk)⟩⟩, fun h => absurd hc h, fun _ => ⟨?_, ?_, own4, hm3.ne⟩⟩
  · rw [World.cell?_of_block (w := w3.drew) (grow4.block p hp (by intro e; have := hm3.ne; cases e; omega))]; exact hm3.c0
  · rw [World.cell?_of_block (w := w3.drew) (grow4.block p hp (by intro e; have := hm3.ne; cases e; omega))]; exact hm3.c1

set_option maxHeartbeats 4000000 in
set_option maxRecDepth 100000 in
theorem learn_any (p b B : Nat) (n : Int) (k : Nat) (l : List Known) (u : ByteArray) (s e : Int) (w : World) (hu : u.size ≤ 140737488355000) (hn : 1 ≤ n ∧ n ≤ 4) (hs : -9223372036854775808 ≤ s ∧ s ≤ 9223372036854775807) (he : -9223372036854775808 ≤ e ∧ e ≤ 9223372036854775807) (hm : IsMap w p b n k (mapD l)) (hl : ∀ x ∈ l, x.1.length ≤ 140737488355000) (hB : B ≤ b) (hk : k ≤ 1000000) :
    Calls Try.prog 17 #[.pointer (some ⟨p, 0, none⟩), .agg #[.string u, .int .i64 s, .int .i64 e]] w (LearnPost w B p b n k l (u.data.toList, s, e) u) := by
  have hBw : B ≤ w.heap.size := by have := hm.lt; have := hm.ne; omega
  have hkey : keyOf Try.prog 9 (.string u) = some (.string u.data.toList) := Go.WideMaps.keyOf_string_mk Try.underlying9 (by unfold maxLen; omega)
  have t0 := Three.new w 35 (.string u) (.int .i64 s) (.int .i64 e)
  have b0 := (Below.refl w.heap.size w).alloc (Nat.le_refl _) (.cells #[.string u, .int .i64 s, .int .i64 e] 35)
  have hm0 := hm.below b0 hm.lt
  have c0 := hm0.c0
  have c1 := hm0.c1
  have hplt := hm.lt
  obtain ⟨⟨d0, d1, d2⟩, _⟩ := id t0
  by_cases hbad : s < 0 ∨ n ≤ s ∨ e < 1
  · have hE : learnE l n (u.data.toList, s, e) u = 2 := by unfold learnE; rw [if_pos hbad]
    have hcase : s < 0 ∨ (¬ s < 0 ∧ n ≤ s) ∨ (¬ s < 0 ∧ ¬ n ≤ s ∧ e < 1) := by omega
    have HE := Lib.hid hE
    clear hE hbad hl
    rcases hcase with h1 | ⟨h1, h2⟩ | ⟨h1, h2, h3⟩
    all_goals
      go_enter Try.func17, Try.ntmps17
      go_wp2_with fail
      go_quiet (fail)
      go_wp2
      go_ret
      exact learn_bad HE.out (by omega) hBw hm (b0.trans (by exact ⟨rfl, rfl, rfl, Nat.le_refl _, fun _ _ => rfl⟩))
  · have g1 : ¬ s < 0 := by omega
    have g2 : ¬ n ≤ s := by omega
    have g3 : ¬ e < 1 := by omega
    have hS := fun W hm => seat_any p b n k l u W hu hn hm hl
    have hE0 : learnE l n (u.data.toList, s, e) u = if e ≤ (seatOf l u n).2.2 then 12 else if (findK l u.data.toList).isNone = true ∧ 64 ≤ l.length then 8 else 0 := by unfold learnE; rw [if_neg hbad]
    generalize seatOf l u n = st at *
    by_cases hst : e ≤ st.2.2
    · rw [if_pos hst] at hE0
      have HE := Lib.hid hE0
      have hTw := Lib.hid t0
      clear hE0 hbad hl
      go_enter Try.func17, Try.ntmps17
      go_wp2_with fail
      go_quiet (fail)
      have bq : Below w.heap.size w ((w.alloc (.cells #[.string u, .int .i64 s, .int .i64 e] 35)).drewN nq) := b0.trans ⟨rfl, rfl, rfl, Nat.le_refl _, fun _ _ => rfl⟩
      have tq : Three ((w.alloc (.cells #[.string u, .int .i64 s, .int .i64 e] 35)).drewN nq) w.heap.size (.string u) (.int .i64 s) (.int .i64 e) := t0
      have hzq : w.heap.size < ((w.alloc (.cells #[.string u, .int .i64 s, .int .i64 e] 35)).drewN nq).heap.size := by show w.heap.size < (w.alloc _).heap.size; simp
      have hmq := hm.below bq hm.lt
      generalize (w.alloc (.cells #[.string u, .int .i64 s, .int .i64 e] 35)).drewN nq = wq at *
      obtain ⟨⟨y0, y1, y2⟩, _⟩ := id tq
      clear c0 c1 d0 d1 d2
      go_wp2_with fail
      refine (hS _ hmq).mono ?_
      rintro e1 w1 ⟨rfl, b1⟩
      have hz1 := b1.size
      have hzz : w.heap.size < w1.heap.size := by omega
      have t1 := tq.below b1 hzq
      have b1a := (Below.refl w1.heap.size w1).alloc (Nat.le_refl _) (.cells #[.string ⟨st.1.toArray⟩, .int .i64 st.2.1, .int .i64 st.2.2] 35)
      obtain ⟨⟨x0, x1, x2⟩, _⟩ := t1.below b1a hzz
      obtain ⟨⟨k0, k1, k2⟩, _⟩ := Three.new w1 35 (.string ⟨st.1.toArray⟩) (.int .i64 st.2.1) (.int .i64 st.2.2)
      have B1 := bq.trans (b1.mono bq.size)
      unfold seatV
      go_wp2
      go_ret
      exact learn_bad HE.out (by omega) hBw hm (B1.alloc B1.size _)
    · rw [if_neg hst] at hE0
      have HE := Lib.hid hE0
      have hTw := Lib.hid t0
      clear hE0 hbad hl
      go_enter Try.func17, Try.ntmps17
      go_wp2_with fail
      go_quiet (fail)
      have bq : Below w.heap.size w ((w.alloc (.cells #[.string u, .int .i64 s, .int .i64 e] 35)).drewN nq) := b0.trans ⟨rfl, rfl, rfl, Nat.le_refl _, fun _ _ => rfl⟩
      have tq : Three ((w.alloc (.cells #[.string u, .int .i64 s, .int .i64 e] 35)).drewN nq) w.heap.size (.string u) (.int .i64 s) (.int .i64 e) := t0
      have hzq : w.heap.size < ((w.alloc (.cells #[.string u, .int .i64 s, .int .i64 e] 35)).drewN nq).heap.size := by show w.heap.size < (w.alloc _).heap.size; simp
      have hmq := hm.below bq hm.lt
      generalize (w.alloc (.cells #[.string u, .int .i64 s, .int .i64 e] 35)).drewN nq = wq at *
      obtain ⟨⟨y0, y1, y2⟩, _⟩ := id tq
      clear c0 c1 d0 d1 d2
      go_wp2_with fail
      refine (hS _ hmq).mono ?_
      rintro e1 w1 ⟨rfl, b1⟩
      have hz1 := b1.size
      have hzz : w.heap.size < w1.heap.size := by omega
      have t1 := tq.below b1 hzq
      have b1a := (Below.refl w1.heap.size w1).alloc (Nat.le_refl _) (.cells #[.string ⟨st.1.toArray⟩, .int .i64 st.2.1, .int .i64 st.2.2] 35)
      obtain ⟨⟨x0, x1, x2⟩, _⟩ := t1.below b1a hzz
      obtain ⟨⟨k0, k1, k2⟩, _⟩ := Three.new w1 35 (.string ⟨st.1.toArray⟩) (.int .i64 st.2.1) (.int .i64 st.2.2)
      have B1 := bq.trans (b1.mono bq.size)
      obtain ⟨w2, hw2⟩ : ∃ w2, w2 = w1.alloc (.cells #[.string ⟨st.1.toArray⟩, .int .i64 st.2.1, .int .i64 st.2.2] 35) := ⟨_, rfl⟩
      have B2 : Below w.heap.size w w2 := by rw [hw2]; exact B1.alloc B1.size _
      have t2 : Three w2 w.heap.size (.string u) (.int .i64 s) (.int .i64 e) := by rw [hw2]; exact t1.below b1a hzz
      have hz2 : w2.heap.size = w1.heap.size + 1 := by rw [hw2]; simp
      have hm2 := hm.below B2 hm.lt
      have bd : Below w2.heap.size w2 w2.drew := (Below.refl _ _).drew
      have K : ∀ wx, Below w2.heap.size w2 wx → (Instr.lookup 55 (.map (some b)) (.string u) true).run Try.prog wx = .ok (.tuple #[seatV ((findK l u.data.toList).getD ([], 0, 0)), .bool (findK l u.data.toList).isSome]) wx ∧ wx.cell? ⟨p, 0, none⟩ = some (.int .i64 n) ∧ wx.cell? ⟨p, 1, none⟩ = some (.map (some b)) ∧ wx.cell? ⟨w.heap.size, 0, none⟩ = some (.string u) := by
        intro wx hb
        have hmx := hm2.below hb hm2.lt
        have tx := t2.below hb (by omega)
        exact ⟨lookE b k l u wx hu hmx.own, hmx.c0, hmx.c1, tx.1.1⟩
      generalize hfk : findK l u.data.toList = fk at *
      have HFK := Lib.hid hfk
      clear hfk hm0 hmq
      unfold seatV
      go_wp2_with fail
      rw [← hw2]
      unfold seatV at K
      have HZ2 := Lib.hid hz2
      clear hw2 hz2 x0 x1 x2 k0 k1 k2
      go_region_held3 (fun wx => Below w2.heap.size w2 wx ∧ (Instr.lookup 55 (.map (some b)) (.string u) true).run Try.prog wx = .ok (.tuple #[.agg #[.string ⟨(fk.getD ([], 0, 0)).1.toArray⟩, .int .i64 (fk.getD ([], 0, 0)).2.1, .int .i64 (fk.getD ([], 0, 0)).2.2], .bool fk.isSome]) wx ∧ wx.cell? ⟨p, 0, none⟩ = some (.int .i64 n) ∧ wx.cell? ⟨p, 1, none⟩ = some (.map (some b)) ∧ wx.cell? ⟨w.heap.size, 0, none⟩ = some (.string u)) (first | exact ⟨bd, K _ bd⟩ | exact ⟨bd.alloc (Nat.le_refl _) _, K _ (bd.alloc (Nat.le_refl _) _)⟩ | exact ⟨(bd.alloc (Nat.le_refl _) _).setCell (by simp) _, K _ ((bd.alloc (Nat.le_refl _) _).setCell (by simp) _)⟩) (first | fail)
      all_goals
        have b3 : Below w2.heap.size w2 (w2.alloc (.cells #[.string ⟨(fk.getD ([], 0, 0)).1.toArray⟩, .int .i64 (fk.getD ([], 0, 0)).2.1, .int .i64 (fk.getD ([], 0, 0)).2.2] 35)).drew := ((Below.refl _ _).alloc (Nat.le_refl _) _).drew
        have hm3 := hm2.below b3 hm2.lt
        have t3 := t2.below b3 (by have := HZ2.out; omega)
        have B3 := B2.trans (b3.mono B2.size)
        generalize (w2.alloc (.cells #[.string ⟨(fk.getD ([], 0, 0)).1.toArray⟩, .int .i64 (fk.getD ([], 0, 0)).2.1, .int .i64 (fk.getD ([], 0, 0)).2.2] 35)).drew = w3 at *
        obtain ⟨⟨q0, q1, q2⟩, _⟩ := id t3
        have e0 := hm3.c0
        have e1 := hm3.c1
        have own3 := hm3.own
        clear K bd b3
        cases hfs : fk.isSome with
        | false =>
          have hno : fk.isNone = true := by cases fk with | none => rfl | some _ => cases hfs
          by_cases h64 : 64 ≤ l.length
          · have HE8 := Lib.hid (HE.out.trans (by rw [if_pos ⟨hno, h64⟩]))
            have hsz : Maps.size (mapD l) = l.length := by unfold Maps.size mapD; simp
            clear hno
            have hlen := fun ty => own3.len Try.underlying55 ty
            rw [hsz] at hlen
            clear hsz
            go_wp2_with fail
            go_ret
            exact learn_bad HE8.out (by omega) hBw hm B3
          · have HE0 := Lib.hid (HE.out.trans (by rw [if_neg (by intro h; exact h64 h.2)]))
            have hsz : Maps.size (mapD l) = l.length := by unfold Maps.size mapD; simp
            have hlen := fun ty => own3.len Try.underlying55 ty
            rw [hsz] at hlen
            clear hsz hno
            go_wp2_with fail
            go_still_tail 7, (by kernel_rfl)
            change wpList _ _ _ _ _ w3.drew
            go_wp2_with (at_mapUpdate; refine wpList_mapUpdate_own _ rfl _ _ _ 55 rfl 9 35 keyS Try.underlying55 seatElem b k (mapD l) rfl own3.drew (by unfold maxLen; omega) _ _ _ rfl rfl hkey (entD (u.data.toList, s, e)) [] rfl ?_; intro w4 own4 grow4)
            go_ret
            exact learn_good HE0.out hB hBw B3 hm3 own4 grow4
        | true =>
          have HE0 := Lib.hid (HE.out.trans (by rw [if_neg (by intro h; cases fk with | none => cases hfs | some _ => cases h.1)]))
          go_wp2_with fail
          go_still_tail 7, (by kernel_rfl)
          change wpList _ _ _ _ _ w3.drew
          go_wp2_with (at_mapUpdate; refine wpList_mapUpdate_own _ rfl _ _ _ 55 rfl 9 35 keyS Try.underlying55 seatElem b k (mapD l) rfl own3.drew (by unfold maxLen; omega) _ _ _ rfl rfl hkey (entD (u.data.toList, s, e)) [] rfl ?_; intro w4 own4 grow4)
          go_ret
          exact learn_good HE0.out hB hBw B3 hm3 own4 grow4
end Go.Proofs.Ytbmdhhafmieapaa
