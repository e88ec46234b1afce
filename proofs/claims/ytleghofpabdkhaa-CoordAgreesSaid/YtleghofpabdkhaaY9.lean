/- Coord: Vote, Ack. -/
import Derived.Test.YtleghofpabdkhaaY8
namespace Go.Proofs.Ytleghofpabdkhaa
open Go Go.RowKit

/-- A shard said so. -/
def Trn.said (t : Trn) (i : Int) : Trn := { t with sd := t.sd.put i }
def Cd.say (c : Cd) (k : Nat) (t : Trn) (i : Int) : Cd := { c with under := c.under.set k (t.said i) }
theorem said_cells (ts : List Trn) (k i : Nat) (t : Trn) (hk : ts[k]? = some t) (hi : i < 4) : over (ts.flatMap cellsT) (k * 12 + (7 + i)) [.bool true] = (ts.set k (t.said (i : Int))).flatMap cellsT := by
  have hkl : k < ts.length := (List.getElem?_eq_some_iff.1 hk).1
  rw [← flat_set cellsT 12 ts k (fun _ _ => rfl) (t.said (i : Int)) rfl hkl]
  have hf : (ts.flatMap cellsT).length = ts.length * 12 := flatT_len ts
  apply List.ext_getElem?
  intro j
  have h1 : k * 12 + (7 + i) < (ts.flatMap cellsT).length := by rw [hf]; omega
  have ht : ∀ m u, (cellsT t)[m]? = some u → (ts.flatMap cellsT)[k * 12 + m]? = some u := fun m u hm => flat_at cellsT 12 ts k (fun _ _ => rfl) t hk m u hm
  have hL : ∀ (o : Nat) (vs : List Value), o + vs.length ≤ (ts.flatMap cellsT).length → (over (ts.flatMap cellsT) o vs)[j]? = if j < o then (ts.flatMap cellsT)[j]? else if j < o + vs.length then vs[j - o]? else (ts.flatMap cellsT)[j]? := fun o vs ho => by
    unfold over
    have hto : ((ts.flatMap cellsT).take o).length = o := by rw [List.length_take]; omega
    by_cases hj : j < o
    · rw [if_pos hj, List.append_assoc, List.getElem?_append_left (by omega), List.getElem?_take, if_pos hj]
    · rw [if_neg hj]
      by_cases hj2 : j < o + vs.length
      · rw [if_pos hj2, List.append_assoc, List.getElem?_append_right (by omega), hto, List.getElem?_append_left (by omega)]
      · rw [if_neg hj2, List.getElem?_append_right (by rw [List.length_append, hto]; omega), List.length_append, hto, List.getElem?_drop]
        congr 1
        omega
  rw [hL _ _ (by show k * 12 + (7 + i) + 1 ≤ _; omega), hL _ _ (by rw [cellsT_len, hf]; omega)]
  by_cases hj1 : j < k * 12
  · rw [if_pos (by omega), if_pos hj1]
  · rw [if_neg hj1]
    by_cases hj2 : j < k * 12 + 12
    · rw [cellsT_len, if_pos hj2]
      obtain ⟨m, hm, hm2⟩ : ∃ m, j = k * 12 + m ∧ m < 12 := ⟨j - k * 12, by omega, by omega⟩
      subst hm
      rw [show k * 12 + m - k * 12 = m by omega]
      have hold : (ts.flatMap cellsT)[k * 12 + m]? = (cellsT t)[m]? := by
        have hml : m < (cellsT t).length := hm2
        rw [List.getElem?_eq_getElem hml]
        exact ht m _ (List.getElem?_eq_getElem hml)
      rw [hold]
      simp only [List.length_singleton]
      rcases (by omega : i = 0 ∨ i = 1 ∨ i = 2 ∨ i = 3) with rfl | rfl | rfl | rfl
      all_goals
        rcases (by omega : m = 0 ∨ m = 1 ∨ m = 2 ∨ m = 3 ∨ m = 4 ∨ m = 5 ∨ m = 6 ∨ m = 7 ∨ m = 8 ∨ m = 9 ∨ m = 10 ∨ m = 11) with rfl | rfl | rfl | rfl | rfl | rfl | rfl | rfl | rfl | rfl | rfl | rfl
        all_goals first
          | (rw [if_pos (by omega)]; rfl)
          | (rw [if_neg (by omega), if_pos (by omega), Nat.sub_eq_zero_of_le (by omega)]; rfl)
          | (rw [if_neg (by omega), if_neg (by omega)]; rfl)
    · rw [cellsT_len, if_neg hj2, if_neg (by omega), if_neg (by simp; omega)]
/-- The node behind such a write. -/
theorem say_at (B p : Nat) (w : World) (c : Cd) (g cc k i : Nat) (t : Trn) (h : CdAt B w p c (.slice (some ⟨g, 0, none⟩) c.under.length cc)) (hk : c.under[k]? = some t) (hi : i < 4) :
    w.cell? ⟨g, k * 12 + 7 + i, none⟩ = some (.bool (t.sd.has (i : Int))) ∧ w.frozen? ⟨g, k * 12 + 7 + i, none⟩ = false ∧ OpC B w p (.slice (some ⟨g, 0, none⟩) c.under.length cc) (c.say k t i) (w.setCell ⟨g, k * 12 + 7 + i, none⟩ (.bool true)) ∧ CdAt B (w.setCell ⟨g, k * 12 + 7 + i, none⟩ (.bool true)) p (c.say k t i) (.slice (some ⟨g, 0, none⟩) c.under.length cc) := by
  have hkl : k < c.under.length := (List.getElem?_eq_some_iff.1 hk).1
  obtain ⟨g', cc', e, hg, hgp, hr⟩ := h.rng k t hk
  injection e with e1 _ e3
  injection e1 with e1
  injection e1 with e1
  subst e1 e3
  have hth := owns_there h.us (k * 12) 12 (by omega)
  have hc := hr (7 + i) (.bool (t.sd.has (i : Int))) (by rcases (by omega : i = 0 ∨ i = 1 ∨ i = 2 ∨ i = 3) with rfl | rfl | rfl | rfl <;> rfl)
  have hfz := (hth (7 + i) (by omega)).2
  rw [Nat.add_assoc]
  have hf : Fr (· = g) w (w.setCell ⟨g, k * 12 + (7 + i), none⟩ (.bool true)) := (Fr.refl (· = g) w).setCell ⟨g, k * 12 + (7 + i), none⟩ (Or.inl rfl) _
  have hCD : CdAt B (w.setCell ⟨g, k * 12 + (7 + i), none⟩ (.bool true)) p (c.say k t i) (.slice (some ⟨g, 0, none⟩) c.under.length cc) := by
    refine ⟨(hf.block p h.lt (fun e => hgp e.symm)).trans h.row, ?_, h.ne, h.base⟩
    have h1 := owns_set h.us (k * 12 + (7 + i)) [.bool true] (by simp; omega)
    rw [said_cells c.under k i t hk hi] at h1
    show World.ownsRow _ B _ 12 _ (c.under.set k (t.said i)).length _
    rw [List.length_set]
    exact h1
  exact ⟨hc, hfz, ⟨_, hCD, hf.mono (fun k' _ e => Or.inr (by rw [e]; rfl)), fun g' hg' => Or.inl hg'⟩, hCD⟩
theorem has_lt {s : St4} {i : Int} (h : s.has i = true) : ∃ n : Nat, i = (n : Int) ∧ n < 4 := by
  unfold St4.has at h
  by_cases h0 : i = 0
  · exact ⟨0, h0, by omega⟩
  by_cases h1 : i = 1
  · exact ⟨1, h1, by omega⟩
  by_cases h2 : i = 2
  · exact ⟨2, h2, by omega⟩
  by_cases h3 : i = 3
  · exact ⟨3, h3, by omega⟩
  rw [if_neg h0, if_neg h1, if_neg h2, if_neg h3] at h
  cases h

/-- What Vote and Ack tell. -/
def SayR (B : Nat) (w : World) (p : Nat) (sv : Value) (r : Option (List UInt8)) (er : Int) (c' : Cd) (e : Ending) (w' : World) : Prop :=
  (match r with
    | none => e = .returned (.tuple #[.slice none 0 0, .int .i64 er])
    | some l => ∃ a k, e = .returned (.tuple #[.slice a l.length k, .int .i64 er]) ∧ Row w.heap.size w' (.slice a l.length k) l ∧ CdAt B w' p c' sv) ∧ OpC B w p sv c' w'
def Cd.ack (c : Cd) (x : Txn) (i : Int) : Option (List UInt8) × Int × Cd := match c.under.find? (doneB x) with
  | none => (none, 9, c)
  | some t => if t.sh.has i = true then (let c' := c.say (idxF (doneB x) 0 c.under).toNat t i; if (t.said i).all = true then (some ([3] ++ num4 x.boot.toNat ++ num4 x.n.toNat), 0, c') else (none, 0, c')) else (none, 2, c)
def Cd.vote (c : Cd) (x : Txn) (i : Int) (yes : Bool) : Option (List UInt8) × Int × Cd := match c.under.find? (askedB x) with
  | none => (none, 9, c)
  | some t => if t.sh.has i = true then (if yes = true then (let c' := c.say (idxF (askedB x) 0 c.under).toNat t i; if (t.said i).all = true then (some (doneL x.boot.toNat x.n.toNat t.sh), 0, c') else (none, 0, c')) else (none, (c.drop x).1, (c.drop x).2)) else (none, 2, c)

theorem OpC.after {B p : Nat} {w w1 w2 : World} {c : Cd} {sv : Value} (h : OpC B w p sv c w1) (hb : Below w1.heap.size w1 w2) : OpC B w p sv c w2 := by
  obtain ⟨sv', h1, h2, h3⟩ := h
  exact ⟨sv', h1.below hb, h2.trans (Fr.of_below (fun _ => False) hb) (fun _ _ h => h) (fun _ _ h => h.elim), h3⟩

set_option maxHeartbeats 8000000 in
set_option maxRecDepth 100000 in
theorem ack_any (B p : Nat) (w : World) (c : Cd) (sv : Value) (x : Txn) (i : Int) (h : CdAt B w p c sv) (hB : B ≤ w.heap.size) (hn : c.under.length ≤ 1000) (hrg : ∀ t ∈ c.under, 0 ≤ t.tx.boot ∧ t.tx.boot ≤ 2147483648 ∧ 0 ≤ t.tx.n ∧ t.tx.n ≤ 2147483648) :
    Calls Try.prog 12 #[.pointer (some ⟨p, 0, none⟩), txV x, .int .i64 i] w (SayR B w p sv (c.ack x i).1 (c.ack x i).2.1 (c.ack x i).2.2) := by
  obtain ⟨wb, hwb⟩ : ∃ wb, w.alloc (.cells #[.int .i64 x.node, .int .i64 x.boot, .int .i64 x.n] 33) = wb := ⟨_, rfl⟩
  have hb : Below w.heap.size w wb := by rw [← hwb]; exact (Below.refl _ w).alloc (Nat.le_refl _) _
  have hx : TxAt wb w.heap.size x := by rw [← hwb]; exact txAt_new w x
  have HTX := Lib.hid hx
  obtain ⟨x0, x1, x2, _⟩ := id hx
  have ha := done_any x wb
  unfold txV at ha ⊢
  have HA := Lib.hid ha
  have HB := Lib.hid hb
  have HWB := Lib.hid hwb
  have HH := Lib.hid h
  have HRG := Lib.hid hrg
  clear hb hx hwb h ha hrg
  go_enter Try.func12, Try.ntmps12
  go_wp2_with (first | rw [HWB.out])
  refine HA.out.mono ?_
  rintro e w1 ⟨b, rfl, hbx, hb1⟩
  have hbw1 := HB.out.trans (hb1.mono HB.out.size)
  have hc1 := HH.out.below hbw1
  have HF := Lib.hid (find_done B p w1 c sv x b hc1 hbx hn)
  have HW1 := Lib.hid hbw1
  have HT1 := Lib.hid (HTX.out.below hb1)
  clear HA x0 x1 x2 HWB hbx hb1 hbw1 hc1 HTX
  go_wp2_with fail
  refine HF.out.mono ?_
  rintro e w2 ⟨rfl, hb2⟩
  have hbw2 := HW1.out.trans (hb2.mono HW1.out.size)
  have hc2 := HH.out.below hbw2
  have HT2 := Lib.hid (HT1.out.below hb2)
  have HW2 := Lib.hid hbw2
  have HC2 := Lib.hid hc2
  clear HF HW1 hb2 HT1
  rcases idx_spec (doneB x) c.under 0 with ⟨e1, e2⟩ | ⟨j, t, e1, e2, e3, e4⟩
  · have HE : Hid (SayR B w p sv (c.ack x i).1 (c.ack x i).2.1 (c.ack x i).2.2 (.returned (.tuple #[.slice none 0 0, .int .i64 9])) w2) := Lib.hid (by unfold Cd.ack; rw [find_none _ _ e2]; exact ⟨rfl, OpC.same HH.out hbw2⟩)
    rw [e1]
    clear hbw2 hc2 e1 e2 HH HC2
    go_wp2
    go_ret2
    exact HE.out
  rw [Nat.zero_add] at e1
  have hfd := find_idx _ _ 0 j t (by rw [e1, Nat.zero_add]) e2
  rw [e1]
  obtain ⟨g, cc, rfl, hg, _, hr⟩ := hc2.rng j t e2
  have c3 := hc2.cells.2.2.2.1
  have hj0 : ¬ (j : Int) < 0 := by omega
  have hj1 : (j : Int) < (c.under.length : Int) := by omega
  have HSH : Hid (w2.rangeAt g (j * 12 + 3) [.bool t.sh.a, .bool t.sh.b, .bool t.sh.c, .bool t.sh.d]) := Lib.hid (fun m u hm => by
    have := hr (3 + m) u (by
      match m, hm with
      | 0, hm => exact hm
      | 1, hm => exact hm
      | 2, hm => exact hm
      | 3, hm => exact hm)
    rw [Nat.add_assoc]
    exact this)
  have HI4 : Hid ((Try.prog.info? 74).map (·.size) = some ([.bool t.sh.a, .bool t.sh.b, .bool t.sh.c, .bool t.sh.d] : List Value).length) := Lib.hid (by show _ = some 4; kernel_rfl)
  have hha := has_any t.sh i w2
  unfold setV at hha
  have HHA := Lib.hid hha
  have HJ := Lib.hid e1
  have HFD := Lib.hid hfd
  have HE2 := Lib.hid e2
  clear hbw2 hc2 e1 e2 e3 hr hg hfd hha
  go_wp2_with (first
    | (refine wpList_load_mid rfl 74 _ rfl g (j * 12 + 3) rfl _ _ HSH.out Try.underlying74 rfl HI4.out ?_))
  refine HHA.out.mono ?_
  rintro e w3 ⟨rfl, hb3⟩
  have hbw3 := HW2.out.trans (hb3.mono HW2.out.size)
  have hc3 := HC2.out.below hb3
  have HT3 := Lib.hid (HT2.out.below hb3)
  have HW3 := Lib.hid hbw3
  have HC3 := Lib.hid hc3
  clear HHA HSH HI4 c3 HT2 HC2 hb3 HW2
  cases hhas : t.sh.has i with
  | false =>
    have HE : Hid (SayR B w p (.slice (some ⟨g, 0, none⟩) c.under.length cc) (c.ack x i).1 (c.ack x i).2.1 (c.ack x i).2.2 (.returned (.tuple #[.slice none 0 0, .int .i64 2])) w3) := Lib.hid (by unfold Cd.ack; rw [HFD.out]; simp only [hhas, Bool.false_eq_true, if_false]; exact ⟨rfl, OpC.same HH.out hbw3⟩)
    clear hbw3 hc3 HH hhas HFD HJ HC3
    go_wp2
    go_ret2
    exact HE.out
  | true =>
    have c3 := hc3.cells.2.2.2.1
    have htx : t.tx = x := (Txn.eq_iff _ _).1 (by unfold doneB at *; have := List.find?_some HFD.out; simp only [Bool.and_eq_true] at this; exact this.1)
    obtain ⟨z1, z2, z3, z4⟩ := HRG.out t (List.mem_of_getElem? HE2.out)
    rw [htx] at z1 z2 z3 z4
    have HTT := Lib.hid htx
    have HHS := Lib.hid hhas
    clear hbw3 hc3 hhas htx HRG
    obtain ⟨n, rfl, hn4⟩ := has_lt HHS.out
    obtain ⟨d1, d2, d3, d4⟩ := say_at B p w3 c g cc j n t HC3.out HE2.out hn4
    obtain ⟨w4, hw4⟩ : ∃ w4, w3.setCell ⟨g, j * 12 + 7 + n, none⟩ (.bool true) = w4 := ⟨_, rfl⟩
    rw [hw4] at d3 d4
    have hset : (c.say j t n).under[j]? = some (t.said n) := by show (c.under.set j _)[j]? = _; rw [List.getElem?_set_self (by omega)]
    obtain ⟨g', cc', eg, _, _, hr4⟩ := d4.rng j _ hset
    injection eg with eg1 _ eg3
    injection eg1 with eg1
    injection eg1 with eg1
    subst eg1 eg3
    have c4 := d4.cells.2.2.2.1
    have HR4 := Lib.hid hr4
    have HI := Lib.hid (infoT12 (cellsT (t.said n)) rfl)
    have HAL := Lib.hid (all_any (t.said n) w4)
    unfold trnV at HAL
    have HOP := Lib.hid (And.intro (OpC.lift HW3.out d3) d4)
    have HW4 := Lib.hid hw4
    have HC4 := Lib.hid d4
    have hgw : g ≠ w.heap.size := by have := (World.ownsRow.lt HH.out.us g rfl).2; omega
    have HT4 : Hid (TxAt w4 w.heap.size x) := Lib.hid (by
      have hfr : Fr (· = g) w3 w4 := by rw [← hw4]; exact (Fr.refl (· = g) w3).setCell ⟨g, j * 12 + 7 + n, none⟩ (Or.inl rfl) _
      obtain ⟨y0, y1, y2, y3⟩ := HT3.out
      have hk := hfr.block w.heap.size y3 (fun e => hgw e.symm)
      exact ⟨(World.cell?_of_block (a := ⟨w.heap.size, 0, none⟩) hk).trans y0, (World.cell?_of_block (a := ⟨w.heap.size, 1, none⟩) hk).trans y1, (World.cell?_of_block (a := ⟨w.heap.size, 2, none⟩) hk).trans y2, Nat.lt_of_lt_of_le y3 hfr.size⟩)
    have HB4 : Hid (B ≤ w4.heap.size ∧ w.heap.size ≤ w4.heap.size) := Lib.hid (by
      have hfr : Fr (· = g) w3 w4 := by rw [← hw4]; exact (Fr.refl (· = g) w3).setCell ⟨g, j * 12 + 7 + n, none⟩ (Or.inl rfl) _
      have := hfr.size; have := HW3.out.size; omega)
    have HSF : Hid (∀ wz, Below w4.heap.size w4 wz → (t.said n).all = false → SayR B w p (.slice (some ⟨g, 0, none⟩) c.under.length cc) (c.ack x n).1 (c.ack x n).2.1 (c.ack x n).2.2 (.returned (.tuple #[.slice none 0 0, .int .i64 0])) wz) := Lib.hid (fun wz hb hal => by
      unfold Cd.ack; rw [HFD.out, HJ.out]; simp only [HHS.out, if_true, Int.toNat_natCast, hal, Bool.false_eq_true, if_false]; exact ⟨rfl, HOP.out.1.after hb⟩)
    have HST : Hid (∀ wz ra rk L6, Below w4.heap.size w4 wz → (t.said n).all = true → ([3] ++ num4 x.boot.toNat ++ num4 x.n.toNat).length = L6 → Row w.heap.size wz (.slice ra L6 rk) ([3] ++ num4 x.boot.toNat ++ num4 x.n.toNat) → SayR B w p (.slice (some ⟨g, 0, none⟩) c.under.length cc) (c.ack x n).1 (c.ack x n).2.1 (c.ack x n).2.2 (.returned (.tuple #[.slice ra L6 rk, .int .i64 0])) wz) := Lib.hid (fun wz ra rk L6 hb hal hL hr => by
      subst hL
      unfold Cd.ack; rw [HFD.out, HJ.out]; simp only [HHS.out, if_true, Int.toNat_natCast, hal]; exact ⟨⟨ra, rk, rfl, hr, HOP.out.2.below hb⟩, HOP.out.1.after hb⟩)
    clear d3 d4 hw4 hset hr4 HC3 HW3 HT3 HFD HJ HHS HOP
    have hn4' : (n : Int) < 4 := by omega
    have HN : Hid (n < 4) := Lib.hid hn4
    rcases (by omega : n = 0 ∨ n = 1 ∨ n = 2 ∨ n = 3) with rfl | rfl | rfl | rfl
    all_goals
      go_wp2_with (first
        | rw [HW4.out]
        | (refine wpList_load_mid rfl 78 _ rfl g (j * 12) rfl _ _ HR4.out Try.underlying78 rfl HI.out ?_))
      refine HAL.out.mono ?_
      rintro e w5 ⟨rfl, hb5⟩
      have hc5 := HC4.out.below hb5
      have HB5 := Lib.hid hb5
      clear HAL HI
      cases hal : (Trn.said t _).all with
      | false =>
        have HE := Lib.hid (HSF.out w5 hb5 hal)
        clear hc5 hb5 HB5 hal
        go_wp2
        go_ret2
        exact HE.out
      | true =>
        obtain ⟨y0, y1, y2, y3⟩ := HT4.out.below hb5
        have hov := overRecord_any x x.boot.toNat x.n.toNat (by omega) (by omega) (by omega) (by omega) w5
        unfold txV at hov
        have HOV := Lib.hid hov
        have HHAL := Lib.hid hal
        clear hc5 hb5 hal hov
        go_wp2_with fail
        refine HOV.out.mono ?_
        rintro e w6 ⟨ra, rk, rfl, hr6, hb6⟩
        obtain ⟨L6, hL6⟩ : ∃ L6, ([3] ++ num4 x.boot.toNat ++ num4 x.n.toNat).length = L6 := ⟨_, rfl⟩
        rw [hL6] at hr6 ⊢
        have HE := Lib.hid (HST.out w6 ra rk L6 (HB5.out.trans (hb6.mono HB5.out.size)) HHAL.out hL6 (row_up hr6 (fun g hg => by have := row_own hr6 g hg; have := HB5.out.size; have := HB4.out; omega)))
        clear hr6 hb6 HB5 hL6
        go_wp2
        go_ret2
        exact HE.out

set_option maxHeartbeats 8000000 in
set_option maxRecDepth 100000 in
theorem vote_any (B p : Nat) (w : World) (c : Cd) (sv : Value) (x : Txn) (i : Int) (yes : Bool) (h : CdAt B w p c sv) (hB : B ≤ w.heap.size) (hn : c.under.length ≤ 1000) (hrg : ∀ t ∈ c.under, 0 ≤ t.tx.boot ∧ t.tx.boot ≤ 2147483648 ∧ 0 ≤ t.tx.n ∧ t.tx.n ≤ 2147483648) :
    Calls Try.prog 10 #[.pointer (some ⟨p, 0, none⟩), txV x, .int .i64 i, .bool yes] w (SayR B w p sv (c.vote x i yes).1 (c.vote x i yes).2.1 (c.vote x i yes).2.2) := by
  obtain ⟨wb, hwb⟩ : ∃ wb, w.alloc (.cells #[.int .i64 x.node, .int .i64 x.boot, .int .i64 x.n] 33) = wb := ⟨_, rfl⟩
  have hb : Below w.heap.size w wb := by rw [← hwb]; exact (Below.refl _ w).alloc (Nat.le_refl _) _
  have hx : TxAt wb w.heap.size x := by rw [← hwb]; exact txAt_new w x
  have HTX := Lib.hid hx
  obtain ⟨x0, x1, x2, _⟩ := id hx
  have ha := asked_any x wb
  unfold txV at ha ⊢
  have HA := Lib.hid ha
  have HB := Lib.hid hb
  have HWB := Lib.hid hwb
  have HH := Lib.hid h
  have HRG := Lib.hid hrg
  clear hb hx hwb h ha hrg
  go_enter Try.func10, Try.ntmps10
  go_wp2_with (first | rw [HWB.out])
  refine HA.out.mono ?_
  rintro e w1 ⟨b, rfl, hbx, hb1⟩
  have hbw1 := HB.out.trans (hb1.mono HB.out.size)
  have hc1 := HH.out.below hbw1
  have HF := Lib.hid (find_asked B p w1 c sv x b hc1 hbx hn)
  have HW1 := Lib.hid hbw1
  have HT1 := Lib.hid (HTX.out.below hb1)
  clear HA x0 x1 x2 HWB hbx hb1 hbw1 hc1 HTX
  go_wp2_with fail
  refine HF.out.mono ?_
  rintro e w2 ⟨rfl, hb2⟩
  have hbw2 := HW1.out.trans (hb2.mono HW1.out.size)
  have hc2 := HH.out.below hbw2
  have HT2 := Lib.hid (HT1.out.below hb2)
  have HW2 := Lib.hid hbw2
  have HC2 := Lib.hid hc2
  clear HF HW1 hb2 HT1
  rcases idx_spec (askedB x) c.under 0 with ⟨e1, e2⟩ | ⟨j, t, e1, e2, e3, e4⟩
  · have HE : Hid (SayR B w p sv (c.vote x i yes).1 (c.vote x i yes).2.1 (c.vote x i yes).2.2 (.returned (.tuple #[.slice none 0 0, .int .i64 9])) w2) := Lib.hid (by unfold Cd.vote; rw [find_none _ _ e2]; exact ⟨rfl, OpC.same HH.out hbw2⟩)
    rw [e1]
    clear hbw2 hc2 e1 e2 HH HC2
    go_wp2
    go_ret2
    exact HE.out
  rw [Nat.zero_add] at e1
  have hfd := find_idx _ _ 0 j t (by rw [e1, Nat.zero_add]) e2
  rw [e1]
  obtain ⟨g, cc, rfl, hg, _, hr⟩ := hc2.rng j t e2
  have c3 := hc2.cells.2.2.2.1
  have hj0 : ¬ (j : Int) < 0 := by omega
  have hj1 : (j : Int) < (c.under.length : Int) := by omega
  have HSH : Hid (w2.rangeAt g (j * 12 + 3) [.bool t.sh.a, .bool t.sh.b, .bool t.sh.c, .bool t.sh.d]) := Lib.hid (fun m u hm => by
    have := hr (3 + m) u (by
      match m, hm with
      | 0, hm => exact hm
      | 1, hm => exact hm
      | 2, hm => exact hm
      | 3, hm => exact hm)
    rw [Nat.add_assoc]
    exact this)
  have HI4 : Hid ((Try.prog.info? 74).map (·.size) = some ([.bool t.sh.a, .bool t.sh.b, .bool t.sh.c, .bool t.sh.d] : List Value).length) := Lib.hid (by show _ = some 4; kernel_rfl)
  have hha := has_any t.sh i w2
  unfold setV at hha
  have HHA := Lib.hid hha
  have HJ := Lib.hid e1
  have HFD := Lib.hid hfd
  have HE2 := Lib.hid e2
  clear hbw2 hc2 e1 e2 e3 hr hg hfd hha
  go_wp2_with (first
    | (refine wpList_load_mid rfl 74 _ rfl g (j * 12 + 3) rfl _ _ HSH.out Try.underlying74 rfl HI4.out ?_))
  refine HHA.out.mono ?_
  rintro e w3 ⟨rfl, hb3⟩
  have hbw3 := HW2.out.trans (hb3.mono HW2.out.size)
  have hc3 := HC2.out.below hb3
  have HT3 := Lib.hid (HT2.out.below hb3)
  have HW3 := Lib.hid hbw3
  have HC3 := Lib.hid hc3
  clear HHA HSH HI4 c3 HT2 HC2 hb3 HW2
  cases hhas : t.sh.has i with
  | false =>
    have HE : Hid (SayR B w p (.slice (some ⟨g, 0, none⟩) c.under.length cc) (c.vote x i yes).1 (c.vote x i yes).2.1 (c.vote x i yes).2.2 (.returned (.tuple #[.slice none 0 0, .int .i64 2])) w3) := Lib.hid (by unfold Cd.vote; rw [HFD.out]; simp only [hhas, Bool.false_eq_true, if_false]; exact ⟨rfl, OpC.same HH.out hbw3⟩)
    clear hbw3 hc3 HH hhas HFD HJ HC3
    go_wp2
    go_ret2
    exact HE.out
  | true =>
    have c3 := hc3.cells.2.2.2.1
    have htx : t.tx = x := (Txn.eq_iff _ _).1 (by unfold askedB at *; have := List.find?_some HFD.out; simp only [Bool.and_eq_true] at this; exact this.1)
    obtain ⟨z1, z2, z3, z4⟩ := HRG.out t (List.mem_of_getElem? HE2.out)
    rw [htx] at z1 z2 z3 z4
    have HTT := Lib.hid htx
    have HHS := Lib.hid hhas
    clear hbw3 hc3 hhas htx HRG
    cases yes with
    | false =>
      have hdr := drop_any B p w3 c _ x HC3.out hn
      unfold txV at hdr
      have HDR := Lib.hid hdr
      obtain ⟨y0, y1, y2, y3⟩ := HT3.out
      clear hdr
      go_wp2_with fail
      refine HDR.out.mono ?_
      rintro e w4 ⟨rfl, hop⟩
      have HE : Hid (SayR B w p (.slice (some ⟨g, 0, none⟩) c.under.length cc) (c.vote x i false).1 (c.vote x i false).2.1 (c.vote x i false).2.2 (.returned (.tuple #[.slice none 0 0, .int .i64 (c.drop x).1])) w4) := Lib.hid (by unfold Cd.vote; rw [HFD.out]; simp only [HHS.out, if_true, Bool.false_eq_true, if_false]; exact ⟨rfl, OpC.lift HW3.out hop⟩)
      clear hop HDR y0 y1 y2 y3
      go_wp2
      go_ret2
      exact HE.out
    | true =>
      obtain ⟨n, rfl, hn4⟩ := has_lt HHS.out
      obtain ⟨d1, d2, d3, d4⟩ := say_at B p w3 c g cc j n t HC3.out HE2.out hn4
      obtain ⟨w4, hw4⟩ : ∃ w4, w3.setCell ⟨g, j * 12 + 7 + n, none⟩ (.bool true) = w4 := ⟨_, rfl⟩
      rw [hw4] at d3 d4
      have hset : (c.say j t n).under[j]? = some (t.said n) := by show (c.under.set j _)[j]? = _; rw [List.getElem?_set_self (by omega)]
      obtain ⟨g', cc', eg, _, _, hr4⟩ := d4.rng j _ hset
      injection eg with eg1 _ eg3
      injection eg1 with eg1
      injection eg1 with eg1
      subst eg1 eg3
      have c4 := d4.cells.2.2.2.1
      have HR4 := Lib.hid hr4
      have HRG6 : Hid (∀ wz, Below w4.heap.size w4 wz → wz.rangeAt g (j * 12) (cellsT (t.said n)) ∧ wz.cell? ⟨p, 3, none⟩ = some (.slice (some ⟨g, 0, none⟩) c.under.length cc)) := Lib.hid (fun wz hb => ⟨fun m u hm => (hb.cell (p := ⟨g, j * 12 + m, none⟩) (World.ownsRow.lt d4.us g rfl).2).trans (hr4 m u hm), (d4.below hb).cells.2.2.2.1⟩)
      have HIG := Lib.hid (infoT12 (cellsT (t.said n)) rfl)
      have HDRG : Hid (∀ wz, Calls Try.prog 34 #[trnV (t.said n)] wz (RecR wz (doneL x.boot.toNat x.n.toNat t.sh))) := Lib.hid (fun wz => doneRecord_any (t.said n) x.boot.toNat x.n.toNat (by show t.tx.boot = _; rw [HTT.out]; omega) (by show t.tx.n = _; rw [HTT.out]; omega) (by omega) (by omega) wz)
      have HI := Lib.hid (infoT12 (cellsT (t.said n)) rfl)
      have HAL := Lib.hid (all_any (t.said n) w4)
      unfold trnV at HAL
      have HOP := Lib.hid (And.intro (OpC.lift HW3.out d3) d4)
      have HW4 := Lib.hid hw4
      have HC4 := Lib.hid d4
      have hgw : g ≠ w.heap.size := by have := (World.ownsRow.lt HH.out.us g rfl).2; omega
      have HT4 : Hid (TxAt w4 w.heap.size x) := Lib.hid (by
        have hfr : Fr (· = g) w3 w4 := by rw [← hw4]; exact (Fr.refl (· = g) w3).setCell ⟨g, j * 12 + 7 + n, none⟩ (Or.inl rfl) _
        obtain ⟨y0, y1, y2, y3⟩ := HT3.out
        have hk := hfr.block w.heap.size y3 (fun e => hgw e.symm)
        exact ⟨(World.cell?_of_block (a := ⟨w.heap.size, 0, none⟩) hk).trans y0, (World.cell?_of_block (a := ⟨w.heap.size, 1, none⟩) hk).trans y1, (World.cell?_of_block (a := ⟨w.heap.size, 2, none⟩) hk).trans y2, Nat.lt_of_lt_of_le y3 hfr.size⟩)
      have HB4 : Hid (B ≤ w4.heap.size ∧ w.heap.size ≤ w4.heap.size) := Lib.hid (by
        have hfr : Fr (· = g) w3 w4 := by rw [← hw4]; exact (Fr.refl (· = g) w3).setCell ⟨g, j * 12 + 7 + n, none⟩ (Or.inl rfl) _
        have := hfr.size; have := HW3.out.size; omega)
      have HSF : Hid (∀ wz, Below w4.heap.size w4 wz → (t.said n).all = false → SayR B w p (.slice (some ⟨g, 0, none⟩) c.under.length cc) (c.vote x n true).1 (c.vote x n true).2.1 (c.vote x n true).2.2 (.returned (.tuple #[.slice none 0 0, .int .i64 0])) wz) := Lib.hid (fun wz hb hal => by
        unfold Cd.vote; rw [HFD.out, HJ.out]; simp only [HHS.out, if_true, Int.toNat_natCast, hal, Bool.false_eq_true, if_false]; exact ⟨rfl, HOP.out.1.after hb⟩)
      have HST : Hid (∀ wz ra rk L6, Below w4.heap.size w4 wz → (t.said n).all = true → (doneL x.boot.toNat x.n.toNat t.sh).length = L6 → Row w.heap.size wz (.slice ra L6 rk) (doneL x.boot.toNat x.n.toNat t.sh) → SayR B w p (.slice (some ⟨g, 0, none⟩) c.under.length cc) (c.vote x n true).1 (c.vote x n true).2.1 (c.vote x n true).2.2 (.returned (.tuple #[.slice ra L6 rk, .int .i64 0])) wz) := Lib.hid (fun wz ra rk L6 hb hal hL hr => by
        subst hL
        unfold Cd.vote; rw [HFD.out, HJ.out]; simp only [HHS.out, if_true, Int.toNat_natCast, hal]; exact ⟨⟨ra, rk, rfl, hr, HOP.out.2.below hb⟩, HOP.out.1.after hb⟩)
      clear d3 d4 hw4 hset hr4 HC3 HW3 HT3 HFD HJ HHS HOP
      have hn4' : (n : Int) < 4 := by omega
      have HN : Hid (n < 4) := Lib.hid hn4
      rcases (by omega : n = 0 ∨ n = 1 ∨ n = 2 ∨ n = 3) with rfl | rfl | rfl | rfl
      all_goals
        go_wp2_with (first
          | rw [HW4.out]
          | (refine wpList_load_mid rfl 78 _ rfl g (j * 12) rfl _ _ HR4.out Try.underlying78 rfl HI.out ?_))
        refine HAL.out.mono ?_
        rintro e w5 ⟨rfl, hb5⟩
        have hc5 := HC4.out.below hb5
        have HB5 := Lib.hid hb5
        clear HAL HI
        cases hal : (Trn.said t _).all with
        | false =>
          have HE := Lib.hid (HSF.out w5 hb5 hal)
          clear hc5 hb5 HB5 hal
          go_wp2
          go_ret2
          exact HE.out
        | true =>
          have hr6 := HRG6.out w5 hb5
          have HR6 := Lib.hid hr6.1
          have c36 := hr6.2
          have hdr := HDRG.out w5
          unfold trnV at hdr
          have HDR := Lib.hid hdr
          have HHAL := Lib.hid hal
          clear hc5 hb5 hal hdr hr6
          go_wp2_with (first
            | (refine wpList_load_mid rfl 78 _ rfl g (j * 12) rfl _ _ HR6.out Try.underlying78 rfl HIG.out ?_))
          refine HDR.out.mono ?_
          rintro e w6 ⟨ra, rk, rfl, hr6, hb6⟩
          obtain ⟨L6, hL6⟩ : ∃ L6, (doneL x.boot.toNat x.n.toNat t.sh).length = L6 := ⟨_, rfl⟩
          rw [hL6] at hr6 ⊢
          have HE := Lib.hid (HST.out w6 ra rk L6 (HB5.out.trans (hb6.mono HB5.out.size)) HHAL.out hL6 (row_up hr6 (fun g hg => by have := row_own hr6 g hg; have := HB5.out.size; have := HB4.out; omega)))
          clear hr6 hb6 HB5 hL6
          go_wp2
          go_ret2
          exact HE.out

end Go.Proofs.Ytleghofpabdkhaa
