/- Coord: the closures; slices.IndexFunc; find; has, all, counts. -/
import Derived.Test.YtleghofpabdkhaaY1
namespace Go.Proofs.Ytleghofpabdkhaa
open Go Go.RowKit

theorem idx_drop {α : Type} {l : List α} {k : Nat} {x : α} (h : l[k]? = some x) : l.drop k = x :: l.drop (k + 1) := by
  obtain ⟨hk, rfl⟩ := List.getElem?_eq_some_iff.1 h
  exact List.drop_eq_getElem_cons hk
/-- The place of the first one of which f is true. -/
def idxF {α : Type} (f : α → Bool) : Nat → List α → Int
  | _, [] => -1
  | k, x :: t => if f x = true then (k : Int) else idxF f (k + 1) t
def askedB (x : Txn) (t : Trn) : Bool := t.tx.eq x && !t.dn
def doneB (x : Txn) (t : Trn) : Bool := t.tx.eq x && t.dn
def liveB (t : Trn) : Bool := !t.dn
/-- A name in a block. -/
def TxAt (w : World) (b : Nat) (x : Txn) : Prop := w.cell? ⟨b, 0, none⟩ = some (.int .i64 x.node) ∧ w.cell? ⟨b, 1, none⟩ = some (.int .i64 x.boot) ∧ w.cell? ⟨b, 2, none⟩ = some (.int .i64 x.n) ∧ b < w.heap.size
theorem TxAt.below {w w' : World} {b : Nat} {x : Txn} (h : TxAt w b x) (hb : Below w.heap.size w w') : TxAt w' b x :=
  ⟨(hb.cell (p := ⟨b, 0, none⟩) h.2.2.2).trans h.1, (hb.cell (p := ⟨b, 1, none⟩) h.2.2.2).trans h.2.1, (hb.cell (p := ⟨b, 2, none⟩) h.2.2.2).trans h.2.2.1, Nat.lt_of_lt_of_le h.2.2.2 hb.size⟩
theorem txAt_new (w : World) (x : Txn) : TxAt (w.alloc (.cells #[.int .i64 x.node, .int .i64 x.boot, .int .i64 x.n] 33)) w.heap.size x :=
  ⟨cell_of_row _ _ _ _ _ _ (heap_alloc_new w _), cell_of_row _ _ _ _ _ _ (heap_alloc_new w _), cell_of_row _ _ _ _ _ _ (heap_alloc_new w _), by simp⟩

set_option maxHeartbeats 2000000 in
set_option maxRecDepth 100000 in
theorem asked1_any (x : Txn) (t : Trn) (b : Nat) (w : World) (hx : TxAt w b x) :
    Calls Try.prog 58 #[trnV t, .pointer (some ⟨b, 0, none⟩)] w fun e w' => e = .returned (.bool (askedB x t)) ∧ Below w.heap.size w w' := by
  obtain ⟨wb, hwb⟩ : ∃ wb, w.alloc (.cells #[.int .i64 t.tx.node, .int .i64 t.tx.boot, .int .i64 t.tx.n, .bool t.sh.a, .bool t.sh.b, .bool t.sh.c, .bool t.sh.d, .bool t.sd.a, .bool t.sd.b, .bool t.sd.c, .bool t.sd.d, .bool t.dn] 78) = wb := ⟨_, rfl⟩
  have hb : Below w.heap.size w wb := by rw [← hwb]; exact (Below.refl _ w).alloc (Nat.le_refl _) _
  have hr : wb.heap[w.heap.size]? = some (.cells #[.int .i64 t.tx.node, .int .i64 t.tx.boot, .int .i64 t.tx.n, .bool t.sh.a, .bool t.sh.b, .bool t.sh.c, .bool t.sh.d, .bool t.sd.a, .bool t.sd.b, .bool t.sd.c, .bool t.sd.d, .bool t.dn] 78 (0, 0)) := by rw [← hwb]; exact heap_alloc_new w _
  obtain ⟨x0, x1, x2, hbl⟩ := hx.below hb
  have c0 : wb.cell? ⟨w.heap.size, 0, none⟩ = some (.int .i64 t.tx.node) := cell_of_row _ _ _ _ _ _ hr
  have c1 : wb.cell? ⟨w.heap.size, 1, none⟩ = some (.int .i64 t.tx.boot) := cell_of_row _ _ _ _ _ _ hr
  have c2 : wb.cell? ⟨w.heap.size, 2, none⟩ = some (.int .i64 t.tx.n) := cell_of_row _ _ _ _ _ _ hr
  have c11 : wb.cell? ⟨w.heap.size, 11, none⟩ = some (.bool t.dn) := cell_of_row _ _ _ _ _ _ hr
  have q := eq_tx t.tx x
  have HB := Lib.hid hb
  have HWB := Lib.hid hwb
  obtain ⟨t1, ht1⟩ : ∃ z, t.tx.eq x = z := ⟨_, rfl⟩
  rw [ht1] at q
  have HF : Hid (askedB x t = (t1 && !t.dn)) := Lib.hid (by unfold askedB; rw [ht1])
  unfold trnV cellsT
  clear hb hr hbl hwb hx ht1
  cases t1 with
  | true =>
    go_enter Try.func58, Try.ntmps58
    go_wp2_with (first | rw [HWB.out])
    go_ret
    exact ⟨ret_bool (by rw [HF.out]; simp), HB.out⟩
  | false =>
    go_enter Try.func58, Try.ntmps58
    go_wp2_with (first | rw [HWB.out])
    go_ret
    exact ⟨ret_bool (by rw [HF.out]; simp), HB.out⟩

set_option maxHeartbeats 2000000 in
set_option maxRecDepth 100000 in
theorem done1_any (x : Txn) (t : Trn) (b : Nat) (w : World) (hx : TxAt w b x) :
    Calls Try.prog 61 #[trnV t, .pointer (some ⟨b, 0, none⟩)] w fun e w' => e = .returned (.bool (doneB x t)) ∧ Below w.heap.size w w' := by
  obtain ⟨wb, hwb⟩ : ∃ wb, w.alloc (.cells #[.int .i64 t.tx.node, .int .i64 t.tx.boot, .int .i64 t.tx.n, .bool t.sh.a, .bool t.sh.b, .bool t.sh.c, .bool t.sh.d, .bool t.sd.a, .bool t.sd.b, .bool t.sd.c, .bool t.sd.d, .bool t.dn] 78) = wb := ⟨_, rfl⟩
  have hb : Below w.heap.size w wb := by rw [← hwb]; exact (Below.refl _ w).alloc (Nat.le_refl _) _
  have hr : wb.heap[w.heap.size]? = some (.cells #[.int .i64 t.tx.node, .int .i64 t.tx.boot, .int .i64 t.tx.n, .bool t.sh.a, .bool t.sh.b, .bool t.sh.c, .bool t.sh.d, .bool t.sd.a, .bool t.sd.b, .bool t.sd.c, .bool t.sd.d, .bool t.dn] 78 (0, 0)) := by rw [← hwb]; exact heap_alloc_new w _
  obtain ⟨x0, x1, x2, hbl⟩ := hx.below hb
  have c0 : wb.cell? ⟨w.heap.size, 0, none⟩ = some (.int .i64 t.tx.node) := cell_of_row _ _ _ _ _ _ hr
  have c1 : wb.cell? ⟨w.heap.size, 1, none⟩ = some (.int .i64 t.tx.boot) := cell_of_row _ _ _ _ _ _ hr
  have c2 : wb.cell? ⟨w.heap.size, 2, none⟩ = some (.int .i64 t.tx.n) := cell_of_row _ _ _ _ _ _ hr
  have c11 : wb.cell? ⟨w.heap.size, 11, none⟩ = some (.bool t.dn) := cell_of_row _ _ _ _ _ _ hr
  have q := eq_tx t.tx x
  have HB := Lib.hid hb
  have HWB := Lib.hid hwb
  obtain ⟨t1, ht1⟩ : ∃ z, t.tx.eq x = z := ⟨_, rfl⟩
  rw [ht1] at q
  have HF : Hid (doneB x t = (t1 && t.dn)) := Lib.hid (by unfold doneB; rw [ht1])
  unfold trnV cellsT
  clear hb hr hbl hwb hx ht1
  cases t1 with
  | true =>
    go_enter Try.func61, Try.ntmps61
    go_wp2_with (first | rw [HWB.out])
    go_ret
    exact ⟨ret_bool (by rw [HF.out]; simp), HB.out⟩
  | false =>
    go_enter Try.func61, Try.ntmps61
    go_wp2_with (first | rw [HWB.out])
    go_ret
    exact ⟨ret_bool (by rw [HF.out]; simp), HB.out⟩

set_option maxHeartbeats 2000000 in
set_option maxRecDepth 100000 in
theorem live1_any (t : Trn) (w : World) : Calls Try.prog 63 #[trnV t] w fun e w' => e = .returned (.bool (liveB t)) ∧ Below w.heap.size w w' := by
  have hb : Below w.heap.size w (w.alloc (.cells #[.int .i64 t.tx.node, .int .i64 t.tx.boot, .int .i64 t.tx.n, .bool t.sh.a, .bool t.sh.b, .bool t.sh.c, .bool t.sh.d, .bool t.sd.a, .bool t.sd.b, .bool t.sd.c, .bool t.sd.d, .bool t.dn] 78)) := (Below.refl _ w).alloc (Nat.le_refl _) _
  have HB := Lib.hid hb
  unfold trnV cellsT liveB
  clear hb
  go_enter Try.func63, Try.ntmps63
  go_wp2
  go_ret
  exact ⟨rfl, HB.out⟩

set_option maxHeartbeats 4000000 in
set_option maxRecDepth 100000 in
theorem idxasked_any (B : Nat) (w : World) (sv : Value) (ts : List Trn) (x : Txn) (b : Nat) (hx : TxAt w b x) (h : TsAt B w sv ts) (hn : ts.length ≤ 1000) :
    Calls Try.prog 57 #[sv, .func (.func 58) #[] #[.pointer (some ⟨b, 0, none⟩)]] w fun e w' => e = .returned (.int .i64 (idxF (askedB x) 0 ts)) ∧ Below w.heap.size w w' := by
  obtain ⟨a, c, rfl, _⟩ := owns_shape h
  have HU : Hid (∀ (t : Trn) (W : World), Below w.heap.size w W → Calls Try.prog 58 #[trnV t, .pointer (some ⟨b, 0, none⟩)] W fun e w' => e = .returned (.bool ((askedB x) t)) ∧ Below W.heap.size W w') := Lib.hid (fun t W hW => asked1_any x t b W (hx.below hW))
  have HAT : Hid (∀ k t, ts[k]? = some t → ∃ g, a = some ⟨g, 0, none⟩ ∧ g < w.heap.size ∧ w.rangeAt g (k * 12) (cellsT t)) := Lib.hid (fun k t ht => by
    obtain ⟨g, c', e, hl, _, hr⟩ := TsAt.at h k t ht
    injection e with e1 _ _
    exact ⟨g, e1, hl, hr⟩)
  obtain ⟨F, hF⟩ : ∃ F, idxF (askedB x) 0 ts = F := ⟨_, rfl⟩
  rw [hF]
  have HF := Lib.hid hF
  clear hF h hx
  go_enter Try.func57, Try.ntmps57
  go_wp2
  go_loopw [8] (fun i wr => ∃ k : Nat, k ≤ ts.length ∧ i = .int .i64 k ∧ Hid (idxF (askedB x) k (ts.drop k) = F ∧ Below w.heap.size w wr)) (fun i _ => ts.length - (intOf i).toNat)
  case atStart => exact ⟨0, Nat.zero_le _, rfl, HF.out, Below.refl _ _⟩
  case round =>
    clear HF
    obtain ⟨k, hk, rfl, hH⟩ := hrel
    by_cases hlt : k < ts.length
    · obtain ⟨hgo, hbw⟩ := hH.out
      obtain ⟨t, ht⟩ : ∃ t, ts[k]? = some t := ⟨_, List.getElem?_eq_getElem hlt⟩
      rw [idx_drop ht, idxF] at hgo
      obtain ⟨g, rfl, hgl, hr⟩ := HAT.out k t ht
      have HR : Hid (wr.rangeAt g (k * 12) (cellsT t)) := Lib.hid (fun j u hj => (hbw.cell (p := ⟨g, k * 12 + j, none⟩) hgl).trans (hr j u hj))
      have hcl := HU.out t wr hbw
      have HBW := Lib.hid hbw
      have HI := Lib.hid (infoT12 (cellsT t) rfl)
      obtain ⟨R, hR⟩ : ∃ R, (askedB x) t = R := ⟨_, rfl⟩
      rw [hR] at hgo hcl
      have HC := Lib.hid hcl
      clear hR hcl hr ht hgl hbw hH HU HAT
      unfold trnV at HC
      cases R with
      | true =>
        rw [if_pos rfl] at hgo
        have HGo := Lib.hid hgo
        clear hgo
        go_wp2_with (first
          | (refine wpList_load_mid rfl 78 _ rfl g (k * 12) rfl _ _ HR.out Try.underlying78 rfl HI.out ?_))
        refine HC.out.mono ?_
        rintro e w1 ⟨rfl, hb1⟩
        have HB1 := Lib.hid (HBW.out.trans (hb1.mono HBW.out.size))
        clear hb1 HC HR HI
        go_wp2
        go_ret
        exact ⟨ret_int HGo.out, HB1.out⟩
      | false =>
        rw [if_neg (by simp)] at hgo
        have HGo := Lib.hid hgo
        clear hgo
        go_wp2_with (first
          | (refine wpList_load_mid rfl 78 _ rfl g (k * 12) rfl _ _ HR.out Try.underlying78 rfl HI.out ?_))
        refine HC.out.mono ?_
        rintro e w1 ⟨rfl, hb1⟩
        have HB1 := Lib.hid (HBW.out.trans (hb1.mono HBW.out.size))
        clear hb1 HC HR HI
        go_wp2
        go_roundw
        case rel => exact ⟨k + 1, by omega, by go_num, HGo.out, HB1.out⟩
        case measure => simp [intOf]; omega
    · have hkl : k = ts.length := by omega
      obtain ⟨hgo, hbw⟩ := hH.out
      rw [hkl, List.drop_length, idxF] at hgo
      have hlt' : ¬ (k : Int) < (ts.length : Int) := by omega
      have HGo := Lib.hid hgo
      have HBW := Lib.hid hbw
      clear hgo hH hkl hbw HU HAT
      go_wp2
      go_ret
      exact ⟨ret_int HGo.out, HBW.out⟩

set_option maxHeartbeats 4000000 in
set_option maxRecDepth 100000 in
theorem idxdone_any (B : Nat) (w : World) (sv : Value) (ts : List Trn) (x : Txn) (b : Nat) (hx : TxAt w b x) (h : TsAt B w sv ts) (hn : ts.length ≤ 1000) :
    Calls Try.prog 57 #[sv, .func (.func 61) #[] #[.pointer (some ⟨b, 0, none⟩)]] w fun e w' => e = .returned (.int .i64 (idxF (doneB x) 0 ts)) ∧ Below w.heap.size w w' := by
  obtain ⟨a, c, rfl, _⟩ := owns_shape h
  have HU : Hid (∀ (t : Trn) (W : World), Below w.heap.size w W → Calls Try.prog 61 #[trnV t, .pointer (some ⟨b, 0, none⟩)] W fun e w' => e = .returned (.bool ((doneB x) t)) ∧ Below W.heap.size W w') := Lib.hid (fun t W hW => done1_any x t b W (hx.below hW))
  have HAT : Hid (∀ k t, ts[k]? = some t → ∃ g, a = some ⟨g, 0, none⟩ ∧ g < w.heap.size ∧ w.rangeAt g (k * 12) (cellsT t)) := Lib.hid (fun k t ht => by
    obtain ⟨g, c', e, hl, _, hr⟩ := TsAt.at h k t ht
    injection e with e1 _ _
    exact ⟨g, e1, hl, hr⟩)
  obtain ⟨F, hF⟩ : ∃ F, idxF (doneB x) 0 ts = F := ⟨_, rfl⟩
  rw [hF]
  have HF := Lib.hid hF
  clear hF h hx
  go_enter Try.func57, Try.ntmps57
  go_wp2
  go_loopw [8] (fun i wr => ∃ k : Nat, k ≤ ts.length ∧ i = .int .i64 k ∧ Hid (idxF (doneB x) k (ts.drop k) = F ∧ Below w.heap.size w wr)) (fun i _ => ts.length - (intOf i).toNat)
  case atStart => exact ⟨0, Nat.zero_le _, rfl, HF.out, Below.refl _ _⟩
  case round =>
    clear HF
    obtain ⟨k, hk, rfl, hH⟩ := hrel
    by_cases hlt : k < ts.length
    · obtain ⟨hgo, hbw⟩ := hH.out
      obtain ⟨t, ht⟩ : ∃ t, ts[k]? = some t := ⟨_, List.getElem?_eq_getElem hlt⟩
      rw [idx_drop ht, idxF] at hgo
      obtain ⟨g, rfl, hgl, hr⟩ := HAT.out k t ht
      have HR : Hid (wr.rangeAt g (k * 12) (cellsT t)) := Lib.hid (fun j u hj => (hbw.cell (p := ⟨g, k * 12 + j, none⟩) hgl).trans (hr j u hj))
      have hcl := HU.out t wr hbw
      have HBW := Lib.hid hbw
      have HI := Lib.hid (infoT12 (cellsT t) rfl)
      obtain ⟨R, hR⟩ : ∃ R, (doneB x) t = R := ⟨_, rfl⟩
      rw [hR] at hgo hcl
      have HC := Lib.hid hcl
      clear hR hcl hr ht hgl hbw hH HU HAT
      unfold trnV at HC
      cases R with
      | true =>
        rw [if_pos rfl] at hgo
        have HGo := Lib.hid hgo
        clear hgo
        go_wp2_with (first
          | (refine wpList_load_mid rfl 78 _ rfl g (k * 12) rfl _ _ HR.out Try.underlying78 rfl HI.out ?_))
        refine HC.out.mono ?_
        rintro e w1 ⟨rfl, hb1⟩
        have HB1 := Lib.hid (HBW.out.trans (hb1.mono HBW.out.size))
        clear hb1 HC HR HI
        go_wp2
        go_ret
        exact ⟨ret_int HGo.out, HB1.out⟩
      | false =>
        rw [if_neg (by simp)] at hgo
        have HGo := Lib.hid hgo
        clear hgo
        go_wp2_with (first
          | (refine wpList_load_mid rfl 78 _ rfl g (k * 12) rfl _ _ HR.out Try.underlying78 rfl HI.out ?_))
        refine HC.out.mono ?_
        rintro e w1 ⟨rfl, hb1⟩
        have HB1 := Lib.hid (HBW.out.trans (hb1.mono HBW.out.size))
        clear hb1 HC HR HI
        go_wp2
        go_roundw
        case rel => exact ⟨k + 1, by omega, by go_num, HGo.out, HB1.out⟩
        case measure => simp [intOf]; omega
    · have hkl : k = ts.length := by omega
      obtain ⟨hgo, hbw⟩ := hH.out
      rw [hkl, List.drop_length, idxF] at hgo
      have hlt' : ¬ (k : Int) < (ts.length : Int) := by omega
      have HGo := Lib.hid hgo
      have HBW := Lib.hid hbw
      clear hgo hH hkl hbw HU HAT
      go_wp2
      go_ret
      exact ⟨ret_int HGo.out, HBW.out⟩

set_option maxHeartbeats 4000000 in
set_option maxRecDepth 100000 in
theorem idxlive_any (B : Nat) (w : World) (sv : Value) (ts : List Trn) (h : TsAt B w sv ts) (hn : ts.length ≤ 1000) :
    Calls Try.prog 57 #[sv, .func (.func 63) #[] #[]] w fun e w' => e = .returned (.int .i64 (idxF liveB 0 ts)) ∧ Below w.heap.size w w' := by
  obtain ⟨a, c, rfl, _⟩ := owns_shape h
  have HU : Hid (∀ (t : Trn) (W : World), Below w.heap.size w W → Calls Try.prog 63 #[trnV t] W fun e w' => e = .returned (.bool (liveB t)) ∧ Below W.heap.size W w') := Lib.hid (fun t W _ => live1_any t W)
  have HAT : Hid (∀ k t, ts[k]? = some t → ∃ g, a = some ⟨g, 0, none⟩ ∧ g < w.heap.size ∧ w.rangeAt g (k * 12) (cellsT t)) := Lib.hid (fun k t ht => by
    obtain ⟨g, c', e, hl, _, hr⟩ := TsAt.at h k t ht
    injection e with e1 _ _
    exact ⟨g, e1, hl, hr⟩)
  obtain ⟨F, hF⟩ : ∃ F, idxF liveB 0 ts = F := ⟨_, rfl⟩
  rw [hF]
  have HF := Lib.hid hF
  clear hF h
  go_enter Try.func57, Try.ntmps57
  go_wp2
  go_loopw [8] (fun i wr => ∃ k : Nat, k ≤ ts.length ∧ i = .int .i64 k ∧ Hid (idxF liveB k (ts.drop k) = F ∧ Below w.heap.size w wr)) (fun i _ => ts.length - (intOf i).toNat)
  case atStart => exact ⟨0, Nat.zero_le _, rfl, HF.out, Below.refl _ _⟩
  case round =>
    clear HF
    obtain ⟨k, hk, rfl, hH⟩ := hrel
    by_cases hlt : k < ts.length
    · obtain ⟨hgo, hbw⟩ := hH.out
      obtain ⟨t, ht⟩ : ∃ t, ts[k]? = some t := ⟨_, List.getElem?_eq_getElem hlt⟩
      rw [idx_drop ht, idxF] at hgo
      obtain ⟨g, rfl, hgl, hr⟩ := HAT.out k t ht
      have HR : Hid (wr.rangeAt g (k * 12) (cellsT t)) := Lib.hid (fun j u hj => (hbw.cell (p := ⟨g, k * 12 + j, none⟩) hgl).trans (hr j u hj))
      have hcl := HU.out t wr hbw
      have HBW := Lib.hid hbw
      have HI := Lib.hid (infoT12 (cellsT t) rfl)
      obtain ⟨R, hR⟩ : ∃ R, liveB t = R := ⟨_, rfl⟩
      rw [hR] at hgo hcl
      have HC := Lib.hid hcl
      clear hR hcl hr ht hgl hbw hH HU HAT
      unfold trnV at HC
      cases R with
      | true =>
        rw [if_pos rfl] at hgo
        have HGo := Lib.hid hgo
        clear hgo
        go_wp2_with (first
          | (refine wpList_load_mid rfl 78 _ rfl g (k * 12) rfl _ _ HR.out Try.underlying78 rfl HI.out ?_))
        refine HC.out.mono ?_
        rintro e w1 ⟨rfl, hb1⟩
        have HB1 := Lib.hid (HBW.out.trans (hb1.mono HBW.out.size))
        clear hb1 HC HR HI
        go_wp2
        go_ret
        exact ⟨ret_int HGo.out, HB1.out⟩
      | false =>
        rw [if_neg (by simp)] at hgo
        have HGo := Lib.hid hgo
        clear hgo
        go_wp2_with (first
          | (refine wpList_load_mid rfl 78 _ rfl g (k * 12) rfl _ _ HR.out Try.underlying78 rfl HI.out ?_))
        refine HC.out.mono ?_
        rintro e w1 ⟨rfl, hb1⟩
        have HB1 := Lib.hid (HBW.out.trans (hb1.mono HBW.out.size))
        clear hb1 HC HR HI
        go_wp2
        go_roundw
        case rel => exact ⟨k + 1, by omega, by go_num, HGo.out, HB1.out⟩
        case measure => simp [intOf]; omega
    · have hkl : k = ts.length := by omega
      obtain ⟨hgo, hbw⟩ := hH.out
      rw [hkl, List.drop_length, idxF] at hgo
      have hlt' : ¬ (k : Int) < (ts.length : Int) := by omega
      have HGo := Lib.hid hgo
      have HBW := Lib.hid hbw
      clear hgo hH hkl hbw HU HAT
      go_wp2
      go_ret
      exact ⟨ret_int HGo.out, HBW.out⟩

end Go.Proofs.Ytleghofpabdkhaa
