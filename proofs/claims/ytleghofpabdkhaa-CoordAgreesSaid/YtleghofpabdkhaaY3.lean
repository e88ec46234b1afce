/- Coord: the node as it lies; find; has, all, counts; numbers as bytes. -/
import Derived.Test.YtleghofpabdkhaaY2
namespace Go.Proofs.Ytleghofpabdkhaa
open Go Go.RowKit

/-- A node, in plain words. -/
structure Cd where
  node : Int
  life : Int
  next : Int
  under : List Trn
/-- The node c lies in block p; its transactions in sv. -/
structure CdAt (B : Nat) (w : World) (p : Nat) (c : Cd) (sv : Value) : Prop where
  row : w.heap[p]? = some (.cells #[.int .i64 c.node, .int .i64 c.life, .int .i64 c.next, sv] 72 (0, 0))
  us : TsAt B w sv c.under
  ne : ∀ g, sv.ownBlock = some g → g ≠ p
  base : B ≤ p
theorem CdAt.lt {B p : Nat} {w : World} {c : Cd} {sv : Value} (h : CdAt B w p c sv) : p < w.heap.size := (Array.getElem?_eq_some_iff.1 h.row).1
theorem CdAt.cells {B p : Nat} {w : World} {c : Cd} {sv : Value} (h : CdAt B w p c sv) : w.cell? ⟨p, 0, none⟩ = some (.int .i64 c.node) ∧ w.cell? ⟨p, 1, none⟩ = some (.int .i64 c.life) ∧ w.cell? ⟨p, 2, none⟩ = some (.int .i64 c.next) ∧ w.cell? ⟨p, 3, none⟩ = some sv ∧ w.frozen? ⟨p, 1, none⟩ = false ∧ w.frozen? ⟨p, 2, none⟩ = false ∧ w.frozen? ⟨p, 3, none⟩ = false :=
  ⟨cell_of_row _ _ _ _ _ _ h.row, cell_of_row _ _ _ _ _ _ h.row, cell_of_row _ _ _ _ _ _ h.row, cell_of_row _ _ _ _ _ _ h.row, frozen_of_row _ _ _ _ _ h.row, frozen_of_row _ _ _ _ _ h.row, frozen_of_row _ _ _ _ _ h.row⟩
theorem CdAt.kept {B p : Nat} {w w' : World} {c : Cd} {sv : Value} (h : CdAt B w p c sv) (hk : ∀ g, g = p ∨ sv.ownBlock = some g → w'.heap[g]? = w.heap[g]?) : CdAt B w' p c sv :=
  ⟨(hk p (Or.inl rfl)).trans h.row, owns_frame h.us (fun g hg => hk g (Or.inr hg)), h.ne, h.base⟩
theorem CdAt.below {B p : Nat} {w w' : World} {c : Cd} {sv : Value} (h : CdAt B w p c sv) (hb : Below w.heap.size w w') : CdAt B w' p c sv :=
  h.kept (fun g hg => hb.block g (by rcases hg with rfl | hg; exact h.lt; exact (World.ownsRow.lt h.us g hg).2))
theorem CdAt.lens {B p : Nat} {w : World} {c : Cd} {sv : Value} (h : CdAt B w p c sv) : ∃ a k, sv = .slice a c.under.length k ∧ c.under.length ≤ k := owns_shape h.us
/-- The closure that asks for a name. -/
def CloR (fn : FuncId) (x : Txn) (w : World) (e : Ending) (w' : World) : Prop := ∃ b, e = .returned (.func (.func fn) #[] #[.pointer (some ⟨b, 0, none⟩)]) ∧ TxAt w' b x ∧ Below w.heap.size w w'

theorem asked_any (x : Txn) (w : World) : Calls Try.prog 31 #[txV x] w (CloR 58 x w) := by
  have b1 : Below w.heap.size w (w.alloc (.cells #[.int .i64 x.node, .int .i64 x.boot, .int .i64 x.n] 33)) := (Below.refl _ w).alloc (Nat.le_refl _) _
  have HE := Lib.hid (And.intro (txAt_new w x) b1)
  clear b1
  unfold txV
  go_enter Try.func31, Try.ntmps31
  go_wp2
  go_ret
  exact ⟨_, rfl, HE.out⟩
theorem find_asked (B p : Nat) (w : World) (c : Cd) (sv : Value) (x : Txn) (b : Nat) (h : CdAt B w p c sv) (hx : TxAt w b x) (hn : c.under.length ≤ 1000) :
    Calls Try.prog 30 #[.pointer (some ⟨p, 0, none⟩), .func (.func 58) #[] #[.pointer (some ⟨b, 0, none⟩)]] w fun e w' => e = .returned (.int .i64 (idxF (askedB x) 0 c.under)) ∧ Below w.heap.size w w' := by
  have c3 := h.cells.2.2.2.1
  have HI := Lib.hid (idxasked_any B w sv c.under x b hx h.us hn)
  obtain ⟨a, k, rfl, _⟩ := h.lens
  clear h hx
  go_enter Try.func30, Try.ntmps30
  go_wp2_with fail
  refine HI.out.mono ?_
  rintro e w1 ⟨rfl, hb⟩
  have HB := Lib.hid hb
  clear HI hb
  go_wp2
  go_ret
  exact ⟨rfl, HB.out⟩

theorem done_any (x : Txn) (w : World) : Calls Try.prog 36 #[txV x] w (CloR 61 x w) := by
  have b1 : Below w.heap.size w (w.alloc (.cells #[.int .i64 x.node, .int .i64 x.boot, .int .i64 x.n] 33)) := (Below.refl _ w).alloc (Nat.le_refl _) _
  have HE := Lib.hid (And.intro (txAt_new w x) b1)
  clear b1
  unfold txV
  go_enter Try.func36, Try.ntmps36
  go_wp2
  go_ret
  exact ⟨_, rfl, HE.out⟩
theorem find_done (B p : Nat) (w : World) (c : Cd) (sv : Value) (x : Txn) (b : Nat) (h : CdAt B w p c sv) (hx : TxAt w b x) (hn : c.under.length ≤ 1000) :
    Calls Try.prog 30 #[.pointer (some ⟨p, 0, none⟩), .func (.func 61) #[] #[.pointer (some ⟨b, 0, none⟩)]] w fun e w' => e = .returned (.int .i64 (idxF (doneB x) 0 c.under)) ∧ Below w.heap.size w w' := by
  have c3 := h.cells.2.2.2.1
  have HI := Lib.hid (idxdone_any B w sv c.under x b hx h.us hn)
  obtain ⟨a, k, rfl, _⟩ := h.lens
  clear h hx
  go_enter Try.func30, Try.ntmps30
  go_wp2_with fail
  refine HI.out.mono ?_
  rintro e w1 ⟨rfl, hb⟩
  have HB := Lib.hid hb
  clear HI hb
  go_wp2
  go_ret
  exact ⟨rfl, HB.out⟩

set_option maxRecDepth 100000 in
theorem has_any (s : St4) (i : Int) (w : World) : Calls Try.prog 32 #[setV s, .int .i64 i] w fun e w' => e = .returned (.bool (s.has i)) ∧ Below w.heap.size w w' := by
  have b1 : Below w.heap.size w (w.alloc (.cells #[.bool s.a, .bool s.b, .bool s.c, .bool s.d] 74)) := (Below.refl _ w).alloc (Nat.le_refl _) _
  have HB := Lib.hid b1
  clear b1
  unfold setV
  rcases (by omega : i < 0 ∨ i = 0 ∨ i = 1 ∨ i = 2 ∨ i = 3 ∨ (0 ≤ i ∧ ¬ i < 4)) with h | h | h | h | h | ⟨h, h2⟩
  · have HF : Hid (s.has i = false) := Lib.hid (by unfold St4.has; rw [if_neg (by omega), if_neg (by omega), if_neg (by omega), if_neg (by omega)])
    have h0 : ¬ (0 : Int) ≤ i := by omega
    go_enter Try.func32, Try.ntmps32
    go_wp2
    go_ret
    exact ⟨ret_bool HF.out.symm, HB.out⟩
  all_goals try subst h
  · go_enter Try.func32, Try.ntmps32
    go_wp2
    go_ret
    exact ⟨ret_bool rfl, HB.out⟩
  · go_enter Try.func32, Try.ntmps32
    go_wp2
    go_ret
    exact ⟨ret_bool rfl, HB.out⟩
  · go_enter Try.func32, Try.ntmps32
    go_wp2
    go_ret
    exact ⟨ret_bool rfl, HB.out⟩
  · go_enter Try.func32, Try.ntmps32
    go_wp2
    go_ret
    exact ⟨ret_bool rfl, HB.out⟩
  · have HF : Hid (s.has i = false) := Lib.hid (by unfold St4.has; rw [if_neg (by omega), if_neg (by omega), if_neg (by omega), if_neg (by omega)])
    go_enter Try.func32, Try.ntmps32
    go_wp2
    go_ret
    exact ⟨ret_bool HF.out.symm, HB.out⟩
set_option maxRecDepth 100000 in
theorem all_any (t : Trn) (w : World) : Calls Try.prog 33 #[trnV t] w fun e w' => e = .returned (.bool t.all) ∧ Below w.heap.size w w' := by
  have b1 : Below w.heap.size w (w.alloc (.cells #[.int .i64 t.tx.node, .int .i64 t.tx.boot, .int .i64 t.tx.n, .bool t.sh.a, .bool t.sh.b, .bool t.sh.c, .bool t.sh.d, .bool t.sd.a, .bool t.sd.b, .bool t.sd.c, .bool t.sd.d, .bool t.dn] 78)) := (Below.refl _ w).alloc (Nat.le_refl _) _
  have HB := Lib.hid b1
  have q := eq_set t.sd t.sh
  clear b1
  unfold trnV cellsT Trn.all
  go_enter Try.func33, Try.ntmps33
  go_wp2
  go_ret
  exact ⟨rfl, HB.out⟩
def countsB (n : Int) : Bool := decide (1 ≤ n) && decide (n ≤ 2147483647)
theorem counts_any (n : Int) (w : World) : Calls Try.prog 39 #[.int .i64 n] w fun e w' => e = .returned (.bool (countsB n)) ∧ w = w' := by
  unfold countsB
  by_cases h : 1 ≤ n
  · by_cases h2 : n ≤ 2147483647
    · go_enter Try.func39, Try.ntmps39
      go_wp2
      go_ret
      exact ⟨ret_bool (by simp [h, h2]), rfl⟩
    · go_enter Try.func39, Try.ntmps39
      go_wp2
      go_ret
      exact ⟨ret_bool (by simp [h, h2]), rfl⟩
  · go_enter Try.func39, Try.ntmps39
    go_wp2
    go_ret
    exact ⟨ret_bool (by simp [h]; omega), rfl⟩
/-- A number's four bytes, the highest ahead. -/
def num4 (n : Nat) : List UInt8 := [UInt8.ofNat (n / 16777216), UInt8.ofNat (n / 65536), UInt8.ofNat (n / 256), UInt8.ofNat n]
theorem num4_len (n : Nat) : (num4 n).length = 4 := rfl
theorem num4_cells (n : Nat) (h : n ≤ 4294967295) : (num4 n).map (fun b => Value.int .u8 (b.toNat : Int)) = [.int .u8 ((n : Int) / 16777216), .int .u8 ((n : Int) / 65536 % 256), .int .u8 ((n : Int) / 256 % 256), .int .u8 ((n : Int) % 256)] := by
  have e : (n : Int) / 16777216 = ((n / 16777216 % 256 : Nat) : Int) := by omega
  rw [e]
  simp only [num4, List.map_cons, List.map_nil, UInt8.toNat_ofNat']
  rfl
theorem info5 : (Try.prog.info? 5).map (fun i => (i.zero, i.size, i.bytes)) = some (some (.int .u8 0), 1, 1) := by kernel_rfl
/-- append onto bytes of one's own. -/
theorem app_lit (B : Nat) (w : World) (v : Value) (l p : List UInt8) (cs : Array Value) (hc : cs.toList = p.map fun b => Value.int .u8 (b.toNat : Int)) (hv : Row B w v l) (hB : B ≤ w.heap.size) (hp : p.length ≤ 1000) (hl : l.length ≤ 100000) :
    ∃ v' w', (∀ ty, (Builtin.append_ #[34, 34] ty #[v, .slice (some ⟨w.heap.size, 0, none⟩) p.length p.length]).run Try.prog (w.alloc (.cells cs 5)) = .ok v' w') ∧ Row B w' v' (l ++ p) ∧ Fr (fun k => v.ownBlock = some k) w w' ∧ (∀ g, v'.ownBlock = some g → v.ownBlock = some g ∨ w.heap.size ≤ g) := by
  obtain ⟨i0, hi, hz0, hz1, hz2⟩ := info_parts info5
  have hb : Below w.heap.size w (w.alloc (.cells cs 5)) := (Below.refl _ w).alloc (Nat.le_refl _) _
  have hx := (Row.made w 5 p cs hc (Nat.le_refl _) (by unfold maxLen; omega)).1
  obtain ⟨v', w', hr, ho, hg, hw⟩ := run_append_row (P := Try.prog) (w.alloc (.cells cs 5)) 34 5 i0 Try.underlying34 hi hz0 hz1 hz2 (hv.below hb) hx (by simp; omega) (by omega)
  refine ⟨v', w', hr, ho, (Fr.of_below _ hb).grown hg (fun k hk => Or.inl hk), fun g hgv => ?_⟩
  rcases hw with hw | hw
  · exact Or.inl (hw ▸ hgv)
  · exact Or.inr (Nat.le_trans hb.size (hw g hgv))
/-- What is laid behind bytes of one's own. -/
def PutR (B : Nat) (w : World) (v : Value) (l : List UInt8) (e : Ending) (w' : World) : Prop := ∃ a c, e = .returned (.slice a l.length c) ∧ Row B w' (.slice a l.length c) l ∧ Fr (fun k => v.ownBlock = some k) w w' ∧ (∀ g, (Value.slice a l.length c).ownBlock = some g → v.ownBlock = some g ∨ w.heap.size ≤ g)
theorem PutR.of {B : Nat} {w w' : World} {v v' : Value} {l : List UInt8} (h : Row B w' v' l) (hb : Fr (fun k => v.ownBlock = some k) w w') (hn : ∀ g, v'.ownBlock = some g → v.ownBlock = some g ∨ w.heap.size ≤ g) : PutR B w v l (.returned v') w' := by
  obtain ⟨a, c, rfl, _⟩ := h.1.shape
  exact ⟨a, c, rfl, h, hb, hn⟩
theorem row_own {B : Nat} {w : World} {v : Value} {l : List UInt8} (h : Row B w v l) : ∀ g, v.ownBlock = some g → B ≤ g := by
  intro g hg
  obtain ⟨a, c, rfl, _⟩ := h.1.shape
  cases a with
  | none => simp [Value.ownBlock] at hg
  | some ad =>
    have := (h.2 ad _ _ rfl).1
    simp [Value.ownBlock] at hg
    omega
theorem put_below {B : Nat} {w w' : World} {v : Value} {l : List UInt8} (h : Row B w v l) (hf : Fr (fun k => v.ownBlock = some k) w w') (hB : B ≤ w.heap.size) : Below B w w' := hf.below hB (fun k hk => row_own h k hk)
/-- Bytes that are new. -/
def RecR (w : World) (l : List UInt8) (e : Ending) (w' : World) : Prop := ∃ a c, e = .returned (.slice a l.length c) ∧ Row w.heap.size w' (.slice a l.length c) l ∧ Below w.heap.size w w'
set_option maxRecDepth 100000 in
theorem putNumber_any (B : Nat) (w : World) (v : Value) (l : List UInt8) (n : Nat) (hv : Row B w v l) (hB : B ≤ w.heap.size) (hl : l.length ≤ 1000) (hn : n ≤ 4294967295) :
    Calls Try.prog 56 #[v, .int .i64 (n : Int)] w (PutR B w v (l ++ num4 n)) := by
  obtain ⟨v', w', hr, ho, hb, hnw⟩ := app_lit B w v l (num4 n) #[.int .u8 ((n : Int) / 16777216), .int .u8 ((n : Int) / 65536 % 256), .int .u8 ((n : Int) / 256 % 256), .int .u8 ((n : Int) % 256)] (num4_cells n hn).symm hv hB (by rw [num4_len]; omega) (by omega)
  rw [num4_len] at hr
  obtain ⟨va, vc, rfl, _⟩ := hv.1.shape
  have HE := Lib.hid (PutR.of ho hb hnw)
  have HR := Lib.hid hr
  clear hv ho hb hr hnw
  go_enter Try.func56, Try.ntmps56
  go_wp2_with (at_builtin; refine wpList_append_run _ rfl _ _ 34 34 rfl _ _ rfl rfl _ w' HR.out ?_)
  go_ret
  exact HE.out
theorem lit_row (w : World) (x : UInt8) : Row w.heap.size (w.alloc (.cells #[.int .u8 (x.toNat : Int)] 5)) (.slice (some ⟨w.heap.size, 0, none⟩) 1 1) [x] := Row.made w 5 [x] _ rfl (Nat.le_refl _) (by show 1 ≤ maxLen; decide)
set_option maxRecDepth 100000 in
theorem lifeRecord_any (n : Nat) (hn : n ≤ 4294967295) (w : World) : Calls Try.prog 28 #[.int .i64 (n : Int)] w (RecR w (1 :: num4 n)) := by
  obtain ⟨w1, hw1⟩ : ∃ w1, w.alloc (.cells #[.int .u8 1] 5) = w1 := ⟨_, rfl⟩
  have hb : Below w.heap.size w w1 := by rw [← hw1]; exact (Below.refl _ w).alloc (Nat.le_refl _) _
  have hr : Row w.heap.size w1 (.slice (some ⟨w.heap.size, 0, none⟩) 1 1) [1] := by rw [← hw1]; exact lit_row w 1
  have HP := Lib.hid (putNumber_any w.heap.size w1 _ [1] n hr hb.size (by simp) hn)
  have HB := Lib.hid hb
  have HR0 := Lib.hid hr
  have HW := Lib.hid hw1
  clear hb hr hw1
  go_enter Try.func28, Try.ntmps28
  go_wp2_with (first | rw [HW.out])
  refine HP.out.mono ?_
  rintro e w2 ⟨a, c, rfl, h1, h2, _⟩
  have HE : Hid (RecR w (1 :: num4 n) (.returned (.slice a ([1] ++ num4 n).length c)) w2) := Lib.hid ⟨a, c, rfl, h1, HB.out.trans (put_below HR0.out h2 HB.out.size)⟩
  clear h1 h2 HP HB HR0
  go_wp2
  go_ret
  exact HE.out
end Go.Proofs.Ytleghofpabdkhaa
