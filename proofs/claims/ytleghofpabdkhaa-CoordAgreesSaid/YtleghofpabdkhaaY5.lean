/- Coord: the record of one that is done; a reader's number. -/
import Derived.Test.YtleghofpabdkhaaY4
import Derived.IntWalk
import Derived.Laws.BitsAllLaws
namespace Go.Proofs.Ytleghofpabdkhaa
open Go Go.RowKit

/-- The shards of a set, as far as k. -/
def St4.at (s : St4) : Nat → Bool
  | 0 => s.a
  | 1 => s.b
  | 2 => s.c
  | 3 => s.d
  | _ => false
def listTo (s : St4) : Nat → List UInt8
  | 0 => []
  | k + 1 => listTo s k ++ (if s.at k = true then [UInt8.ofNat k] else [])
theorem listTo_len (s : St4) : ∀ k, (listTo s k).length ≤ k
  | 0 => Nat.le_refl _
  | k + 1 => by
    have := listTo_len s k
    rw [listTo, List.length_append]
    split <;> simp <;> omega
def doneL (nb nn : Nat) (s : St4) : List UInt8 := [2] ++ num4 nb ++ num4 nn ++ [UInt8.ofNat (listTo s 4).length] ++ listTo s 4
theorem wpList_index_known {P : Program} {ops : Array Oper} {rest : List Oper} {o : Oper} {a : Act} {w : World} {Q : Exit → Act → World → Prop} (hg : o.guard = none) (t : TypeId) (x y : Operand) (_ : o.op = .index t x y) (v : Value) (hr : (execOp a.eval o).run P w = .ok (.value v) w)
    (h : wpList P ops Q rest (a.put o.dst v) w) : wpList P ops Q (o :: rest) a w :=
  wpList_plain hg fun K hK => by
    unfold Oper.wp
    rw [hr, Oper.upon_value]
    exact hK _ _ h
/-- append of other bytes onto bytes of one's own. -/
theorem app_oth (B : Nat) (w : World) (v x : Value) (l p : List UInt8) (hv : Row B w v l) (hx : Byt w x p) (hB : B ≤ w.heap.size) (hp : p.length ≤ 1000) (hl : l.length ≤ 100000) :
    ∃ v' w', (∀ ty, (Builtin.append_ #[34, 34] ty #[v, x]).run Try.prog w = .ok v' w') ∧ Row B w' v' (l ++ p) ∧ Fr (fun k => v.ownBlock = some k) w w' ∧ (∀ g, v'.ownBlock = some g → v.ownBlock = some g ∨ w.heap.size ≤ g) := by
  obtain ⟨i0, hi, hz0, hz1, hz2⟩ := info_parts info5
  obtain ⟨v', w', hr, ho, hg, hw⟩ := run_append_row (P := Try.prog) w 34 5 i0 Try.underlying34 hi hz0 hz1 hz2 hv hx hB (by omega)
  refine ⟨v', w', hr, ho, (Fr.refl _ w).grown hg (fun k hk => Or.inl hk), fun g hgv => ?_⟩
  rcases hw with hw | hw
  · exact Or.inl (hw ▸ hgv)
  · exact Or.inr (hw g hgv)
set_option maxHeartbeats 8000000 in
set_option maxRecDepth 100000 in
theorem doneRecord_any (t : Trn) (nb nn : Nat) (hx : t.tx.boot = (nb : Int)) (hx2 : t.tx.n = (nn : Int)) (hn : nb ≤ 4294967295) (hn2 : nn ≤ 4294967295) (w : World) : Calls Try.prog 34 #[trnV t] w (RecR w (doneL nb nn t.sh)) := by
  obtain ⟨wb, hwb⟩ : ∃ wb, w.alloc (.cells #[.int .i64 t.tx.node, .int .i64 t.tx.boot, .int .i64 t.tx.n, .bool t.sh.a, .bool t.sh.b, .bool t.sh.c, .bool t.sh.d, .bool t.sd.a, .bool t.sd.b, .bool t.sd.c, .bool t.sd.d, .bool t.dn] 78) = wb := ⟨_, rfl⟩
  have hb : Below w.heap.size w wb := by rw [← hwb]; exact (Below.refl _ w).alloc (Nat.le_refl _) _
  have hbx : wb.heap[w.heap.size]? = some (.cells #[.int .i64 t.tx.node, .int .i64 t.tx.boot, .int .i64 t.tx.n, .bool t.sh.a, .bool t.sh.b, .bool t.sh.c, .bool t.sh.d, .bool t.sd.a, .bool t.sd.b, .bool t.sd.c, .bool t.sd.d, .bool t.dn] 78 (0, 0)) := by rw [← hwb]; exact heap_alloc_new w _
  have hsb : wb.heap.size = w.heap.size + 1 := by rw [← hwb]; simp
  have HB := Lib.hid hb
  have HBX := Lib.hid hbx
  have HS := Lib.hid hsb
  have HWB := Lib.hid hwb
  have HX := Lib.hid (And.intro hx hx2)
  have c3 : wb.cell? ⟨w.heap.size, 3, none⟩ = some (.bool t.sh.a) := cell_of_row _ _ _ _ _ _ hbx
  have c4 : wb.cell? ⟨w.heap.size, 4, none⟩ = some (.bool t.sh.b) := cell_of_row _ _ _ _ _ _ hbx
  have c5 : wb.cell? ⟨w.heap.size, 5, none⟩ = some (.bool t.sh.c) := cell_of_row _ _ _ _ _ _ hbx
  have c6 : wb.cell? ⟨w.heap.size, 6, none⟩ = some (.bool t.sh.d) := cell_of_row _ _ _ _ _ _ hbx
  clear hb hbx hsb hwb hx hx2
  unfold trnV cellsT
  go_enter Try.func34, Try.ntmps34
  go_wp2_with (first | rw [HWB.out])
  go_loopw [3, 4, 5, 9] (fun lv _ _ iv wr => ∃ k : Nat, k ≤ 4 ∧ iv = .int .i64 (k : Int) ∧ Hid (Row wb.heap.size wr lv (listTo t.sh k) ∧ Below wb.heap.size wb wr)) (fun _ _ _ iv _ => 4 - (intOf iv).toNat)
  case atStart => exact ⟨0, Nat.zero_le _, rfl, Lib.hid ⟨Row.nil _ _, Below.refl _ _⟩⟩
  case round =>
    clear c3 c4 c5 c6
    obtain ⟨k, hk, rfl, hH⟩ := hrel
    by_cases hlt : k < 4
    · obtain ⟨b, hbk⟩ : ∃ b, t.sh.at k = b := ⟨_, rfl⟩
      rcases (by omega : k = 0 ∨ k = 1 ∨ k = 2 ∨ k = 3) with rfl | rfl | rfl | rfl

      · have HBK : Hid (t.sh.a = b) := Lib.hid hbk
        have hls : listTo t.sh 1 = listTo t.sh 0 ++ (if b = true then [UInt8.ofNat 0] else []) := by
          show listTo t.sh 0 ++ (if t.sh.at 0 = true then [UInt8.ofNat 0] else []) = _
          rw [hbk]
        cases b with
        | false =>
          have HN : Hid (Row wb.heap.size wr u3 (listTo t.sh 1) ∧ Below wb.heap.size wb wr) := Lib.hid (by rw [hls, if_neg (by simp), List.append_nil]; exact hH.out)
          clear hls hH hbk
          go_wp2_with (first | (refine wpList_index_known rfl 74 (.tmp 8) (.tmp 9) rfl (.bool false) (Eq.trans (b := .ok (.value (.bool t.sh.a)) wr) (by kernel_rfl) (by rw [HBK.out])) ?_))
          go_roundw
          case rel => exact ⟨1, by omega, by go_num, HN⟩
          case measure => simp [intOf]
        | true =>
          rw [if_pos rfl] at hls
          obtain ⟨hr, hbl⟩ := hH.out
          obtain ⟨v', w', ha, ho, hf, hw⟩ := app_lit wb.heap.size wr u3 (listTo t.sh 0) [UInt8.ofNat 0] #[.int .u8 0] rfl hr hbl.size (by simp) (by have := listTo_len t.sh 0; omega)
          have HN : Hid (Row wb.heap.size w' v' (listTo t.sh 1) ∧ Below wb.heap.size wb w') := Lib.hid ⟨by rw [hls]; exact ho, hbl.trans (put_below hr hf hbl.size)⟩
          have HA := Lib.hid ha
          clear hls hH hbk hr hbl ho hf hw ha
          go_wp2_with (first | (refine wpList_index_known rfl 74 (.tmp 8) (.tmp 9) rfl (.bool true) (Eq.trans (b := .ok (.value (.bool t.sh.a)) wr) (by kernel_rfl) (by rw [HBK.out])) ?_) | (at_builtin; refine wpList_append_run _ rfl _ _ 34 34 rfl _ _ rfl rfl _ w' HA.out ?_))
          go_roundw
          case rel => exact ⟨1, by omega, by go_num, HN⟩
          case measure => simp [intOf]
      · have HBK : Hid (t.sh.b = b) := Lib.hid hbk
        have hls : listTo t.sh 2 = listTo t.sh 1 ++ (if b = true then [UInt8.ofNat 1] else []) := by
          show listTo t.sh 1 ++ (if t.sh.at 1 = true then [UInt8.ofNat 1] else []) = _
          rw [hbk]
        cases b with
        | false =>
          have HN : Hid (Row wb.heap.size wr u3 (listTo t.sh 2) ∧ Below wb.heap.size wb wr) := Lib.hid (by rw [hls, if_neg (by simp), List.append_nil]; exact hH.out)
          clear hls hH hbk
          go_wp2_with (first | (refine wpList_index_known rfl 74 (.tmp 8) (.tmp 9) rfl (.bool false) (Eq.trans (b := .ok (.value (.bool t.sh.b)) wr) (by kernel_rfl) (by rw [HBK.out])) ?_))
          go_roundw
          case rel => exact ⟨2, by omega, by go_num, HN⟩
          case measure => simp [intOf]
        | true =>
          rw [if_pos rfl] at hls
          obtain ⟨hr, hbl⟩ := hH.out
          obtain ⟨v', w', ha, ho, hf, hw⟩ := app_lit wb.heap.size wr u3 (listTo t.sh 1) [UInt8.ofNat 1] #[.int .u8 1] rfl hr hbl.size (by simp) (by have := listTo_len t.sh 1; omega)
          have HN : Hid (Row wb.heap.size w' v' (listTo t.sh 2) ∧ Below wb.heap.size wb w') := Lib.hid ⟨by rw [hls]; exact ho, hbl.trans (put_below hr hf hbl.size)⟩
          have HA := Lib.hid ha
          clear hls hH hbk hr hbl ho hf hw ha
          go_wp2_with (first | (refine wpList_index_known rfl 74 (.tmp 8) (.tmp 9) rfl (.bool true) (Eq.trans (b := .ok (.value (.bool t.sh.b)) wr) (by kernel_rfl) (by rw [HBK.out])) ?_) | (at_builtin; refine wpList_append_run _ rfl _ _ 34 34 rfl _ _ rfl rfl _ w' HA.out ?_))
          go_roundw
          case rel => exact ⟨2, by omega, by go_num, HN⟩
          case measure => simp [intOf]
      · have HBK : Hid (t.sh.c = b) := Lib.hid hbk
        have hls : listTo t.sh 3 = listTo t.sh 2 ++ (if b = true then [UInt8.ofNat 2] else []) := by
          show listTo t.sh 2 ++ (if t.sh.at 2 = true then [UInt8.ofNat 2] else []) = _
          rw [hbk]
        cases b with
        | false =>
          have HN : Hid (Row wb.heap.size wr u3 (listTo t.sh 3) ∧ Below wb.heap.size wb wr) := Lib.hid (by rw [hls, if_neg (by simp), List.append_nil]; exact hH.out)
          clear hls hH hbk
          go_wp2_with (first | (refine wpList_index_known rfl 74 (.tmp 8) (.tmp 9) rfl (.bool false) (Eq.trans (b := .ok (.value (.bool t.sh.c)) wr) (by kernel_rfl) (by rw [HBK.out])) ?_))
          go_roundw
          case rel => exact ⟨3, by omega, by go_num, HN⟩
          case measure => simp [intOf]
        | true =>
          rw [if_pos rfl] at hls
          obtain ⟨hr, hbl⟩ := hH.out
          obtain ⟨v', w', ha, ho, hf, hw⟩ := app_lit wb.heap.size wr u3 (listTo t.sh 2) [UInt8.ofNat 2] #[.int .u8 2] rfl hr hbl.size (by simp) (by have := listTo_len t.sh 2; omega)
          have HN : Hid (Row wb.heap.size w' v' (listTo t.sh 3) ∧ Below wb.heap.size wb w') := Lib.hid ⟨by rw [hls]; exact ho, hbl.trans (put_below hr hf hbl.size)⟩
          have HA := Lib.hid ha
          clear hls hH hbk hr hbl ho hf hw ha
          go_wp2_with (first | (refine wpList_index_known rfl 74 (.tmp 8) (.tmp 9) rfl (.bool true) (Eq.trans (b := .ok (.value (.bool t.sh.c)) wr) (by kernel_rfl) (by rw [HBK.out])) ?_) | (at_builtin; refine wpList_append_run _ rfl _ _ 34 34 rfl _ _ rfl rfl _ w' HA.out ?_))
          go_roundw
          case rel => exact ⟨3, by omega, by go_num, HN⟩
          case measure => simp [intOf]
      · have HBK : Hid (t.sh.d = b) := Lib.hid hbk
        have hls : listTo t.sh 4 = listTo t.sh 3 ++ (if b = true then [UInt8.ofNat 3] else []) := by
          show listTo t.sh 3 ++ (if t.sh.at 3 = true then [UInt8.ofNat 3] else []) = _
          rw [hbk]
        cases b with
        | false =>
          have HN : Hid (Row wb.heap.size wr u3 (listTo t.sh 4) ∧ Below wb.heap.size wb wr) := Lib.hid (by rw [hls, if_neg (by simp), List.append_nil]; exact hH.out)
          clear hls hH hbk
          go_wp2_with (first | (refine wpList_index_known rfl 74 (.tmp 8) (.tmp 9) rfl (.bool false) (Eq.trans (b := .ok (.value (.bool t.sh.d)) wr) (by kernel_rfl) (by rw [HBK.out])) ?_))
          go_roundw
          case rel => exact ⟨4, by omega, by go_num, HN⟩
          case measure => simp [intOf]
        | true =>
          rw [if_pos rfl] at hls
          obtain ⟨hr, hbl⟩ := hH.out
          obtain ⟨v', w', ha, ho, hf, hw⟩ := app_lit wb.heap.size wr u3 (listTo t.sh 3) [UInt8.ofNat 3] #[.int .u8 3] rfl hr hbl.size (by simp) (by have := listTo_len t.sh 3; omega)
          have HN : Hid (Row wb.heap.size w' v' (listTo t.sh 4) ∧ Below wb.heap.size wb w') := Lib.hid ⟨by rw [hls]; exact ho, hbl.trans (put_below hr hf hbl.size)⟩
          have HA := Lib.hid ha
          clear hls hH hbk hr hbl ho hf hw ha
          go_wp2_with (first | (refine wpList_index_known rfl 74 (.tmp 8) (.tmp 9) rfl (.bool true) (Eq.trans (b := .ok (.value (.bool t.sh.d)) wr) (by kernel_rfl) (by rw [HBK.out])) ?_) | (at_builtin; refine wpList_append_run _ rfl _ _ 34 34 rfl _ _ rfl rfl _ w' HA.out ?_))
          go_roundw
          case rel => exact ⟨4, by omega, by go_num, HN⟩
          case measure => simp [intOf]
    · have hk4 : k = 4 := by omega
      subst hk4
      obtain ⟨hr, hbl⟩ := hH.out
      obtain ⟨L, hL⟩ : ∃ L, listTo t.sh 4 = L := ⟨_, rfl⟩
      have hLl : L.length ≤ 4 := by rw [← hL]; exact listTo_len t.sh 4
      rw [hL] at hr
      obtain ⟨M, hM⟩ : ∃ M, [2] ++ num4 nb ++ num4 nn = M := ⟨_, rfl⟩
      have hMl : M.length ≤ 20 := by rw [← hM, List.length_append, List.length_append, num4_len, num4_len]; simp
      obtain ⟨M4, hM4⟩ : ∃ M4, M ++ [UInt8.ofNat L.length] = M4 := ⟨_, rfl⟩
      have hM4l : M4.length ≤ 30 := by rw [← hM4, List.length_append]; simp; omega
      obtain ⟨M5, hM5⟩ : ∃ M5, M4 ++ L = M5 := ⟨_, rfl⟩
      have HDL : Hid (doneL nb nn t.sh = M5) := Lib.hid (by unfold doneL; rw [hL, hM, hM4, hM5])
      have HM4 := Lib.hid hM4
      have HM5 := Lib.hid hM5
      obtain ⟨la, lc, rfl, _⟩ := hr.1.shape
      have hbx := (hbl.block _ (by have := HS.out; omega)).trans HBX.out
      obtain ⟨w2, hw2⟩ : ∃ w2, wr.alloc (.cells #[.int .u8 2] 5) = w2 := ⟨_, rfl⟩
      have hb2 : Below wr.heap.size wr w2 := by rw [← hw2]; exact (Below.refl _ wr).alloc (Nat.le_refl _) _
      have hr2 : Row wr.heap.size w2 (.slice (some ⟨wr.heap.size, 0, none⟩) 1 1) [2] := by rw [← hw2]; exact lit_row wr 2
      have hbx2 : w2.heap[w.heap.size]? = _ := (hb2.block _ (Array.getElem?_eq_some_iff.1 hbx).1).trans hbx
      have e0 : w2.cell? ⟨w.heap.size, 0, none⟩ = some (.int .i64 t.tx.node) := cell_of_row _ _ _ _ _ _ hbx2
      have e1 : w2.cell? ⟨w.heap.size, 1, none⟩ = some (.int .i64 t.tx.boot) := cell_of_row _ _ _ _ _ _ hbx2
      have e2 : w2.cell? ⟨w.heap.size, 2, none⟩ = some (.int .i64 t.tx.n) := cell_of_row _ _ _ _ _ _ hbx2
      have hP := putName_any wr.heap.size w2 _ [2] t.tx nb nn hr2 hb2.size (by simp) HX.out.1 HX.out.2 hn hn2
      rw [hM] at hP
      unfold txV at hP
      have HP := Lib.hid hP
      have HW2 := Lib.hid hw2
      have HR := Lib.hid (And.intro hr (And.intro hbl (And.intro hb2 hr2)))
      clear hr hbl hw2 hb2 hr2 hbx hbx2 hP hL hH hk hlt hM hM4 hM5
      go_wp2_with (first | rw [HW2.out])
      refine HP.out.mono ?_
      rintro e w3 ⟨a3, c3, rfl, h3, hf3, hn3⟩
      obtain ⟨hrl, hbl, hb2, hr2⟩ := HR.out
      have hb3 := put_below hr2 hf3 hb2.size
      obtain ⟨v4, w4, ha4, ho4, hf4, hn4⟩ := app_lit wr.heap.size w3 _ M [UInt8.ofNat L.length] #[.int .u8 (L.length : Int)] (by simp only [List.map_cons, List.map_nil, UInt8.toNat_ofNat']; congr 2; omega) h3 (Nat.le_trans hb2.size hb3.size) (by simp) (by omega)
      rw [HM4.out] at ho4
      have hb4 := put_below h3 hf4 (Nat.le_trans hb2.size hb3.size)
      obtain ⟨a4, c4, rfl, _⟩ := ho4.1.shape
      have hbw4 : Below wr.heap.size wr w4 := hb2.trans (hb3.trans hb4)
      have hrl4 := hrl.below hbw4
      obtain ⟨v5, w5, ha5, ho5, hf5, hn5⟩ := app_oth wr.heap.size w4 _ _ M4 L ho4 hrl4.1 hbw4.size (by omega) (by omega)
      rw [HM5.out] at ho5
      have hb5 := put_below ho4 hf5 hbw4.size
      obtain ⟨a5, c5, rfl, _⟩ := ho5.1.shape
      have HE : Hid (RecR w (doneL nb nn t.sh) (.returned (.slice a5 M5.length c5)) w5) := Lib.hid (by
        rw [HDL.out]
        exact ⟨a5, c5, rfl, row_up ho5 (fun g hg => by have := row_own ho5 g hg; have := hbl.size; have := HS.out; omega), HB.out.trans ((hbl.mono (by have := HS.out; omega)).trans ((hbw4.trans hb5).mono (by have := hbl.size; have := HS.out; omega)))⟩)
      have HA4 := Lib.hid ha4
      have HA5 := Lib.hid ha5
      clear HP HW2 HR h3 hf3 hn3 hrl hbl hb2 hr2 hb3 ha4 ho4 hf4 hn4 hb4 hbw4 hrl4 ha5 ho5 hf5 hn5 hb5 e0 e1 e2
      go_wp2_with (first
        | (at_builtin; refine wpList_append_run _ rfl _ _ 34 34 rfl _ _ rfl rfl _ w4 HA4.out ?_)
        | (at_builtin; refine wpList_append_run _ rfl _ _ 34 34 rfl _ _ rfl rfl _ w5 HA5.out ?_))
      go_ret
      exact HE.out
def valN (v : Nat) (l : List UInt8) : Nat := l.foldl (fun v c => 256 * v + c.toNat) v
theorem valN_bd : ∀ (l : List UInt8) (v : Nat), valN v l < (v + 1) * 256 ^ l.length
  | [], v => by simp [valN]
  | c :: t, v => by
    have h := valN_bd t (256 * v + c.toNat)
    have hc := c.toNat_lt
    have e : valN v (c :: t) = valN (256 * v + c.toNat) t := rfl
    rw [e, List.length_cons, Nat.pow_succ]
    refine Nat.lt_of_lt_of_le h ?_
    rw [Nat.mul_comm (256 ^ t.length) 256, ← Nat.mul_assoc]
    exact Nat.mul_le_mul_right _ (by omega)
theorem i64_or_nat (a b : Nat) (ha : a < 4611686018427387904) (hb : b < 4611686018427387904) : bits .or .i64 (a : Int) (b : Int) = ((a ||| b : Nat) : Int) := by
  have hx : a ||| b < 2 ^ 62 := Nat.or_lt_two_pow (by omega) (by omega)
  have h1 : (BitVec.ofInt 64 (a : Int)).toNat = a := by rw [BitVec.toNat_ofInt]; omega
  have h2 : (BitVec.ofInt 64 (b : Int)).toNat = b := by rw [BitVec.toNat_ofInt]; omega
  show IntKind.i64.wrap ((BitVec.ofInt 64 (a : Int) ||| BitVec.ofInt 64 (b : Int)).toNat : Int) = _
  rw [BitVec.toNat_or, h1, h2]
  exact IntWalk.i64_in _ (by omega)
theorem or_join (v c : Nat) (hv : v < 16777216) (hc : c < 256) : bits .or .i64 ((v : Int) * 256) (c : Int) = ((256 * v + c : Nat) : Int) := by
  have e : (v : Int) * 256 = ((v * 256 : Nat) : Int) := by omega
  rw [e, i64_or_nat _ _ (by omega) (by omega), nat_join 8 _ _ (by show v * 256 % 256 = 0; omega) (by omega), Nat.mul_comm]
theorem valN_snoc (p : List UInt8) (k : Nat) (hk : k < p.length) (v : Nat) : valN v (p.take (k + 1)) = 256 * valN v (p.take k) + (p[k]).toNat := by
  unfold valN
  rw [List.take_succ_eq_append_getElem hk, List.foldl_append]
  rfl

/-- A reader in block D that has the bytes l left. -/
structure Rdr (w : World) (D : Nat) (sv : Value) (l : List UInt8) : Prop where
  blk : w.heap[D]? = some (.cells #[sv] 89 (0, 0))
  byz : Byz w sv l
  ne : l ≠ [] → sv.ownBlock ≠ some D
theorem Rdr.lt {w : World} {D : Nat} {sv : Value} {l : List UInt8} (h : Rdr w D sv l) : D < w.heap.size := (Array.getElem?_eq_some_iff.1 h.blk).1
theorem Rdr.below {w w' : World} {D : Nat} {sv : Value} {l : List UInt8} (h : Rdr w D sv l) (hb : Below w.heap.size w w') : Rdr w' D sv l := ⟨(hb.block D h.lt).trans h.blk, h.byz.below hb, h.ne⟩
def numV (n : Nat) (l : List UInt8) : Nat := if l.length < n then 0 else valN 0 (l.take n)
def restV (n : Nat) (l : List UInt8) : List UInt8 := if l.length < n then l else l.drop n
/-- What number tells. -/
def NumR (w : World) (D n : Nat) (sv : Value) (l : List UInt8) (e : Ending) (w' : World) : Prop := ∃ sv', e = .returned (.int .i64 (numV n l : Int)) ∧ Rdr w' D sv' (restV n l) ∧ sv'.ownBlock = sv.ownBlock ∧ Fr (· = D) w w'
set_option maxHeartbeats 4000000 in
set_option maxRecDepth 100000 in
theorem number_any (w : World) (D : Nat) (sv : Value) (l : List UInt8) (n : Nat) (h : Rdr w D sv l) (hn4 : n ≤ 4) (hn1 : 1 ≤ n) (hl : l.length ≤ 9223372036854775807) :
    Calls Try.prog 38 #[.pointer (some ⟨D, 0, none⟩), .int .i64 (n : Int)] w (NumR w D n sv l) := by
  have c0 : w.cell? ⟨D, 0, none⟩ = some sv := cell_of_row _ _ _ _ _ _ h.blk
  have f0 : w.frozen? ⟨D, 0, none⟩ = false := frozen_of_row _ _ _ _ _ h.blk
  obtain ⟨sa, sc, rfl⟩ := h.byz.1
  by_cases hs : l.length < n
  · have HE : Hid (NumR w D n (.slice sa l.length sc) l (.returned (.int .i64 0)) w) := Lib.hid ⟨_, by unfold numV; rw [if_pos hs]; rfl, by unfold restV; rw [if_pos hs]; exact h, rfl, Fr.refl _ _⟩
    have hs' : (l.length : Int) < (n : Int) := by omega
    clear h
    go_enter Try.func38, Try.ntmps38
    go_wp2
    go_ret
    exact HE.out
  · have hne : l ≠ [] := fun e => by subst e; simp at hs; omega
    have hb := h.byz.2 hne
    obtain ⟨g, off, cap, e1, hcap, hg, hc⟩ := hb.cell (by omega)
    cases e1
    have hnl : n ≤ l.length := by omega
    obtain ⟨p, hp⟩ : ∃ p, l.take n = p := ⟨_, rfl⟩
    have hlen : p.length = n := by rw [← hp, List.length_take]; omega
    have hcp : ∀ j (hj : j < n), w.cell? ⟨g, off + j, none⟩ = some (.int .u8 ((p[j]'(by omega)).toNat : Int)) := fun j hj => by
      rw [hc j (by omega)]
      simp only [← hp, List.getElem_take]
    have hct := run_cut_to (P := Try.prog) w 34 5 Try.underlying34 (fun w => by kernel_rfl) (some ⟨g, off, none⟩) l.length sc n (by omega)
    have hcut : cutA (some ⟨g, off, none⟩) 0 sc = some ⟨g, off, none⟩ := by
      unfold cutA
      split
      · rfl
      · simp [addr_plus]
    rw [hcut] at hct
    have hcf := run_cut_from (P := Try.prog) w 34 5 Try.underlying34 (fun w => by kernel_rfl) (some ⟨g, off, none⟩) l.length sc n hnl
    obtain ⟨W, hW⟩ : ∃ W, w.setCell ⟨D, 0, none⟩ (.slice (cutA (some ⟨g, off, none⟩) n sc) (l.length - n) (sc - n)) = W := ⟨_, rfl⟩
    have hfr : Fr (· = D) w W := by rw [← hW]; exact (Fr.refl (· = D) w).setCell ⟨D, 0, none⟩ (Or.inl rfl) _
    have hob : (Value.slice (cutA (some ⟨g, off, none⟩) n sc) (l.length - n) (sc - n)).ownBlock = (Value.slice (some ⟨g, off, none⟩) l.length sc).ownBlock := cut_block _ _ _ _ _ _ _
    have hgd : g ≠ D := fun e => h.ne hne (by rw [e]; rfl)
    have HE : Hid (NumR w D n (.slice (some ⟨g, off, none⟩) l.length sc) l (.returned (.int .i64 (valN 0 p : Int))) W) := Lib.hid ⟨_, by unfold numV; rw [if_neg hs, hp], by
      unfold restV
      rw [if_neg hs]
      refine ⟨by rw [← hW]; exact heap_setCell_same w D 0 _ _ _ h.blk, ?_, fun hr e => ?_⟩
      · have hb2 := hb.cut n l.length sc hnl (Nat.le_refl _) hcap (Nat.le_refl _)
        rw [List.take_of_length_le (by rw [List.length_drop]; omega)] at hb2
        exact (hb2.kept hfr.size (fun k hk => hfr.block k (hb.lt k (by rw [← hob]; exact hk)) (fun e => by rw [hob] at hk; simp [Value.ownBlock] at hk; omega))).z
      · rw [hob] at e
        simp [Value.ownBlock] at e
        omega, hob, hfr⟩
    have hs' : ¬ (l.length : Int) < (n : Int) := by omega
    have HCP := Lib.hid hcp
    have HW := Lib.hid hW
    have HPL := Lib.hid hlen
    clear h hb hc hcp hfr hob hW hp hcap hg
    go_enter Try.func38, Try.ntmps38
    go_wp2_with fail
    go_loop [5, 7, 22] (fun nv _ iv => ∃ k : Nat, k ≤ n ∧ iv = .int .i64 (k : Int) ∧ nv = .int .i64 (valN 0 (p.take k) : Int)) (fun _ _ iv => n - (intOf iv).toNat)
    case atStart => exact ⟨0, Nat.zero_le _, rfl, rfl⟩
    case round =>
      obtain ⟨k, hk, rfl, rfl⟩ := hrel
      by_cases hlt : k < n
      · have hck := HCP.out k hlt
        have hlen := HPL.out
        have hbd := valN_bd (p.take k) 0
        have hlk : (p.take k).length = k := by rw [List.length_take]; omega
        rw [hlk] at hbd
        have hp256 : 256 ^ k ≤ 16777216 := by
          have : k = 0 ∨ k = 1 ∨ k = 2 ∨ k = 3 := by omega
          rcases this with rfl | rfl | rfl | rfl <;> decide
        have hb2 : valN 0 (p.take k) < 16777216 := by omega
        have hb3 := (p[k]).toNat_lt
        have hor := or_join _ _ hb2 (show (p[k]).toNat < 256 from hb3)
        have hsn := valN_snoc p k (by omega) 0
        have HV : Hid (bits BinOp.or IntKind.i64 ((valN 0 (p.take k) : Nat) * 256 : Int) ((p[k]).toNat : Int) = ((valN 0 (p.take (k + 1)) : Nat) : Int)) := Lib.hid (by rw [hor, hsn])
        clear hbd hp256 hor hsn
        go_wp2
        go_round
        case rel => exact ⟨k + 1, by omega, by go_num, by rw [HV.out]⟩
        case measure => simp [intOf]; omega
      · have hkn : k = n := by omega
        subst hkn
        have e : p.take k = p := List.take_of_length_le (by have := HPL.out; omega)
        rw [e]
        clear e HPL HCP
        go_wp2_with (first | rw [HW.out])
        go_ret
        exact HE.out
end Go.Proofs.Ytleghofpabdkhaa
