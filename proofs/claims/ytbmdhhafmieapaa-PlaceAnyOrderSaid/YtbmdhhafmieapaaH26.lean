/- Place: PlaceRises. -/
import Derived.Test.YtbmdhhafmieapaaH24
namespace Go.Proofs.Ytbmdhhafmieapaa
open Go Go.RowKit Go.Maps

theorem anyH_skip {P : Program} {ops : Array Oper} {Q : Exit → Act → World → Prop} {md : Region.Mode} {S : World → Prop} (i : Nat) (d : Option Tmp) {oi : Oper} {fuel : Nat} {listed : Array Bool} {a : Act} {w : World} (hi : ops[i]? = some oi) (hd : oi.dst = d)
    (hs : Region.noSelect ops = true) (hf : Region.free md ops listed i = true) (hr : (Region.ready md ops listed).contains i = true)
    (hQ : ∀ c a w, Q (.panic c) (a.put d undef) w → Q (.panic c) a w) (hg : Region.wanted oi (yielded ops a.tmps) = false) (hS : S w)
    (h : wpAnyH P md ops Q S fuel (listed.setIfInBounds i true) (a.put d undef) w) : wpAnyH P md ops Q S (fuel + 1) listed a w := by
  subst hd
  exact wpAnyH_take hi hs hf hr hQ (Or.inr ⟨hg, rfl⟩) hS h
theorem bin_lss (a b : Int) (W : World) : (binOp .lss 3 (.int .i64 a) (.int .i64 b)).run Try.prog W = .ok (.bool (decide (a < b))) W := by
  go_simp
theorem bin_neqS (s : ByteArray) (a b : Int) (W : World) : (binOp .neq 35 (.agg #[.string s, .int .i64 a, .int .i64 b]) (.agg #[.string s, .int .i64 a, .int .i64 b])).run Try.prog W = .ok (.bool false) W := by
  go_simp
theorem bin_eqlE (a b : Int) (W : World) : (binOp .eql 22 (.int .i64 a) (.int .i64 b)).run Try.prog W = .ok (.bool (a == b)) W := by
  go_simp
theorem bin_neqE (a b : Int) (W : World) : (binOp .neq 22 (.int .i64 a) (.int .i64 b)).run Try.prog W = .ok (.bool (a != b)) W := by
  go_simp
section
variable {o : Oper} {a : Act} {w : World}
theorem ex_lssI (t : TypeId) (x y : Operand) (b : Int) (c : Int) (ho : o.op = .binOp .lss 3 x y t) (hx : a.eval x = .int .i64 b) (hy : a.eval y = .int .i64 c) : (execOp a.eval o).run Try.prog w = .ok (.value (.bool (decide (b < c)))) w := by
  unfold execOp
  simp [ho, hx, hy, eqGuard, Sem.run_bind, bin_lss]
theorem ex_eqlE (t : TypeId) (x y : Operand) (b : Int) (c : Int) (ho : o.op = .binOp .eql 22 x y t) (hx : a.eval x = .int .i64 b) (hy : a.eval y = .int .i64 c) : (execOp a.eval o).run Try.prog w = .ok (.value (.bool (b == c))) w := by
  unfold execOp
  simp [ho, hx, hy, eqGuard, Sem.run_bind, bin_eqlE]
theorem ex_neqE (t : TypeId) (x y : Operand) (b : Int) (c : Int) (ho : o.op = .binOp .neq 22 x y t) (hx : a.eval x = .int .i64 b) (hy : a.eval y = .int .i64 c) : (execOp a.eval o).run Try.prog w = .ok (.value (.bool (b != c))) w := by
  unfold execOp
  simp [ho, hx, hy, eqGuard, Sem.run_bind, bin_neqE]
theorem ex_neqS (t : TypeId) (x y : Operand) (s : ByteArray) (b c : Int) (ho : o.op = .binOp .neq 35 x y t) (hx : a.eval x = .agg #[.string s, .int .i64 b, .int .i64 c]) (hy : a.eval y = .agg #[.string s, .int .i64 b, .int .i64 c]) : (execOp a.eval o).run Try.prog w = .ok (.value (.bool false)) w := by
  unfold execOp
  simp only [ho, hx, hy]
  go_simp
end
theorem mem_ins_self (x : Known) : ∀ l : List Known, x ∈ ins x l
  | [] => by simp [ins]
  | y :: t => by
    unfold ins
    split
    · exact List.mem_cons_of_mem _ (mem_ins_self x t)
    · split <;> simp
/-- What a learning makes of a user's seat. -/
theorem rise_fact {l : List Known} (hr : Rising l) (n : Int) (x : Known) :
    (learnE l n x ⟨x.1.toArray⟩ = 0 ∧ seatOf (learnL l n x) ⟨x.1.toArray⟩ n = x ∧ (seatOf l ⟨x.1.toArray⟩ n).2.2 < x.2.2) ∨ (learnE l n x ⟨x.1.toArray⟩ ≠ 0 ∧ learnL l n x = l ∧ seatOf (learnL l n x) ⟨x.1.toArray⟩ n = seatOf l ⟨x.1.toArray⟩ n) := by
  by_cases h : learnE l n x ⟨x.1.toArray⟩ = 0
  · refine Or.inl ⟨h, ?_, ?_⟩
    · unfold learnL seatOf
      rw [if_pos h, show (⟨x.1.toArray⟩ : ByteArray).data.toList = x.1 by simp, find_self (rising_ins x l hr) (mem_ins_self x l)]
      rfl
    · unfold learnE at h
      split at h
      · cases h
      · split at h
        · cases h
        · omega
  · have hl : learnL l n x = l := by unfold learnL; rw [if_neg h]
    exact Or.inr ⟨h, hl, by rw [hl]⟩
/-- The program's map alone. -/
structure One (w0 w : World) (p b : Nat) (n : Int) (k : Nat) (lm : List Known) : Prop where
  bel : Below w0.heap.size w0 w
  lb : w0.heap.size ≤ b
  map : IsMap w p b n k (mapD lm)
  rm : Rising lm
  sm : ∀ x ∈ lm, Sm x
  len : lm.length ≤ k
section
variable {w0 w : World} {p b : Nat} {n : Int} {k : Nat} {lm : List Known}
theorem One.below {w' : World} (h : One w0 w p b n k lm) (hb : Below w.heap.size w w') : One w0 w' p b n k lm :=
  ⟨h.bel.trans (hb.mono h.bel.size), h.lb, h.map.below hb h.map.lt, h.rm, h.sm, h.len⟩
theorem o_learn (h : One w0 w p b n k lm) (hn : 1 ≤ n ∧ n ≤ 4) (x : Known) (hx : Sm x) (hk : k ≤ 100000) :
    Calls Try.prog 17 #[.pointer (some ⟨p, 0, none⟩), .agg #[.string ⟨x.1.toArray⟩, .int .i64 x.2.1, .int .i64 x.2.2]] w fun e w' => e = .returned (.int .i64 (learnE lm n x ⟨x.1.toArray⟩)) ∧ One w0 w' p b n (k + 1) (learnL lm n x) ∧ w.grownBy w' (some b) := by
  have hsz : (⟨x.1.toArray⟩ : ByteArray).size ≤ 140737488355000 := by have := hx.u; rw [Lib.size_eq]; simp; omega
  have hlt := h.map.lt
  refine (learn_any p b w0.heap.size n k lm ⟨x.1.toArray⟩ x.2.1 x.2.2 w hsz hn hx.s hx.e h.map (fun y hy => by have := (h.sm y hy).u; omega) h.lb (by omega)).mono ?_
  rintro e w' ⟨rfl, ⟨hb, hg⟩, hbad, hgood⟩
  have hxx : (((⟨x.1.toArray⟩ : ByteArray).data.toList, x.2.1, x.2.2) : Known) = x := by obtain ⟨a, c, d⟩ := x; simp
  rw [hxx] at hbad hgood ⊢
  have hmap : IsMap w' p b n (k + 1) (mapD (learnL lm n x)) := by
    unfold learnL
    split
    · rename_i h0
      have := hgood h0
      rwa [putK_ins h.rm x] at this
    · rename_i h0
      exact (hbad h0).mono (Nat.le_succ _)
  exact ⟨rfl, ⟨h.bel.trans hb, h.lb, hmap, learnL_rising h.rm n x, learnL_sm h.sm hx n, by have := learnL_len lm n x; have := h.len; omega⟩, hg⟩
theorem o_seats (h : One w0 w p b n k lm) (hk : k ≤ 1000) : Calls Try.prog 19 #[.pointer (some ⟨p, 0, none⟩)] w (Gave (· = lm) w) := seats_any p b n k lm w h.map h.rm (by have := h.len; omega)
theorem o_seat (h : One w0 w p b n k lm) (hn : 1 ≤ n ∧ n ≤ 4) (u : ByteArray) (hu : u.size ≤ 140737488351232) :
    Calls Try.prog 14 #[.pointer (some ⟨p, 0, none⟩), .string u] w fun e w' => e = .returned (.tuple #[seatV (seatOf lm u n), .int .i64 0]) ∧ Below w.heap.size w w' :=
  seat_any p b n k lm u w (by omega) hn h.map (fun x hx => by have := (h.sm x hx).u; omega)
end
theorem one_new {w w1 : World} {n : Int} (b1 : Below w.heap.size w w1) (hm : IsMap w1 (w.heap.size + 1) w.heap.size n 0 (.map [])) : One w w1 (w.heap.size + 1) w.heap.size n 0 [] :=
  ⟨b1, Nat.le_refl _, hm, List.Pairwise.nil, fun x hx => (by cases hx), Nat.le_refl _⟩
theorem Three.grown {w w' : World} {g b : Nat} {x y z : Value} (h : Three w g x y z) (hg : w.grownBy w' (some b)) (h1 : g < w.heap.size) (h2 : g ≠ b) : Three w' g x y z := by
  have hb := hg.block g h1 (by intro e; cases e; exact h2 rfl)
  obtain ⟨⟨a0, a1, a2⟩, f0, f1, f2⟩ := h
  exact ⟨⟨(World.cell?_of_block (a := ⟨g, 0, none⟩) hb).trans a0, (World.cell?_of_block (a := ⟨g, 1, none⟩) hb).trans a1, (World.cell?_of_block (a := ⟨g, 2, none⟩) hb).trans a2⟩, (World.frozen?_of_block (a := ⟨g, 0, none⟩) hb).trans f0, (World.frozen?_of_block (a := ⟨g, 1, none⟩) hb).trans f1, (World.frozen?_of_block (a := ⟨g, 2, none⟩) hb).trans f2⟩
theorem Three.load {W : World} {g : Nat} {x : Known} (h : Three W g (.string ⟨x.1.toArray⟩) (.int .i64 x.2.1) (.int .i64 x.2.2)) : (Instr.loadAt 35 (.pointer (some ⟨g, 0, none⟩))).run Try.prog W = .ok (.agg #[.string ⟨x.1.toArray⟩, .int .i64 x.2.1, .int .i64 x.2.2]) W :=
  run_loadAt_mid W g 0 35 (cells3 x) _ (fun i u hu => by
    obtain ⟨⟨a0, a1, a2⟩, _⟩ := h
    rw [Nat.zero_add]
    match i with
    | 0 => cases hu; exact a0
    | 1 => cases hu; exact a1
    | 2 => cases hu; exact a2
    | k + 3 => simp [cells3] at hu) Try.underlying35 rfl (by kernel_rfl)
theorem Three.epoch {W : World} {g : Nat} {x : Known} (h : Three W g (.string ⟨x.1.toArray⟩) (.int .i64 x.2.1) (.int .i64 x.2.2)) : (Instr.loadAt 3 (.pointer (some ⟨g, 2, none⟩))).run Try.prog W = .ok (.int .i64 x.2.2) W := by
  obtain ⟨⟨a0, a1, a2⟩, _⟩ := h
  go_simp
theorem Given.at3 {W : World} {a : Option Addr} {n cap : Nat} {l : List Known} (h : Given W (.slice a n cap) l) (j : Nat) (x : Known) (hj : l[j]? = some x) : Sm x ∧ ∃ g off, a = some ⟨g, off, none⟩ ∧ g < W.heap.size ∧ (∀ W', Below W.heap.size W W' → (Instr.loadAt 35 (.pointer (some ⟨g, off + j * 3, none⟩))).run Try.prog W' = .ok (.agg #[.string ⟨x.1.toArray⟩, .int .i64 x.2.1, .int .i64 x.2.2]) W') ∧ ∀ W', Below W.heap.size W W' → W'.cell? ⟨g, off + j * 3, none⟩ = some (.string ⟨x.1.toArray⟩) := by
  obtain ⟨a', cap', he, _, _, h4⟩ := id h
  cases he
  obtain ⟨q0, g, off, rfl, q2, q3⟩ := h4 j x hj
  obtain ⟨g', off', e, _, q4⟩ := h.load j x hj
  cases e
  exact ⟨q0, _, _, rfl, q2, q4, fun W' hb => (hb.cell (p := ⟨g, off + j * 3, none⟩) q2).trans (q3 0 _ rfl)⟩
theorem Mine.grown {B : Nat} {w w' : World} {v : Value} {l : List Known} {b : Nat} (h : Mine B w v l) (hg : w.grownBy w' (some b)) (hb : b < B) : Full w' v l :=
  h.full.kept hg.size (fun k hk => hg.block k (World.ownsRow.lt h k hk).2 (by have := (World.ownsRow.lt h k hk).1; intro e; cases e; omega))

set_option maxRecDepth 100000 in
set_option maxHeartbeats 6400000 in
theorem walk_rises (c : Nat) (hc : c < 256) (v : Value) (l : List Known) (w0 : World) (hv : Given w0 v l) :
    Calls Try.prog 6 #[.int .u8 (c : Int), v] w0 fun e w' => e = .returned (.bool true) ∧ Below w0.heap.size w0 w' := by
  have HV := Lib.hid hv
  obtain ⟨a, cap, rfl, hcap, hl, _⟩ := hv
  go_enter Try.func6, Try.ntmps6
  go_wp2_with fail
  refine (new_any _ _ (by omega)).mono ?_
  rintro e w1 ⟨rfl, b1, _, hm⟩
  have hN : 1 ≤ 1 + (c : Int) % 4 ∧ 1 + (c : Int) % 4 ≤ 4 := by omega
  have H0 := Lib.hid (one_new b1 hm)
  clear b1 hm hc
  generalize 1 + (c : Int) % 4 = n at *
  have HN := Lib.hid hN
  clear hN
  obtain ⟨p, hp⟩ : ∃ p, w0.heap.size + 1 = p := ⟨_, rfl⟩
  rw [hp] at H0
  rw [hp]
  clear hp
  obtain ⟨b, hb⟩ : ∃ b, w0.heap.size = b := ⟨_, rfl⟩
  have H0 : Hid (∃ m, One w0 w1 p b n 0 m) := Lib.hid ⟨[], hb ▸ H0.out⟩
  clear hb
  go_wp2_with fail
  go_loopw [7] (fun iv wr => ∃ k : Nat, iv = .int .i64 (k : Int) ∧ k ≤ l.length ∧ k ≤ 100 ∧ Hid (∃ m, One w0 wr p b n k m)) (fun iv _ => 100 - (intOf iv).toNat)
  case atStart => exact ⟨0, rfl, Nat.zero_le _, Nat.zero_le _, H0⟩
  case round =>
    clear H0
    obtain ⟨k, rfl, hk, hk2, hH⟩ := hrel
    obtain ⟨m, hO⟩ := hH.out
    have HO := Lib.hid hO
    clear hH hO
    by_cases hgo : k < l.length ∧ k < 100
    · obtain ⟨hkl, hk6⟩ := hgo
      obtain ⟨hsm, g, off, rfl, hg, hld, hc0⟩ := HV.out.at3 k _ (List.getElem?_eq_getElem hkl)
      generalize l[k] = x at *
      have hki : (k : Int) < (l.length : Int) := by omega
      have hki2 : (k : Int) < 100 := by omega
      have hidx : ∀ W, (Instr.indexAt 29 (.slice (some ⟨g, off, none⟩) l.length cap) (.int .i64 (k : Int))).run Try.prog W = .ok (.pointer (some ⟨g, off + k * 3, none⟩)) W := by
        intro W
        have i1 : (0 : Int) ≤ (k : Int) := by omega
        clear hld hsm hc0
        go_simp
      have hus : (⟨x.1.toArray⟩ : ByteArray).size ≤ 140737488351232 := by rw [Lib.size_eq]; simpa using hsm.u
      have LD := Lib.hid hld
      have IDX := Lib.hid hidx
      have HC := Lib.hid hc0
      have US := Lib.hid hus
      have SM := Lib.hid hsm
      have HLEN := Lib.hid HO.out.len
      have RF := Lib.hid (rise_fact HO.out.rm n x)
      have cA := hc0 _ HO.out.bel
      have SA := Lib.hid (o_seat HO.out HN.out ⟨x.1.toArray⟩ hus)
      unfold seatV at SA
      generalize seatOf m ⟨x.1.toArray⟩ n = A at *
      clear hld hidx hc0 hus hsm hcap
      go_wp2_with fail
      refine SA.out.mono ?_
      rintro e w1 ⟨rfl, b1⟩
      have O1 := Lib.hid (HO.out.below b1)
      clear b1 SA HO cA
      have hal := below_alloc w1 (.cells #[.string ⟨A.1.toArray⟩, .int .i64 A.2.1, .int .i64 A.2.2] 35)
      have T1 := Lib.hid (Three.new w1 35 (.string ⟨A.1.toArray⟩) (.int .i64 A.2.1) (.int .i64 A.2.2))
      have O2 := Lib.hid (O1.out.below hal)
      have hbg : b < w1.heap.size := by have := O1.out.map.lt; have := O1.out.map.ne; omega
      go_wp2_with fail
      obtain ⟨w2, hw2⟩ : ∃ w2, w1.alloc (.cells #[.string ⟨A.1.toArray⟩, .int .i64 A.2.1, .int .i64 A.2.2] 35) = w2 := ⟨_, rfl⟩
      have hz2 : w1.heap.size < w2.heap.size := by rw [← hw2]; simp
      rw [hw2] at T1 O2 ⊢
      clear hw2 hal O1
      generalize w1.heap.size = g1 at *
      have HZ := Lib.hid (And.intro hbg hz2)
      clear hbg hz2
      refine (o_seats O2.out (by omega)).mono ?_
      rintro e w3 ⟨hv, ss, rfl, hss, hmn, b3⟩
      rw [hss] at hmn
      clear hss
      have HELD := Lib.hid hmn
      have hz3 : g1 < w3.heap.size := by have := b3.size; have := HZ.out.2; omega
      have T3 := Lib.hid (T1.out.below b3 HZ.out.2)
      have O3 := Lib.hid (O2.out.below b3)
      have hb2 : b < w2.heap.size := by have := HZ.out; omega
      have GR := Lib.hid (fun w4 (h : w3.grownBy w4 (some b)) => (⟨T3.out.grown h hz3 (by have := HZ.out.1; omega), hmn.grown h hb2, Nat.lt_of_lt_of_le hz3 h.size⟩ : Three w4 g1 _ _ _ ∧ Full w4 hv m ∧ g1 < w4.heap.size))
      have hl9 := LD.out w3 O3.out.bel
      have LN := Lib.hid (o_learn O3.out HN.out x SM.out (by omega))
      clear hmn hz3 hb2 T1 O2 T3 HELD b3 HZ O3
      generalize learnE m n x ⟨x.1.toArray⟩ = E at *
      generalize hM : learnL m n x = M at *
      clear hM
      have L9 := Lib.hid hl9
      clear hl9
      go_wp2_with (refine wpList_load_known rfl 35 (.tmp 53) rfl _ _ rfl L9.out ?_)
      refine LN.out.mono ?_
      rintro e w4 ⟨rfl, hO4, hG4⟩
      have O4 := Lib.hid hO4
      obtain ⟨t4, f4, z4⟩ := GR.out _ hG4
      have T4 := Lib.hid t4
      have F4 := Lib.hid f4
      have Z4 := Lib.hid z4
      have cB := HC.out _ hO4.bel
      have SC := Lib.hid (o_seat hO4 HN.out ⟨x.1.toArray⟩ US.out)
      clear hO4 hG4 t4 f4 z4 GR LN L9 w3
      unfold seatV at SC
      generalize seatOf M ⟨x.1.toArray⟩ n = C at *
      go_wp2_with fail
      refine SC.out.mono ?_
      rintro e w5 ⟨rfl, b5⟩
      have O5 := Lib.hid (O4.out.below b5)
      have T5 := Lib.hid (T4.out.below b5 Z4.out)
      have F5 := Lib.hid (F4.out.below b5)
      have Z5 := Lib.hid (Nat.lt_of_lt_of_le Z4.out b5.size)
      clear b5 SC O4 T4 F4 Z4 cB
      have hal := below_alloc w5 (.cells #[.string ⟨C.1.toArray⟩, .int .i64 C.2.1, .int .i64 C.2.2] 35)
      have U6 := Lib.hid (Three.new w5 35 (.string ⟨C.1.toArray⟩) (.int .i64 C.2.1) (.int .i64 C.2.2))
      have O6 := Lib.hid (O5.out.below hal)
      have T6 := Lib.hid (T5.out.below hal Z5.out)
      have F6 := Lib.hid (F5.out.below hal)
      have Z6 := Lib.hid (Nat.lt_of_lt_of_le Z5.out hal.size)
      go_wp2_with fail
      obtain ⟨w6, hw6⟩ : ∃ w6, w5.alloc (.cells #[.string ⟨C.1.toArray⟩, .int .i64 C.2.1, .int .i64 C.2.2] 35) = w6 := ⟨_, rfl⟩
      have hz6 : w5.heap.size < w6.heap.size := by rw [← hw6]; simp
      rw [hw6] at U6 O6 T6 F6 Z6 ⊢
      clear hw6 hal O5 T5 F5 Z5
      generalize w5.heap.size = g2 at *
      have Y6 := Lib.hid hz6
      clear hz6
      have EP1 := Lib.hid (fun W (hW : Below w6.heap.size w6 W) => (T6.out.below hW Z6.out).epoch)
      have EP2 := Lib.hid (fun W (hW : Below w6.heap.size w6 W) => (U6.out.below hW Y6.out).epoch)
      have LD2 := Lib.hid (fun W (hW : Below w6.heap.size w6 W) => (U6.out.below hW Y6.out).load)
      have LD3 := Lib.hid (fun W (hW : Below w6.heap.size w6 W) => LD.out W (O6.out.bel.trans (hW.mono O6.out.bel.size)))
      have SE := Lib.hid (fun W (hW : Below w6.heap.size w6 W) => o_seats (O6.out.below hW) (by omega))
      have SA := Lib.hid (fun W (hW : Below w6.heap.size w6 W) v' (h1 : Full W v' m) => same_any hv v' m W (F6.out.below hW) h1 (by have := HLEN.out; omega))
      have D0 : Hid (Below w6.heap.size w6 w6.drew) := Lib.hid (Below.refl _ w6).drew
      have NX := Lib.hid (fun W (hW : Below w6.heap.size w6 W) => O6.out.below hW)
      clear T6 U6 F6 O6 Z6 Y6 LD HC US SM
      rcases RF.out with ⟨rfl, rfl, hep⟩ | ⟨hE, rfl, rfl⟩
      · clear RF SE SA
        refine wp_region_held_drew (S := Below w6.heap.size w6) (by kernel_rfl) D0.out (fun _ => ?_)
        refine anyH_take 0 (some 66) (.pointer (some ⟨g2, 2, none⟩)) rfl rfl (by kernel_rfl) (by kernel_rfl) (by kernel_rfl) (fun _ _ _ h => h) rfl (fun _ _ => by kernel_rfl) D0.out ?_
        simp only [Act.put, List.setIfInBounds_toArray, List.set_cons_zero, List.set_cons_succ]
        refine anyH_take 1 (some 67) (.int .i64 C.2.2) rfl rfl (by kernel_rfl) (by kernel_rfl) (by kernel_rfl) (fun _ _ _ h => h) rfl (fun W hW => ex_load 3 (.tmp 66) rfl _ _ rfl (EP2.out W hW)) D0.out ?_
        simp only [Act.put, List.setIfInBounds_toArray, List.set_cons_zero, List.set_cons_succ]
        refine anyH_take 2 (some 68) (.pointer (some ⟨g1, 2, none⟩)) rfl rfl (by kernel_rfl) (by kernel_rfl) (by kernel_rfl) (fun _ _ _ h => h) rfl (fun _ _ => by kernel_rfl) D0.out ?_
        simp only [Act.put, List.setIfInBounds_toArray, List.set_cons_zero, List.set_cons_succ]
        refine anyH_take 3 (some 69) (.int .i64 A.2.2) rfl rfl (by kernel_rfl) (by kernel_rfl) (by kernel_rfl) (fun _ _ _ h => h) rfl (fun W hW => ex_load 3 (.tmp 68) rfl _ _ rfl (EP1.out W hW)) D0.out ?_
        simp only [Act.put, List.setIfInBounds_toArray, List.set_cons_zero, List.set_cons_succ]
        refine anyH_take 4 (some 70) (.bool false) rfl rfl (by kernel_rfl) (by kernel_rfl) (by kernel_rfl) (fun _ _ _ h => h) rfl (fun W _ => by rw [ex_lssI _ _ _ C.2.2 A.2.2 rfl rfl rfl, decide_eq_false (by omega)]) D0.out ?_
        simp only [Act.put, List.setIfInBounds_toArray, List.set_cons_zero, List.set_cons_succ]
        refine anyH_take 5 (some 71) (.bool false) rfl rfl (by kernel_rfl) (by kernel_rfl) (by kernel_rfl) (fun _ _ _ h => h) rfl (fun _ _ => rfl) D0.out ?_
        simp only [Act.put, List.setIfInBounds_toArray, List.set_cons_zero, List.set_cons_succ]
        refine anyH_take 6 (some 72) (.int .i64 0) rfl rfl (by kernel_rfl) (by kernel_rfl) (by kernel_rfl) (fun _ _ _ h => h) rfl (fun _ _ => rfl) D0.out ?_
        simp only [Act.put, List.setIfInBounds_toArray, List.set_cons_zero, List.set_cons_succ]
        refine anyH_take 7 (some 73) (.bool true) rfl rfl (by kernel_rfl) (by kernel_rfl) (by kernel_rfl) (fun _ _ _ h => h) rfl (fun W _ => ex_eqlE _ _ _ 0 0 rfl rfl rfl) D0.out ?_
        simp only [Act.put, List.setIfInBounds_toArray, List.set_cons_zero, List.set_cons_succ]
        refine anyH_take 8 (some 74) (.bool true) rfl rfl (by kernel_rfl) (by kernel_rfl) (by kernel_rfl) (fun _ _ _ h => h) rfl (fun _ _ => rfl) D0.out ?_
        simp only [Act.put, List.setIfInBounds_toArray, List.set_cons_zero, List.set_cons_succ]
        refine anyH_take 9 (some 75) (.agg #[.string ⟨C.1.toArray⟩, .int .i64 C.2.1, .int .i64 C.2.2]) rfl rfl (by kernel_rfl) (by kernel_rfl) (by kernel_rfl) (fun _ _ _ h => h) rfl (fun W hW => ex_load 35 (.tmp 12) rfl _ _ rfl (LD2.out W hW)) D0.out ?_
        simp only [Act.put, List.setIfInBounds_toArray, List.set_cons_zero, List.set_cons_succ]
        refine anyH_take 10 (some 76) (.slice (some ⟨g, off, none⟩) l.length cap) rfl rfl (by kernel_rfl) (by kernel_rfl) (by kernel_rfl) (fun _ _ _ h => h) rfl (fun _ _ => rfl) D0.out ?_
        simp only [Act.put, List.setIfInBounds_toArray, List.set_cons_zero, List.set_cons_succ]
        refine anyH_take 11 (some 77) (.int .i64 (k : Int)) rfl rfl (by kernel_rfl) (by kernel_rfl) (by kernel_rfl) (fun _ _ _ h => h) rfl (fun _ _ => rfl) D0.out ?_
        simp only [Act.put, List.setIfInBounds_toArray, List.set_cons_zero, List.set_cons_succ]
        refine anyH_take 12 (some 78) (.pointer (some ⟨g, off + k * 3, none⟩)) rfl rfl (by kernel_rfl) (by kernel_rfl) (by kernel_rfl) (fun _ _ _ h => h) rfl (fun W _ => ex_index 29 (.tmp 76) (.tmp 77) rfl _ _ _ rfl rfl (IDX.out W)) D0.out ?_
        simp only [Act.put, List.setIfInBounds_toArray, List.set_cons_zero, List.set_cons_succ]
        refine anyH_take 13 (some 79) (.agg #[.string ⟨C.1.toArray⟩, .int .i64 C.2.1, .int .i64 C.2.2]) rfl rfl (by kernel_rfl) (by kernel_rfl) (by kernel_rfl) (fun _ _ _ h => h) rfl (fun W hW => ex_load 35 (.tmp 78) rfl _ _ rfl (LD3.out W hW)) D0.out ?_
        simp only [Act.put, List.setIfInBounds_toArray, List.set_cons_zero, List.set_cons_succ]
        refine anyH_take 14 (some 80) (.bool false) rfl rfl (by kernel_rfl) (by kernel_rfl) (by kernel_rfl) (fun _ _ _ h => h) rfl (fun _ _ => ex_neqS _ _ _ _ _ _ rfl rfl rfl) D0.out ?_
        simp only [Act.put, List.setIfInBounds_toArray, List.set_cons_zero, List.set_cons_succ]
        refine anyH_take 15 (some 81) (.bool false) rfl rfl (by kernel_rfl) (by kernel_rfl) (by kernel_rfl) (fun _ _ _ h => h) rfl (fun _ _ => rfl) D0.out ?_
        simp only [Act.put, List.setIfInBounds_toArray, List.set_cons_zero, List.set_cons_succ]
        refine anyH_take 16 (some 82) (.bool false) rfl rfl (by kernel_rfl) (by kernel_rfl) (by kernel_rfl) (fun _ _ _ h => h) rfl (fun _ _ => rfl) D0.out ?_
        simp only [Act.put, List.setIfInBounds_toArray, List.set_cons_zero, List.set_cons_succ]
        refine anyH_take 17 (some 83) (.bool false) rfl rfl (by kernel_rfl) (by kernel_rfl) (by kernel_rfl) (fun _ _ _ h => h) rfl (fun _ _ => rfl) D0.out ?_
        simp only [Act.put, List.setIfInBounds_toArray, List.set_cons_zero, List.set_cons_succ]
        refine anyH_take 18 (some 84) (.int .i64 0) rfl rfl (by kernel_rfl) (by kernel_rfl) (by kernel_rfl) (fun _ _ _ h => h) rfl (fun _ _ => rfl) D0.out ?_
        simp only [Act.put, List.setIfInBounds_toArray, List.set_cons_zero, List.set_cons_succ]
        refine anyH_take 19 (some 85) (.bool false) rfl rfl (by kernel_rfl) (by kernel_rfl) (by kernel_rfl) (fun _ _ _ h => h) rfl (fun W _ => ex_neqE _ _ _ 0 0 rfl rfl rfl) D0.out ?_
        simp only [Act.put, List.setIfInBounds_toArray, List.set_cons_zero, List.set_cons_succ]
        refine anyH_take 20 (some 86) (.bool false) rfl rfl (by kernel_rfl) (by kernel_rfl) (by kernel_rfl) (fun _ _ _ h => h) rfl (fun _ _ => rfl) D0.out ?_
        simp only [Act.put, List.setIfInBounds_toArray, List.set_cons_zero, List.set_cons_succ]
        refine anyH_skip 21 (some 87) rfl rfl (by kernel_rfl) (by kernel_rfl) (by kernel_rfl) (fun _ _ _ h => h) rfl D0.out ?_
        simp only [Act.put, List.setIfInBounds_toArray, List.set_cons_zero, List.set_cons_succ]
        refine anyH_skip 22 (some 88) rfl rfl (by kernel_rfl) (by kernel_rfl) (by kernel_rfl) (fun _ _ _ h => h) rfl D0.out ?_
        simp only [Act.put, List.setIfInBounds_toArray, List.set_cons_zero, List.set_cons_succ]
        refine anyH_skip 23 (some 89) rfl rfl (by kernel_rfl) (by kernel_rfl) (by kernel_rfl) (fun _ _ _ h => h) rfl D0.out ?_
        simp only [Act.put, List.setIfInBounds_toArray, List.set_cons_zero, List.set_cons_succ]
        refine anyH_skip 24 (some 90) rfl rfl (by kernel_rfl) (by kernel_rfl) (by kernel_rfl) (fun _ _ _ h => h) rfl D0.out ?_
        simp only [Act.put, List.setIfInBounds_toArray, List.set_cons_zero, List.set_cons_succ]
        refine anyH_skip 25 (some 91) rfl rfl (by kernel_rfl) (by kernel_rfl) (by kernel_rfl) (fun _ _ _ h => h) rfl D0.out ?_
        simp only [Act.put, List.setIfInBounds_toArray, List.set_cons_zero, List.set_cons_succ]
        refine anyH_take 26 (some 92) (.bool false) rfl rfl (by kernel_rfl) (by kernel_rfl) (by kernel_rfl) (fun _ _ _ h => h) rfl (fun _ _ => rfl) D0.out ?_
        simp only [Act.put, List.setIfInBounds_toArray, List.set_cons_zero, List.set_cons_succ]
        refine anyH_take 27 (some 93) (.bool false) rfl rfl (by kernel_rfl) (by kernel_rfl) (by kernel_rfl) (fun _ _ _ h => h) rfl (fun _ _ => rfl) D0.out ?_
        simp only [Act.put, List.setIfInBounds_toArray, List.set_cons_zero, List.set_cons_succ]
        refine wpAnyH_done (by kernel_rfl) ?_ _
        have D0' := D0.out
        clear D0 EP1 EP2 LD2 LD3
        have NX := Lib.hid (NX.out _ D0')
        go_wp2
        go_roundw
        case rel => exact ⟨k + 1, by go_num, by omega, by omega, Lib.hid ⟨M, NX.out⟩⟩
        case measure => simp [intOf]; omega
      · clear RF
        refine wp_region_held_drew (S := Below w6.heap.size w6) (by kernel_rfl) D0.out (fun _ => ?_)
        refine anyH_take 0 (some 66) (.pointer (some ⟨g2, 2, none⟩)) rfl rfl (by kernel_rfl) (by kernel_rfl) (by kernel_rfl) (fun _ _ _ h => h) rfl (fun _ _ => by kernel_rfl) D0.out ?_
        simp only [Act.put, List.setIfInBounds_toArray, List.set_cons_zero, List.set_cons_succ]
        refine anyH_take 1 (some 67) (.int .i64 C.2.2) rfl rfl (by kernel_rfl) (by kernel_rfl) (by kernel_rfl) (fun _ _ _ h => h) rfl (fun W hW => ex_load 3 (.tmp 66) rfl _ _ rfl (EP2.out W hW)) D0.out ?_
        simp only [Act.put, List.setIfInBounds_toArray, List.set_cons_zero, List.set_cons_succ]
        refine anyH_take 2 (some 68) (.pointer (some ⟨g1, 2, none⟩)) rfl rfl (by kernel_rfl) (by kernel_rfl) (by kernel_rfl) (fun _ _ _ h => h) rfl (fun _ _ => by kernel_rfl) D0.out ?_
        simp only [Act.put, List.setIfInBounds_toArray, List.set_cons_zero, List.set_cons_succ]
        refine anyH_take 3 (some 69) (.int .i64 C.2.2) rfl rfl (by kernel_rfl) (by kernel_rfl) (by kernel_rfl) (fun _ _ _ h => h) rfl (fun W hW => ex_load 3 (.tmp 68) rfl _ _ rfl (EP1.out W hW)) D0.out ?_
        simp only [Act.put, List.setIfInBounds_toArray, List.set_cons_zero, List.set_cons_succ]
        refine anyH_take 4 (some 70) (.bool false) rfl rfl (by kernel_rfl) (by kernel_rfl) (by kernel_rfl) (fun _ _ _ h => h) rfl (fun W _ => by rw [ex_lssI _ _ _ C.2.2 C.2.2 rfl rfl rfl, decide_eq_false (by omega)]) D0.out ?_
        simp only [Act.put, List.setIfInBounds_toArray, List.set_cons_zero, List.set_cons_succ]
        refine anyH_take 5 (some 71) (.bool false) rfl rfl (by kernel_rfl) (by kernel_rfl) (by kernel_rfl) (fun _ _ _ h => h) rfl (fun _ _ => rfl) D0.out ?_
        simp only [Act.put, List.setIfInBounds_toArray, List.set_cons_zero, List.set_cons_succ]
        refine anyH_take 6 (some 72) (.int .i64 E) rfl rfl (by kernel_rfl) (by kernel_rfl) (by kernel_rfl) (fun _ _ _ h => h) rfl (fun _ _ => rfl) D0.out ?_
        simp only [Act.put, List.setIfInBounds_toArray, List.set_cons_zero, List.set_cons_succ]
        refine anyH_take 7 (some 73) (.bool false) rfl rfl (by kernel_rfl) (by kernel_rfl) (by kernel_rfl) (fun _ _ _ h => h) rfl (fun W _ => by rw [ex_eqlE _ _ _ E 0 rfl rfl rfl, beq_eq_false_iff_ne.2 hE]) D0.out ?_
        simp only [Act.put, List.setIfInBounds_toArray, List.set_cons_zero, List.set_cons_succ]
        refine anyH_take 8 (some 74) (.bool false) rfl rfl (by kernel_rfl) (by kernel_rfl) (by kernel_rfl) (fun _ _ _ h => h) rfl (fun _ _ => rfl) D0.out ?_
        simp only [Act.put, List.setIfInBounds_toArray, List.set_cons_zero, List.set_cons_succ]
        refine anyH_skip 9 (some 75) rfl rfl (by kernel_rfl) (by kernel_rfl) (by kernel_rfl) (fun _ _ _ h => h) rfl D0.out ?_
        simp only [Act.put, List.setIfInBounds_toArray, List.set_cons_zero, List.set_cons_succ]
        refine anyH_skip 10 (some 76) rfl rfl (by kernel_rfl) (by kernel_rfl) (by kernel_rfl) (fun _ _ _ h => h) rfl D0.out ?_
        simp only [Act.put, List.setIfInBounds_toArray, List.set_cons_zero, List.set_cons_succ]
        refine anyH_skip 11 (some 77) rfl rfl (by kernel_rfl) (by kernel_rfl) (by kernel_rfl) (fun _ _ _ h => h) rfl D0.out ?_
        simp only [Act.put, List.setIfInBounds_toArray, List.set_cons_zero, List.set_cons_succ]
        refine anyH_skip 12 (some 78) rfl rfl (by kernel_rfl) (by kernel_rfl) (by kernel_rfl) (fun _ _ _ h => h) rfl D0.out ?_
        simp only [Act.put, List.setIfInBounds_toArray, List.set_cons_zero, List.set_cons_succ]
        refine anyH_skip 13 (some 79) rfl rfl (by kernel_rfl) (by kernel_rfl) (by kernel_rfl) (fun _ _ _ h => h) rfl D0.out ?_
        simp only [Act.put, List.setIfInBounds_toArray, List.set_cons_zero, List.set_cons_succ]
        refine anyH_skip 14 (some 80) rfl rfl (by kernel_rfl) (by kernel_rfl) (by kernel_rfl) (fun _ _ _ h => h) rfl D0.out ?_
        simp only [Act.put, List.setIfInBounds_toArray, List.set_cons_zero, List.set_cons_succ]
        refine anyH_take 15 (some 81) (.bool false) rfl rfl (by kernel_rfl) (by kernel_rfl) (by kernel_rfl) (fun _ _ _ h => h) rfl (fun _ _ => rfl) D0.out ?_
        simp only [Act.put, List.setIfInBounds_toArray, List.set_cons_zero, List.set_cons_succ]
        refine anyH_take 16 (some 82) (.bool false) rfl rfl (by kernel_rfl) (by kernel_rfl) (by kernel_rfl) (fun _ _ _ h => h) rfl (fun _ _ => rfl) D0.out ?_
        simp only [Act.put, List.setIfInBounds_toArray, List.set_cons_zero, List.set_cons_succ]
        refine anyH_take 17 (some 83) (.bool false) rfl rfl (by kernel_rfl) (by kernel_rfl) (by kernel_rfl) (fun _ _ _ h => h) rfl (fun _ _ => rfl) D0.out ?_
        simp only [Act.put, List.setIfInBounds_toArray, List.set_cons_zero, List.set_cons_succ]
        refine anyH_take 18 (some 84) (.int .i64 E) rfl rfl (by kernel_rfl) (by kernel_rfl) (by kernel_rfl) (fun _ _ _ h => h) rfl (fun _ _ => rfl) D0.out ?_
        simp only [Act.put, List.setIfInBounds_toArray, List.set_cons_zero, List.set_cons_succ]
        refine anyH_take 19 (some 85) (.bool true) rfl rfl (by kernel_rfl) (by kernel_rfl) (by kernel_rfl) (fun _ _ _ h => h) rfl (fun W _ => by rw [ex_neqE _ _ _ E 0 rfl rfl rfl, bne_iff_ne.2 hE]) D0.out ?_
        simp only [Act.put, List.setIfInBounds_toArray, List.set_cons_zero, List.set_cons_succ]
        refine anyH_take 20 (some 86) (.bool true) rfl rfl (by kernel_rfl) (by kernel_rfl) (by kernel_rfl) (fun _ _ _ h => h) rfl (fun _ _ => rfl) D0.out ?_
        simp only [Act.put, List.setIfInBounds_toArray, List.set_cons_zero, List.set_cons_succ]
        refine anyH_take 21 (some 87) (hv) rfl rfl (by kernel_rfl) (by kernel_rfl) (by kernel_rfl) (fun _ _ _ h => h) rfl (fun _ _ => rfl) D0.out ?_
        simp only [Act.put, List.setIfInBounds_toArray, List.set_cons_zero, List.set_cons_succ]
        refine anyH_take 22 (some 88) (.pointer (some ⟨p, 0, none⟩)) rfl rfl (by kernel_rfl) (by kernel_rfl) (by kernel_rfl) (fun _ _ _ h => h) rfl (fun _ _ => rfl) D0.out ?_
        simp only [Act.put, List.setIfInBounds_toArray, List.set_cons_zero, List.set_cons_succ]
        refine anyH_oneG 23 (by kernel_rfl) rfl rfl (fun K hK => ?_)
        refine wp_callsX (some 89) rfl 19 _ (ex_call1 19 (.tmp 88) _ rfl _ rfl (fun _ _ => rfl)) (fun w' v' => Full w' v' M ∧ Below w6.heap.size w6 w') ((SE.out _ D0.out).mono fun e w' ⟨v', ss, h1, h2, h3, h4⟩ => ⟨v', h1, h2 ▸ h3.full, D0.out.trans (h4.mono D0.out.size)⟩) (fun W1 sv hR1 => hK _ _ hR1.2 ?_)
        clear hK K
        simp only [Act.put, List.setIfInBounds_toArray, List.set_cons_zero, List.set_cons_succ]
        have FU := Lib.hid hR1.1
        have D1 := Lib.hid hR1.2
        clear hR1
        refine anyH_oneG 24 (by kernel_rfl) rfl rfl (fun K hK => ?_)
        refine wp_calls (some 90) rfl 18 _ (ex_call2 18 (.tmp 87) (.tmp 89) _ rfl _ _ rfl rfl (fun _ _ => rfl)) (.bool true) (fun w' => Below w6.heap.size w6 w') ((SA.out _ D1.out _ FU.out).mono fun e w' h => ⟨h.1, D1.out.trans (h.2.mono D1.out.size)⟩) (fun W1 hR1 => hK _ _ hR1 ?_)
        clear hK K
        simp only [Act.put, List.setIfInBounds_toArray, List.set_cons_zero, List.set_cons_succ]
        have D2 := Lib.hid hR1
        clear hR1 FU
        refine anyH_take 25 (some 91) (.bool false) rfl rfl (by kernel_rfl) (by kernel_rfl) (by kernel_rfl) (fun _ _ _ h => h) rfl (fun _ _ => by kernel_rfl) D2.out ?_
        simp only [Act.put, List.setIfInBounds_toArray, List.set_cons_zero, List.set_cons_succ]
        refine anyH_take 26 (some 92) (.bool false) rfl rfl (by kernel_rfl) (by kernel_rfl) (by kernel_rfl) (fun _ _ _ h => h) rfl (fun _ _ => rfl) D2.out ?_
        simp only [Act.put, List.setIfInBounds_toArray, List.set_cons_zero, List.set_cons_succ]
        refine anyH_take 27 (some 93) (.bool false) rfl rfl (by kernel_rfl) (by kernel_rfl) (by kernel_rfl) (fun _ _ _ h => h) rfl (fun _ _ => rfl) D2.out ?_
        simp only [Act.put, List.setIfInBounds_toArray, List.set_cons_zero, List.set_cons_succ]
        refine wpAnyH_done (by kernel_rfl) ?_ _
        clear EP1 EP2 LD2 LD3 SE SA D0 D1
        have NX := Lib.hid (NX.out _ D2.out)
        clear D2
        go_wp2
        go_roundw
        case rel => exact ⟨k + 1, by go_num, by omega, by omega, Lib.hid ⟨_, NX.out⟩⟩
        case measure => simp [intOf]; omega
    · have hgo' : ¬ (k : Int) < (l.length : Int) ∨ (k : Int) < (l.length : Int) ∧ ¬ (k : Int) < 100 := by omega
      clear hgo HV
      rcases hgo' with hq | ⟨hq, hq2⟩
      all_goals
        go_wp2_with fail
        refine (live_any _).mono ?_
        rintro e w4 ⟨rfl, b4⟩
        have FIN := Lib.hid (HO.out.bel.trans (b4.mono HO.out.bel.size))
        clear b4 HO
        go_wp2
        go_ret
        exact ⟨rfl, FIN.out⟩
end Go.Proofs.Ytbmdhhafmieapaa
