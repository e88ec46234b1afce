/- The reference's Learn: the walk. -/
import Derived.Test.YtbmdhhafmieapaaH11
namespace Go.Proofs.Ytbmdhhafmieapaa
open Go Go.RowKit Go.Maps

def RefPost (w : World) (q : Nat) (n : Int) (v : Value) (l : List Known) (x : Known) (u : ByteArray) (e : Ending) (w' : World) : Prop :=
  e = .returned (.int .i64 (learnE l n x u)) ∧ w.grownBy w' (some q) ∧ (learnE l n x u ≠ 0 → RefOwn w' q n v l) ∧ (learnE l n x u = 0 → ∃ v', RefOwn w' q n v' (ins x l))
theorem ref_bad {w w' : World} {q : Nat} {n : Int} {v : Value} {l : List Known} {x : Known} {u : ByteArray} {c : Int} (hc : learnE l n x u = c) (h0 : c ≠ 0) (hm : RefOwn w q n v l) (hb : Below w.heap.size w w') :
    RefPost w q n v l x u (.returned (.int .i64 c)) w' :=
  ⟨by rw [hc], grown_of_below hb _, fun _ => hm.below hb, fun h => absurd (hc.symm.trans h) h0⟩
theorem ref_good {w w9 : World} {q : Nat} {n : Int} {v v9 : Value} {l : List Known} {x : Known} {u : ByteArray} (hc : learnE l n x u = 0) (hm : RefOwn w q n v l) (hb : Below w.heap.size w w9) (own : Mine w.heap.size w9 v9 (ins x l)) :
    RefPost w q n v l x u (.returned (.int .i64 0)) (w9.setCell ⟨q, 1, none⟩ v9) := by
  have h9 := hm.below hb
  have hq := hm.lt
  have hne : v9.ownBlock = none ∨ v9.ownBlock ≠ some q := by
    cases hk : v9.ownBlock with
    | none => exact Or.inl rfl
    | some k =>
      have := (own.lt k hk).1
      exact Or.inr (by intro e; injection e with e; omega)
  have hg : w9.grownBy (w9.setCell ⟨q, 1, none⟩ v9) (some q) := ⟨rfl, rfl, rfl, by simp, fun k _ hk => by
    have hk : k ≠ q := fun e => hk (by rw [e])
    exact heap_setCell_other w9 _ _ _ hk⟩
  have hins : ins x l ≠ [] := by rw [ins_splice]; simp
  refine ⟨by rw [hc], ⟨hb.os, hb.tape, hb.output, Nat.le_trans hb.size hg.size, fun k hk hkq => (hg.block k (Nat.lt_of_lt_of_le hk hb.size) hkq).trans (hb.block k hk)⟩, fun h => absurd hc h, fun _ => ⟨v9, ?_⟩⟩
  have hc0 : (w9.setCell ⟨q, 1, none⟩ v9).cell? ⟨q, 0, none⟩ = some (.int .i64 n) := by
    refine Eq.trans (World.cell?_setCell_other (h := ?_) ..) h9.c0
    intro e
    injection e with _ e
    cases e
  exact ⟨hc0, World.cell?_setCell_same w9 _ v9 h9.c1, by rw [World.frozen?_setCell]; exact h9.free, World.ownsRow.mono (World.ownsRow.kept own hg hne) (Nat.zero_le _), (by rcases hne with h | h; (rw [h]; simp); exact h), fun e => absurd e hins⟩

set_option maxHeartbeats 4000000 in
set_option maxRecDepth 100000 in
theorem refLearn (q : Nat) (n : Int) (v : Value) (l : List Known) (u : ByteArray) (s e : Int) (w : World) (hu : u.size ≤ 140737488355000) (hn : 1 ≤ n ∧ n ≤ 4) (hm : RefOwn w q n v l) (hr : Rising l) (hl : l.length ≤ 1000) :
    Calls Try.prog 22 #[.pointer (some ⟨q, 0, none⟩), .agg #[.string u, .int .i64 s, .int .i64 e]] w (RefPost w q n v l (u.data.toList, s, e) u) := by
  have t0 := Three.new w 35 (.string u) (.int .i64 s) (.int .i64 e)
  have b0 := (Below.refl w.heap.size w).alloc (Nat.le_refl _) (.cells #[.string u, .int .i64 s, .int .i64 e] 35)
  have hm0 := hm.below b0
  have c0 := hm0.c0
  have hq := hm.lt
  obtain ⟨⟨d0, d1, d2⟩, _⟩ := id t0
  by_cases hbad : s < 0 ∨ n ≤ s ∨ e < 1
  · have hE : learnE l n (u.data.toList, s, e) u = 2 := by unfold learnE; rw [if_pos hbad]
    have hcase : s < 0 ∨ (¬ s < 0 ∧ n ≤ s) ∨ (¬ s < 0 ∧ ¬ n ≤ s ∧ e < 1) := by omega
    have HE := Lib.hid hE
    clear hE hbad hl
    rcases hcase with h1 | ⟨h1, h2⟩ | ⟨h1, h2, h3⟩
    all_goals
      go_enter Try.func22, Try.ntmps22
      go_wp2_with fail
      go_quiet (fail)
      go_wp2
      go_ret
      exact ref_bad HE.out (by omega) hm (b0.trans (by exact ⟨rfl, rfl, rfl, Nat.le_refl _, fun _ _ => rfl⟩))
  · have g1 : ¬ s < 0 := by omega
    have g2 : ¬ n ≤ s := by omega
    have g3 : ¬ e < 1 := by omega
    have hS : ∀ W, RefOwn W q n v l → Calls Try.prog 15 #[.pointer (some ⟨q, 0, none⟩), .string u] W fun e w' => e = .returned (.tuple #[seatV (seatOf l u n), .int .i64 0]) ∧ Below W.heap.size W w' := by
      intro W hW
      obtain ⟨a, cap, g, _, hR⟩ := hW.map
      rw [← refSeatOf_eq hr]
      exact refSeat q g cap n a l u W hu hn hR (by omega)
    have hP : ∀ W, RefOwn W q n v l → Calls Try.prog 25 #[.pointer (some ⟨q, 0, none⟩), .string u] W fun e w' => e = .returned (.tuple #[.int .i64 (idx l u.data.toList : Nat), .bool (isK l u.data.toList)]) ∧ Below W.heap.size W w' := by
      intro W hW
      obtain ⟨a, cap, g, _, hR⟩ := hW.map
      exact refPlace q g cap n a l u W hR (by omega)
    have hE0 : learnE l n (u.data.toList, s, e) u = if e ≤ (seatOf l u n).2.2 then 12 else if (findK l u.data.toList).isNone = true ∧ 64 ≤ l.length then 8 else 0 := by unfold learnE; rw [if_neg hbad]
    generalize seatOf l u n = st at *
    by_cases hst : e ≤ st.2.2
    · rw [if_pos hst] at hE0
      have HE := Lib.hid hE0
      clear hE0 hbad hl hP
      go_enter Try.func22, Try.ntmps22
      go_wp2_with fail
      go_quiet (fail)
      have bq : Below w.heap.size w ((w.alloc (.cells #[.string u, .int .i64 s, .int .i64 e] 35)).drewN nq) := b0.trans ⟨rfl, rfl, rfl, Nat.le_refl _, fun _ _ => rfl⟩
      have tq : Three ((w.alloc (.cells #[.string u, .int .i64 s, .int .i64 e] 35)).drewN nq) w.heap.size (.string u) (.int .i64 s) (.int .i64 e) := t0
      have hzq : w.heap.size < ((w.alloc (.cells #[.string u, .int .i64 s, .int .i64 e] 35)).drewN nq).heap.size := by show w.heap.size < (w.alloc _).heap.size; simp
      have hmq := hm.below bq
      generalize (w.alloc (.cells #[.string u, .int .i64 s, .int .i64 e] 35)).drewN nq = wq at *
      obtain ⟨⟨y0, y1, y2⟩, _⟩ := id tq
      clear c0 d0 d1 d2
      go_wp2_with fail
      refine (hS _ hmq).mono ?_
      rintro e1 w1 ⟨rfl, b1⟩
      have hz1 := b1.size
      have hzz : w.heap.size < w1.heap.size := by omega
      have t1 := tq.below b1 hzq
      have b1a := (Below.refl w1.heap.size w1).alloc (Nat.le_refl _) (.cells #[.string ⟨st.1.toArray⟩, .int .i64 st.2.1, .int .i64 st.2.2] 35)
      obtain ⟨⟨x0, x1, x2⟩, _⟩ := t1.below b1a hzz
      obtain ⟨⟨k0, k1, k2⟩, _⟩ := Three.new w1 35 (.string ⟨st.1.toArray⟩) (.int .i64 st.2.1) (.int .i64 st.2.2)
      have B1 := bq.trans (b1.mono bq.size)
      unfold seatV
      go_wp2
      go_ret
      exact ref_bad HE.out (by omega) hm (B1.alloc B1.size _)
    · rw [if_neg hst] at hE0
      have HE := Lib.hid hE0
      clear hE0 hbad
      go_enter Try.func22, Try.ntmps22
      go_wp2_with fail
      go_quiet (fail)
      have bq : Below w.heap.size w ((w.alloc (.cells #[.string u, .int .i64 s, .int .i64 e] 35)).drewN nq) := b0.trans ⟨rfl, rfl, rfl, Nat.le_refl _, fun _ _ => rfl⟩
      have tq : Three ((w.alloc (.cells #[.string u, .int .i64 s, .int .i64 e] 35)).drewN nq) w.heap.size (.string u) (.int .i64 s) (.int .i64 e) := t0
      have hzq : w.heap.size < ((w.alloc (.cells #[.string u, .int .i64 s, .int .i64 e] 35)).drewN nq).heap.size := by show w.heap.size < (w.alloc _).heap.size; simp
      have hmq := hm.below bq
      generalize (w.alloc (.cells #[.string u, .int .i64 s, .int .i64 e] 35)).drewN nq = wq at *
      obtain ⟨⟨y0, y1, y2⟩, _⟩ := id tq
      clear c0 d0 d1 d2
      go_wp2_with fail
      refine (hS _ hmq).mono ?_
      rintro e1 w1 ⟨rfl, b1⟩
      have hz1 := b1.size
      have hzz : w.heap.size < w1.heap.size := by omega
      have t1 := tq.below b1 hzq
      have b1a := (Below.refl w1.heap.size w1).alloc (Nat.le_refl _) (.cells #[.string ⟨st.1.toArray⟩, .int .i64 st.2.1, .int .i64 st.2.2] 35)
      have t2 := t1.below b1a hzz
      obtain ⟨⟨x0, x1, x2⟩, _⟩ := id t2
      obtain ⟨⟨k0, k1, k2⟩, _⟩ := Three.new w1 35 (.string ⟨st.1.toArray⟩) (.int .i64 st.2.1) (.int .i64 st.2.2)
      have B1 := bq.trans (b1.mono bq.size)
      have B2 := B1.alloc B1.size (.cells #[.string ⟨st.1.toArray⟩, .int .i64 st.2.1, .int .i64 st.2.2] 35)
      have hm2 := hm.below B2
      have hz2 : w.heap.size < (w1.alloc (.cells #[.string ⟨st.1.toArray⟩, .int .i64 st.2.1, .int .i64 st.2.2] 35)).heap.size := by simp; omega
      unfold seatV
      clear hmq hm0 hS
      go_wp2_with fail
      refine (hP _ hm2).mono ?_
      rintro e3 w3 ⟨rfl, b3⟩
      have B3 := B2.trans (b3.mono B2.size)
      have t3 := t2.below b3 hz2
      have hz3 : w.heap.size < w3.heap.size := by have := b3.size; omega
      have hm3 := hm.below B3
      have hI : (findK l u.data.toList).isNone = !isK l u.data.toList := by rw [← isSome_isK hr]; cases findK l u.data.toList <;> rfl
      have hIs := ins_splice (u.data.toList, s, e) l
      have hile := idx_le l u.data.toList
      obtain ⟨a, cap, g, rfl, _⟩ := hm3.map
      have c1 := hm3.c1
      clear t0 b0 t1 t2 b1 b1a x0 x1 x2 k0 k1 k2 B1 B2 hm2 hP y0 y1 y2 tq bq hzq hz1 hzz hz2 b3
      cases hk : isK l u.data.toList with
      | true =>
        obtain ⟨hi, _⟩ := isK_lt hk
        rw [hI, hk] at HE
        have HE0 := Lib.hid (HE.out.trans (by rw [if_neg (by simp)]))
        have hIs : ins (u.data.toList, s, e) l = l.take (idx l u.data.toList) ++ (u.data.toList, s, e) :: l.drop (idx l u.data.toList + 1) := by rw [hIs]; simp only [hk, if_true]
        generalize idx l u.data.toList = i at *
        have HIS := Lib.hid hIs
        clear hIs HE hI hk
        obtain ⟨w6, w8, w9, v6, v8, v9, x1, x2, SP⟩ := splice_runs hm3 i (i + 1) (by omega) (by omega) hl u s e
        obtain ⟨a9, n9, c9, rfl⟩ : ∃ a9 n9 c9, v9 = .slice a9 n9 c9 := by
          rcases SP.own.2 with ⟨h, _⟩ | ⟨_, _, _, h, _⟩
          · exact ⟨_, _, _, h⟩
          · exact ⟨_, _, _, h⟩
        have b5 : Below w3.heap.size w3 (w3.alloc (.cells #[] 35)) := (Below.refl _ w3).alloc (Nat.le_refl _) _
        have e5 := (hm3.below b5).c1
        have e8 := (hm3.below SP.b8).c1
        have e9 := (hm3.below SP.b9).c1
        have f9 := (hm3.below SP.b9).free
        obtain ⟨⟨y0, y1, y2⟩, _⟩ := t3.below SP.b6 hz3
        have cT := SP.cutT
        have cF : ∀ w, (Instr.slice 29 (.slice a l.length cap) (some (.int .i64 ((i : Int) + 1))) none none).run Try.prog w = .ok x2 w := by have h := SP.cutF; push_cast at h; exact h
        have r6 := Lib.hid SP.run6
        have r8 := Lib.hid SP.run8
        have r9 := Lib.hid SP.run9
        have own9 := SP.own
        have B9 := B3.trans (SP.b9.mono B3.size)
        have HSP := Lib.hid SP
        clear SP b5
        go_wp2_with (at_builtin; first | (refine wpList_append_run _ rfl _ _ 29 29 rfl _ _ rfl rfl v6 w6 r6.out ?_) | (refine wpList_append_run _ rfl _ _ 29 29 rfl _ _ rfl rfl v8 w8 r8.out ?_) | (refine wpList_append_run _ rfl _ _ 29 29 rfl _ _ rfl rfl _ w9 r9.out ?_))
        go_ret
        exact ref_good HE0.out hm B9 (by rw [HIS.out]; exact World.ownsRow.mono own9 B3.size)
      | false =>
        rw [hI, hk] at HE
        have hIs : ins (u.data.toList, s, e) l = l.take (idx l u.data.toList) ++ (u.data.toList, s, e) :: l.drop (idx l u.data.toList) := by rw [hIs]; simp only [hk, Bool.false_eq_true, if_false, Nat.add_zero]
        generalize idx l u.data.toList = i at *
        have HIS := Lib.hid hIs
        by_cases h64 : 64 ≤ l.length
        · have HE8 := Lib.hid (HE.out.trans (by rw [if_pos ⟨rfl, h64⟩]))
          clear hIs HE hI hk
          go_wp2
          go_ret
          exact ref_bad HE8.out (by omega) hm B3
        · have HE0 := Lib.hid (HE.out.trans (by rw [if_neg (by intro h; exact h64 h.2)]))
          clear hIs HE hI hk
          obtain ⟨w6, w8, w9, v6, v8, v9, x1, x2, SP⟩ := splice_runs hm3 i i (by omega) (by omega) hl u s e
          obtain ⟨a9, n9, c9, rfl⟩ : ∃ a9 n9 c9, v9 = .slice a9 n9 c9 := by
            rcases SP.own.2 with ⟨h, _⟩ | ⟨_, _, _, h, _⟩
            · exact ⟨_, _, _, h⟩
            · exact ⟨_, _, _, h⟩
          have b5 : Below w3.heap.size w3 (w3.alloc (.cells #[] 35)) := (Below.refl _ w3).alloc (Nat.le_refl _) _
          have e5 := (hm3.below b5).c1
          have e8 := (hm3.below SP.b8).c1
          have e9 := (hm3.below SP.b9).c1
          have f9 := (hm3.below SP.b9).free
          obtain ⟨⟨y0, y1, y2⟩, _⟩ := t3.below SP.b6 hz3
          have cT := SP.cutT
          have cF := SP.cutF
          have r6 := Lib.hid SP.run6
          have r8 := Lib.hid SP.run8
          have r9 := Lib.hid SP.run9
          have own9 := SP.own
          have B9 := B3.trans (SP.b9.mono B3.size)
          have HSP := Lib.hid SP
          clear SP b5
          go_wp2_with (at_builtin; first | (refine wpList_append_run _ rfl _ _ 29 29 rfl _ _ rfl rfl v6 w6 r6.out ?_) | (refine wpList_append_run _ rfl _ _ 29 29 rfl _ _ rfl rfl v8 w8 r8.out ?_) | (refine wpList_append_run _ rfl _ _ 29 29 rfl _ _ rfl rfl _ w9 r9.out ?_))
          go_ret
          exact ref_good HE0.out hm B9 (by rw [HIS.out]; exact World.ownsRow.mono own9 B3.size)

set_option maxHeartbeats 400000 in
theorem refFork (q : Nat) (n : Int) (v : Value) (l : List Known) (w : World) (hm : RefOwn w q n v l) :
    Calls Try.prog 21 #[.pointer (some ⟨q, 0, none⟩)] w fun e w' => e = .returned (.pointer (some ⟨w.heap.size, 0, none⟩)) ∧ w.grownBy w' none ∧ w'.heap.size = w.heap.size + 1 ∧ RefOwn w' w.heap.size n v l ∧ RefOwn w' q n v l := by
  have hq := hm.lt
  have hv : v.ownBlock ≠ some w.heap.size := by
    intro e
    have := (World.ownsRow.lt hm.own _ e).2
    omega
  have b1 : Below w.heap.size w (w.alloc (.cells #[.int .i64 n, v] 49)) := (Below.refl w.heap.size w).alloc (Nat.le_refl _) _
  have hm1 := hm.below b1
  have hg := grown_of_below b1 none
  have hnil := hm.nil
  have c0 := hm.c0
  have c1 := hm.c1
  obtain ⟨a, cap, g, rfl, _⟩ := hm.map
  have own1 := hm1.own
  go_enter Try.func21, Try.ntmps21
  go_wp2
  go_ret
  refine ⟨rfl, hg, by simp, ⟨by simp, by simp, by simp, own1, hv, hnil⟩, hm1⟩
end Go.Proofs.Ytbmdhhafmieapaa
