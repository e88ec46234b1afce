/- Place: maps.Values of a map of seats: the iterator. -/
import Derived.Test.YtbmdhhafmieapaaH15
namespace Go.Proofs.Ytbmdhhafmieapaa
open Go Go.RowKit Go.Maps Go.Sort Go.Shelf Go.Proofs

theorem grown_alloc (w : World) (o : Obj) : w.grownBy (w.alloc o) none := ⟨rfl, rfl, rfl, by simp, fun k hk _ => Below.heap_alloc w o k hk⟩

set_option maxRecDepth 100000 in
set_option maxHeartbeats 2000000 in
theorem values1_in (F : Fence) (n : Nat) (hf : F.fn 33) (hro : F.round = none) (hn : 1 ≤ n) (l Bm b nn : Nat) (m : List Known) (hr : Rising m) (J : List Known → World → Prop)
    (hY : ∀ pre x W, J pre W → pre.length < m.length → YieldAt F (n - 1) Try.prog l #[seatV x] W fun e W' => e = .returned (.bool true) ∧ J (pre ++ [x]) W' ∧ KeepsWalks W W')
    (W : World) (hJ : AbidesFrom W.heap.size J) (hm : W.cell? ⟨Bm, 0, none⟩ = some (.map (some b))) (hown : W.ownsMap Try.prog 9 seatElem b nn (mapD m)) (h0 : J [] W) :
    CallsIn F n Try.prog 33 #[.func (.yield l) #[] #[], .pointer (some ⟨Bm, 0, none⟩)] W fun e W' => (∃ v, e = .returned v) ∧ ∃ ps : List Known, ps.Perm m ∧ J ps W' := by
  have hsz : Maps.size (mapD m) = m.length := by unfold Maps.size mapD; simp
  refine callsIn_of_wp Try.func33 rfl hf ?_ hro
  simp only [Try.ntmps33, List.size_toArray, List.length_cons, List.length_nil, Nat.reduceAdd, Nat.reduceSub, Array.replicate_succ, Array.replicate_zero, List.push_toArray, List.append_toArray, List.nil_append, List.cons_append]
  gi_wp2_with (first
    | (gi_at_range; refine wpListIn_range_own _ rfl _ 55 rfl 9 35 keyS Try.underlying55 _ b nn _ rfl hown ?_; intro w0 hrg0 hg0 hs0)
    | gi_in)
  go_frame
  gi_loopw [4] (fun _ wr => ∃ (left : Lit → Bool) (cnt : Nat) (ps : List Known), wr.ranges Try.prog 9 seatElem b W.heap.size nn (mapD m) left cnt ∧ ps.length + cnt ≤ m.length ∧ Collected (mapD m) left (ps.map (·.1)) ∧ (∀ p ∈ ps, ∀ zd, (mapD m).atKey (.string p.1) zd = entD p) ∧ J ps wr ∧ 0 ≤ wr.heap.size)
    (fun _ wr => wr.rangeLeft b W.heap.size)
  case atStart =>
    exact ⟨_, _, [], hrg0, by simp [hsz], Collected.start _, by simp, hJ [] W w0 none h0 hg0 (fun r e => by cases e), Nat.zero_le _⟩
  case round =>
    obtain ⟨left, cnt, ps, hrg, hcs, hC, hV, hJs, hzs⟩ := hrel
    gi_wp2_with (first
      | (gi_at_next; refine wpListIn_next_ranges _ rfl _ rfl 9 keyS seatElem encStr (fun c : Known => .agg #[.string ⟨c.1.toArray⟩, .int .i64 c.2.1, .int .i64 c.2.2]) (fun key kl hk => by obtain ⟨x, hx, _⟩ := Maps.keyOf_str Try.underlying9 hk; exact ⟨x, hx⟩) (fun v y hv => by obtain ⟨c, h1, _⟩ := seat_of hv; exact ⟨c, h1⟩) b W.heap.size nn _ _ _ rfl hrg ?_ ?_)
      | gi_in)
    · intro hc0 hl0
      gi_wp2
      go_end0
      exact ⟨⟨_, rfl⟩, ps, values_perm hr (hC.perm hown keyS Try.underlying9 hl0) hV, hJs⟩
    · intro x c1 c2 c3 kl yd yp w2 cnt2 hkey hlk hv hat hrg2 hlt hg2 hs2 hen
      obtain ⟨x', ex, rfl, _⟩ := Maps.keyOf_str Try.underlying9 hkey
      obtain rfl : x = x' := encStr_inj ex
      obtain ⟨c', ec, ey⟩ := seat_of hv
      have ecc : c' = (c1, c2, c3) := by
        obtain ⟨b1, b2, b3⟩ := c'
        unfold seatV at ec
        simp at ec
        obtain ⟨rfl, rfl, rfl⟩ := ec
        rfl
      subst ecc
      have ey : yd = entD (c1, c2, c3) := ey
      subst ey
      have hkc : c1 = x := by
        have h1 := hat .nil
        rw [at_mapD] at h1
        cases hfk : findK m x with
        | none => rw [hfk] at h1; cases h1
        | some z =>
          rw [hfk] at h1
          have e := entD_inj h1
          have := List.find?_some hfk
          simp only [beq_iff_eq] at this
          rw [← this, e]
      subst hkc
      have hJ2 : J ps w2 := hJ ps wr w2 (some W.heap.size) hJs hg2 (fun r e => by cases e; exact ⟨Nat.le_refl _, hrg.iter_walk⟩)
      have hJ3 : J ps (w2.alloc (.cells #[.string ⟨c1.toArray⟩, .int .i64 c2, .int .i64 c3] 35)) := hJ ps w2 _ none hJ2 (grown_alloc _ _) (fun r e => by cases e)
      obtain ⟨fn, tmps, assign, body, hy, hR⟩ := hY ps (c1, c2, c3) _ hJ3 (by omega)
      unfold seatV at hy
      have hC2 : Collected (mapD m) (fun z => left z && !z.sameKey (.string c1)) ((ps ++ [((c1, c2, c3) : Known)]).map (fun p : Known => p.1)) := by simpa using hC.step hlk hat
      have hV2 : ∀ p ∈ ps ++ [(c1, c2, c3)], ∀ zd, (mapD m).atKey (.string p.1) zd = entD p := fun p hp => (List.mem_append.1 hp).elim (hV p) (fun e => by simp at e; subst e; exact hat)
      have hrg2' := hrg2.of_walks (KeepsWalks.alloc w2 (.cells #[.string ⟨c1.toArray⟩, .int .i64 c2, .int .i64 c3] 35))
      obtain ⟨q0, q1, q2⟩ := (Three.new w2 35 (.string ⟨c1.toArray⟩) (.int .i64 c2) (.int .i64 c3)).1
      have HC2 := Lib.hid hC2
      have HV2 := Lib.hid hV2
      have HJ2 := Lib.hid hJ2
      clear hs2 hC2 hV2 hat hV hC hJ2 hJ3 hlk hkey hv ec ex
      gi_wp2
      refine hR.mono ?_
      rintro e W3 ⟨rfl, hJ3, hk3⟩
      have hrg3 := hrg2'.of_walks hk3
      gi_wp2
      go_roundw
      case rel => exact ⟨_, cnt2, ps ++ [(c1, c2, c3)], hrg3, by simp; omega, HC2.out, HV2.out, hJ3, Nat.zero_le _⟩
      case measure => rw [hrg3.left_eq, hrg.left_eq]; exact hlt
end Go.Proofs.Ytbmdhhafmieapaa
