/- Lines: what the law's play tells; LinesPlays. -/
import Derived.Test.YtbhkchdkknainaaU14
namespace Go.Proofs.Ytbhkchdkknainaa
open Go Go.RowKit

theorem pair_new {w w1 w2 : World} {y : Nat} (hM : Ml w) (L1 : LB w.heap.size w1 w.heap.size (.slice none 0 0) []) (b1 : Below w.heap.size w w1) (hy : w1.heap.size = y) (R2 : RB w1.heap.size w2 w1.heap.size (.slice none 0 0) []) (b2 : Below w1.heap.size w1 w2) : Pair (fun _ => False) w w2 w.heap.size y [] [] := by
  subst hy
  have := L1.lt
  exact ⟨hM, b1.trans (b2.mono b1.size), by omega, by decide, by decide, _, _, L1.stay b2, ⟨R2.cell, R2.free, b1.size, R2.byt, R2.apart⟩, by simp [Value.ownBlock], by simp [Value.ownBlock], fun g hg => by simp [Value.ownBlock] at hg, fun k hk => hk.elim⟩

set_option maxRecDepth 100000 in
set_option maxHeartbeats 3200000 in
theorem play_any (v : Value) (l : List Dd) (w : World) (hv : Deeds w v l) (hM : Ml w) :
    Calls Try.prog 9 #[v] w fun e w' => ∃ x y z, e = .returned (.tuple #[.pointer (some ⟨x, 0, none⟩), .pointer (some ⟨y, 0, none⟩), .bool true]) ∧ Pair (fun _ => False) w w' x y z z := by
  obtain ⟨a, cap, rfl, hl, hd⟩ := hv
  have HD := Lib.hid hd
  have HM := Lib.hid hM
  clear hd hM
  go_enter Try.func9, Try.ntmps9
  go_wp2_with fail
  refine (new_any w).mono ?_
  rintro e w1 ⟨rfl, L1, b1⟩
  have HL := Lib.hid (And.intro L1 b1)
  clear L1 b1
  go_wp2_with fail
  refine (rnew_any w1).mono ?_
  rintro e w2 ⟨rfl, R2, b2⟩
  have H0 := Lib.hid (pair_new HM.out HL.out.1 HL.out.2 rfl R2 b2)
  clear R2 b2 HL
  generalize w1.heap.size = y at *
  obtain ⟨x, hx⟩ : ∃ x, w.heap.size = x := ⟨_, rfl⟩
  rw [hx] at H0
  rw [hx]
  clear hx
  go_wp2_with fail
  go_loopw [7] (fun iv wr => ∃ (k : Nat) (z : List UInt8), iv = .int .i64 (k : Int) ∧ k ≤ l.length ∧ k ≤ 100 ∧ Hid (Pair (fun _ => False) w wr x y z z)) (fun iv _ => 100 - intOf iv)
  case atStart => exact ⟨0, [], rfl, Nat.zero_le _, Nat.zero_le _, H0⟩
  case round =>
    clear H0
    obtain ⟨k, z, rfl, hk, hk2, hH⟩ := hrel
    by_cases hgo : k < l.length ∧ k < 100
    · obtain ⟨hkl, hk6⟩ := hgo
      have hx := List.getElem?_eq_getElem hkl
      obtain ⟨g, off, bv, rfl, hg, hda⟩ := HD.out k _ hx
      generalize l[k] = d at *
      have hdo := do_any hH.out d.do' bv hda.b hda.s d.n
      have hbel := hH.out.bel
      have hld : (Instr.loadAt 48 (.pointer (some ⟨g, off + k * 3, none⟩))).run Try.prog wr = .ok (.agg #[.int .i64 d.do', bv, .int .i64 d.n]) wr :=
        run_loadAt_mid wr g (off + k * 3) 48 [.int .i64 d.do', bv, .int .i64 d.n] _ (fun j u hj => (hbel.cell (p := ⟨g, off + k * 3 + j, none⟩) hg).trans (hda.r j u hj)) Try.underlying48 rfl (by kernel_rfl)
      have LD := Lib.hid hld
      have DO := Lib.hid hdo
      have hki : (k : Int) < (l.length : Int) := by omega
      have hki2 : (k : Int) < 100 := by omega
      clear hld hdo hda hx hbel hH
      go_wp2_with (refine wpList_load_known rfl 48 (.tmp 28) rfl _ _ rfl LD.out ?_)
      refine DO.out.mono ?_
      rintro e wn ⟨rfl, hn⟩
      have HNx := Lib.hid hn
      clear hn LD DO
      go_wp2
      go_roundw
      case rel => exact ⟨k + 1, _, by go_num, by omega, by omega, HNx⟩
      case measure => simp [intOf]; omega
    · have hgo' : ¬ (k : Int) < (l.length : Int) ∨ (k : Int) < (l.length : Int) ∧ ¬ (k : Int) < 100 := by omega
      clear hgo HD
      rcases hgo' with hq | ⟨hq, hq2⟩
      all_goals
        go_wp2
        exact bodyPost_ret (v := .tuple #[.pointer (some ⟨x, 0, none⟩), .pointer (some ⟨y, 0, none⟩), .bool true]) (by simp [results, Try.results9, go_sem]) rfl ⟨x, y, rfl, z, hH.out⟩

theorem walk_plays (v : Value) (l : List Dd) (w : World) (hv : Deeds w v l) (hM : Ml w) :
    Calls Try.prog 3 #[v] w fun e w' => e = .returned (.bool true) ∧ Below w.heap.size w w' := by
  have HP := Lib.hid (play_any v l w hv hM)
  have HM := Lib.hid hM
  clear hv hM
  go_enter Try.func3, Try.ntmps3
  go_wp2_with fail
  refine HP.out.mono ?_
  rintro e w1 ⟨x, y, z, rfl, hp⟩
  have HL := Lib.hid (live_any w1 hp.m)
  have HB := Lib.hid hp.bel
  clear hp HP
  go_wp2_with fail
  refine HL.out.mono ?_
  rintro e w2 ⟨rfl, hb2⟩
  have HE := Lib.hid (HB.out.trans (hb2.mono HB.out.size))
  clear hb2 HL HB
  go_wp2
  go_ret
  exact ⟨rfl, HE.out⟩
end Go.Proofs.Ytbhkchdkknainaa
