/- Disk: what the law's play tells; DiskPlays. -/
import Derived.Test.YtohmofhpbmhhjaaE16
namespace Go.Proofs.Ytohmofhpbmhhjaa
open Go Go.RowKit

theorem play_bad (n : Int) (v : Value) (w : World) (hn : n < 1 ∨ 512 < n) :
    Calls Try.prog 8 #[.int .i64 n, v] w fun e w' => e = .returned (.tuple #[.pointer none, .pointer none, .bool true]) ∧ Below w.heap.size w w' := by
  have HB := Lib.hid (Below.refl w.heap.size w)
  have HN := Lib.hid (new_bad n w hn)
  have HR := Lib.hid (rnew_bad n w hn)
  clear hn
  go_enter Try.func8, Try.ntmps8
  go_wp2_with fail
  refine HN.out.mono ?_
  rintro e w1 ⟨rfl, rfl⟩
  go_wp2_with fail
  refine HR.out.mono ?_
  rintro e w2 ⟨rfl, rfl⟩
  go_wp2_with fail
  go_loopw [11] (fun iv wr => iv = .int .i64 0 ∧ wr = w) (fun _ _ => 0)
  case atStart => exact ⟨rfl, rfl⟩
  case round =>
    obtain ⟨rfl, rfl⟩ := hrel
    clear HN HR
    go_wp2
    exact bodyPost_ret (v := .tuple #[.pointer none, .pointer none, .bool true]) (by simp [results, Try.results8, go_sem]) rfl ⟨rfl, HB.out⟩
set_option maxRecDepth 100000 in
set_option maxHeartbeats 8000000 in
theorem play_good (n : Nat) (v : Value) (l : List Dd) (w : World) (h1 : 1 ≤ n) (h2 : n ≤ 512) (hv : Deeds w v l) (hB : ∀ d ∈ l, d.bytes.length ≤ 140737488351232) :
    Calls Try.prog 8 #[.int .i64 (n : Int), v] w fun e w' => ∃ D S F s, e = .returned (.tuple #[.pointer (some ⟨D, 0, none⟩), .pointer (some ⟨F, 0, none⟩), .bool true]) ∧ TwoE (fun _ => False) w w' D S n F s s ∧ s.waits.length ≤ 120 ∧ s.age ≤ 120 := by
  obtain ⟨a, cap, rfl, hl, hd⟩ := hv
  have hnew : Calls Try.prog 10 #[.int .i64 (n : Int)] w fun e w' => ∃ D S, e = .returned (.tuple #[.pointer (some ⟨D, 0, none⟩), .int .i64 0]) ∧ Has w w' D S n (St.new n) := (has_new n w w (Below.refl _ _) h1 h2).mono fun e w' ⟨q1, q2⟩ => ⟨_, _, q1, q2⟩
  have HN := Lib.hid hnew
  have HD := Lib.hid hd
  have HB := Lib.hid hB
  clear hnew hd hB
  go_enter Try.func8, Try.ntmps8
  go_wp2_with fail
  refine HN.out.mono ?_
  rintro e w1 ⟨D, S, rfl, hH⟩
  have HR := Lib.hid (rnew_any n w1 h1 h2)
  have HH := Lib.hid hH
  clear hH HN
  go_wp2_with fail
  refine HR.out.mono ?_
  rintro e w2 ⟨rfl, hr, hb2⟩
  have H0 := Lib.hid (two_new (n := 0) HH.out (Below.refl _ _) hr hb2)
  clear hr hb2 HH HR
  generalize w1.heap.size = F at *
  go_wp2_with fail
  go_loopw [11] (fun iv wr => ∃ (k : Nat) (s : St), iv = .int .i64 (k : Int) ∧ k ≤ l.length ∧ k ≤ 120 ∧ s.waits.length ≤ k ∧ s.age ≤ k ∧ Hid (TwoE (fun _ => False) w wr D S n F s s)) (fun iv _ => 120 - (intOf iv).toNat)
  case atStart => exact ⟨0, St.new n, rfl, Nat.zero_le _, Nat.zero_le _, Nat.le_refl _, Nat.le_refl _, H0⟩
  case round =>
    clear H0
    obtain ⟨k, s, rfl, hk, hk2, hsw, hsa, hH⟩ := hrel
    by_cases hgo : k < l.length ∧ k < 120
    · obtain ⟨hkl, hk6⟩ := hgo
      have hx := List.getElem?_eq_getElem hkl
      obtain ⟨g, off, bv, kv, rfl, hg, hda⟩ := HD.out k _ hx
      have hbn := HB.out _ (List.getElem_mem hkl)
      generalize l[k] = d at *
      have hdv : DeedV w d bv kv := ⟨hda.b, hda.b.lt, hbn, hda.k, hda.kl, hda.kn, hda.wi⟩
      have hdo := do_any hH.out d bv kv hdv (by omega) (by omega)
      have hsm := did_small s d
      have hbel := hH.out.bel
      have hld : (Instr.loadAt 39 (.pointer (some ⟨g, off + k * 6, none⟩))).run Try.prog wr = .ok (.agg #[.int .i64 d.do', .int .i64 d.i, bv, kv, .int .i64 d.torn, .int .i64 d.at']) wr :=
        run_loadAt_mid wr g (off + k * 6) 39 [.int .i64 d.do', .int .i64 d.i, bv, kv, .int .i64 d.torn, .int .i64 d.at'] _ (fun j u hj => (hbel.cell (p := ⟨g, off + k * 6 + j, none⟩) hg).trans (hda.r j u hj)) Try.underlying39 rfl (by kernel_rfl)
      have LD := Lib.hid hld
      have DO := Lib.hid hdo
      have hki : (k : Int) < (l.length : Int) := by omega
      have hki2 : (k : Int) < 120 := by omega
      clear hld hdo hdv hda hbn hx hbel hH
      go_wp2_with (refine wpList_load_known rfl 39 (.tmp 52) rfl _ _ rfl LD.out ?_)
      refine DO.out.mono ?_
      rintro e wn ⟨rfl, hn⟩
      have HNx := Lib.hid hn
      clear hn LD DO
      go_wp2
      go_roundw
      case rel => exact ⟨k + 1, s.did d, by go_num, by omega, by omega, by omega, by omega, HNx⟩
      case measure => simp [intOf]; omega
    · have hgo' : ¬ (k : Int) < (l.length : Int) ∨ (k : Int) < (l.length : Int) ∧ ¬ (k : Int) < 120 := by omega
      have HS := Lib.hid (lawsure_any hH.out)
      clear hgo HD HB
      rcases hgo' with hq | ⟨hq, hq2⟩
      all_goals
        go_wp2_with fail
        refine HS.out.mono ?_
        rintro e wn ⟨rfl, hn⟩
        have HNx := Lib.hid (hH.out.below hn)
        clear hn HS hH
        go_wp2
        exact bodyPost_ret (v := .tuple #[.pointer (some ⟨D, 0, none⟩), .pointer (some ⟨F, 0, none⟩), .bool true]) (by simp [results, Try.results8, go_sem]) rfl ⟨D, S, F, s, rfl, HNx.out, by omega, by omega⟩
theorem walk_plays (n : Int) (v : Value) (l : List Dd) (w : World) (hv : Deeds w v l) (hB : ∀ d ∈ l, d.bytes.length ≤ 140737488351232) :
    Calls Try.prog 3 #[.int .i64 n, v] w fun e w' => e = .returned (.bool true) ∧ Below w.heap.size w w' := by
  have hp : Calls Try.prog 8 #[.int .i64 n, v] w fun e w' => ∃ p q, e = .returned (.tuple #[p, q, .bool true]) ∧ Below w.heap.size w w' := by
    by_cases hn : n < 1 ∨ 512 < n
    · exact (play_bad n v w hn).mono fun e w' ⟨h1, h2⟩ => ⟨_, _, h1, h2⟩
    · obtain ⟨m, rfl⟩ : ∃ m : Nat, n = (m : Int) := ⟨n.toNat, by omega⟩
      exact (play_good m v l w (by omega) (by omega) hv hB).mono fun e w' ⟨D, S, F, s, h1, h2, _⟩ => ⟨_, _, h1, h2.bel⟩
  have HP := Lib.hid hp
  clear hp hv hB
  go_enter Try.func3, Try.ntmps3
  go_wp2_with fail
  refine HP.out.mono ?_
  rintro e w1 ⟨p, q, rfl, hb⟩
  have HL := Lib.hid (live_any w1)
  have HB := Lib.hid hb
  clear hb HP
  go_wp2_with fail
  refine HL.out.mono ?_
  rintro e w2 ⟨rfl, hb2⟩
  have HE := Lib.hid (HB.out.trans (hb2.mono HB.out.size))
  clear hb2 HL HB
  go_wp2
  go_ret
  exact ⟨rfl, HE.out⟩
end Go.Proofs.Ytohmofhpbmhhjaa
