/- Disk: a nil disk; DiskForks. -/
import Derived.Test.YtohmofhpbmhhjaaE20
namespace Go.Proofs.Ytohmofhpbmhhjaa
open Go Go.RowKit

section
variable (w : World)
theorem nil_cut (n : Int) : Calls Try.prog 13 #[.pointer none, .int .i64 n] w fun e w' => e = .returned (.int .i64 1) ∧ w = w' := by
  go_enter Try.func13, Try.ntmps13
  go_wp2
  go_ret
  exact ⟨rfl, rfl⟩
theorem nil_down : Calls Try.prog 17 #[.pointer none] w fun e w' => e = .returned (.bool false) ∧ Below w.heap.size w w' := by
  go_enter Try.func17, Try.ntmps17
  go_wp2
  go_ret
  exact ⟨rfl, Below.refl _ _⟩
theorem nil_age : Calls Try.prog 23 #[.pointer none] w fun e w' => e = .returned (.int .i64 0) ∧ w = w' := by
  go_enter Try.func23, Try.ntmps23
  go_wp2
  go_ret
  exact ⟨rfl, rfl⟩
theorem nil_waits : Calls Try.prog 18 #[.pointer none] w fun e w' => e = .returned (.int .i64 0) ∧ w = w' := by
  go_enter Try.func18, Try.ntmps18
  go_wp2
  go_ret
  exact ⟨rfl, rfl⟩
theorem nil_fork : Calls Try.prog 19 #[.pointer none] w fun e w' => e = .returned (.pointer none) ∧ w = w' := by
  go_enter Try.func19, Try.ntmps19
  go_wp2
  go_ret
  exact ⟨rfl, rfl⟩
end
theorem two_fork {w1 w2 w3 : World} {D S c F f S' g : Nat} {s : St} {O Q : Nat → Prop} {wv pv lv : Value} (h : Dsk O w1 D S c wv s) (k : RDsk Q w1 F pv lv s) (hf : ForkD w1 s w2 f S') (hg : ForkQ w2 Q pv lv s w3 g) : ∃ c', TwoE (fun _ => False) w1 w3 f S' c' g s s := by
  obtain ⟨c', O', wv', h1, h2, h3⟩ := hf
  obtain ⟨k1, k2, k3⟩ := hg
  have hz := h3.size
  exact ⟨c', O', wv', _, pv, lv, h1.below k3, k1, fun j hj => ⟨h2 j hj, id⟩, fun j hj => ⟨fun e => by omega, id⟩, fun j hj e => by
    have := h1.lt j hj
    have := h2 j hj
    rcases e with rfl | ⟨e, _⟩
    · omega
    · have := k.lt j e; omega, fun _ e => e.elim, h3.trans (k3.mono hz)⟩

set_option maxRecDepth 100000 in
set_option maxHeartbeats 8000000 in
theorem walk_forks (v : Value) (l : List Dd) (v2 : Value) (more : List Dd) (n : Int) (w : World) (hv : Deeds w v l) (hB : ∀ d ∈ l, d.bytes.length ≤ 140737488351232) (hv2 : Deeds w v2 more) (hB2 : ∀ d ∈ more, d.bytes.length ≤ 140737488351232) :
    Calls Try.prog 7 #[v, v2, .int .i64 n] w fun e w' => e = .returned (.bool true) ∧ Below w.heap.size w w' := by
  have HP := Lib.hid (play_good 6 v l w (by decide) (by decide) hv hB)
  have HB2 := Lib.hid hB2
  obtain ⟨a, cap, rfl, hl, hd⟩ := hv2
  have HD := Lib.hid hd
  clear hv hB hB2 hd
  go_enter Try.func7, Try.ntmps7
  go_wp2_with fail
  refine HP.out.mono ?_
  rintro e w1 ⟨D, S, F, s, rfl, hT, hsw, hsa⟩
  have HX := Lib.hid hT
  obtain ⟨O, wv, Q, pv, lv, q1, q2, _⟩ := hT
  have HF := Lib.hid (fork_any q1)
  have HQ1 := Lib.hid q1
  have HQ2 := Lib.hid q2
  clear q1 q2 HP
  go_wp2_with fail
  refine HF.out.mono ?_
  rintro e w2 ⟨rfl, S', hf⟩
  have HFF := Lib.hid hf
  have hb2 : Below w1.heap.size w1 w2 := by obtain ⟨_, _, _, _, _, h⟩ := hf; exact h
  have HG := Lib.hid (rfork_any (HQ2.out.below hb2))
  clear hf HF hb2
  generalize w1.heap.size = f at HFF
  go_wp2_with fail
  refine HG.out.mono ?_
  rintro e w3 ⟨rfl, hg⟩
  obtain ⟨c', h0⟩ := two_fork HQ1.out HQ2.out HFF.out hg
  have H0 := Lib.hid h0
  clear hg HG HFF HQ1 HQ2 h0
  generalize w2.heap.size = g at H0
  obtain ⟨bs, hbs⟩ : ∃ bs : World, bs = w1 := ⟨_, rfl⟩
  have HXB := Lib.hid (show Below w.heap.size w bs by rw [hbs]; exact HX.out.bel)
  rw [← hbs] at H0 HX
  have HBS := Lib.hid hbs
  clear hbs
  go_wp2_with fail
  go_loopw [12] (fun iv wr => ∃ (k : Nat) (t : St), iv = .int .i64 (k : Int) ∧ k ≤ more.length ∧ k ≤ 120 ∧ t.waits.length ≤ 120 + k ∧ t.age ≤ 120 + k ∧ Hid (TwoE (fun _ => False) bs wr f S' c' g t t)) (fun iv _ => 120 - (intOf iv).toNat)
  case atStart => exact ⟨0, s, rfl, Nat.zero_le _, Nat.zero_le _, hsw, hsa, H0⟩
  case round =>
    clear H0
    obtain ⟨k, t, rfl, hk, hk2, htw, hta, hH⟩ := hrel
    by_cases hgo : k < more.length ∧ k < 120
    · obtain ⟨hkl, hk6⟩ := hgo
      have hx := List.getElem?_eq_getElem hkl
      obtain ⟨g', off, bv, kv, rfl, hg, hda0⟩ := HD.out k _ hx
      have hbn := HB2.out _ (List.getElem_mem hkl)
      generalize more[k] = d at *
      have hda := hda0.below HXB.out
      have hdv : DeedV bs d bv kv := ⟨hda.b, hda.b.lt, hbn, hda.k, hda.kl, hda.kn, hda.wi⟩
      have hdo := do_any hH.out d bv kv hdv (by omega) (by omega)
      have hsm := did_small t d
      have hbel := HXB.out.trans (hH.out.bel.mono HXB.out.size)
      have hld : (Instr.loadAt 39 (.pointer (some ⟨g', off + k * 6, none⟩))).run Try.prog wr = .ok (.agg #[.int .i64 d.do', .int .i64 d.i, bv, kv, .int .i64 d.torn, .int .i64 d.at']) wr :=
        run_loadAt_mid wr g' (off + k * 6) 39 [.int .i64 d.do', .int .i64 d.i, bv, kv, .int .i64 d.torn, .int .i64 d.at'] _ (fun j u hj => (hbel.cell (p := ⟨g', off + k * 6 + j, none⟩) hg).trans (hda0.r j u hj)) Try.underlying39 rfl (by kernel_rfl)
      have LD := Lib.hid hld
      have DO := Lib.hid hdo
      have hki : (k : Int) < (more.length : Int) := by omega
      have hki2 : (k : Int) < 120 := by omega
      clear hld hdo hdv hda hda0 hbn hx hbel hH
      go_wp2_with (refine wpList_load_known rfl 39 (.tmp 48) rfl _ _ rfl LD.out ?_)
      refine DO.out.mono ?_
      rintro e wn ⟨rfl, hn⟩
      have HNx := Lib.hid hn
      clear hn LD DO
      go_wp2
      go_roundw
      case rel => exact ⟨k + 1, t.did d, by go_num, by omega, by omega, by omega, by omega, HNx⟩
      case measure => simp [intOf]; omega
    · have hgo' : ¬ (k : Int) < (more.length : Int) ∨ (k : Int) < (more.length : Int) ∧ ¬ (k : Int) < 120 := by omega
      have HY := Lib.hid (HX.out.below hH.out.bel)
      clear hgo HD HB2 HX HXB HBS
      rcases hgo' with hq | ⟨hq, hq2⟩
      all_goals
        go_wp2_with fail
        refine (read_nil n _).mono ?_
        rintro e w4 ⟨rfl, b4⟩
        have HY4 := Lib.hid (HY.out.below b4)
        have HZ4 := Lib.hid (hH.out.below b4)
        clear b4 HY hH
        go_wp2_with fail
        refine (sure_nil n _).mono ?_
        rintro e wn ⟨rfl, rfl⟩
        go_wp2_with fail
        refine (live_any _).mono ?_
        rintro e w5 ⟨rfl, b5⟩
        have HY5 := Lib.hid (HY4.out.below b5)
        have HZ5 := Lib.hid (HZ4.out.below b5)
        clear b5 HY4 HZ4
        go_wp2_with fail
        refine (lawsure_any HY5.out).mono ?_
        rintro e w6 ⟨rfl, b6⟩
        have HY6 := Lib.hid (HY5.out.below b6)
        have HZ6 := Lib.hid (HZ5.out.below b6)
        clear b6 HY5 HZ5
        go_wp2_with fail
        refine (lawsure_any HZ6.out).mono ?_
        rintro e w7 ⟨rfl, b7⟩
        have FIN := Lib.hid (HY6.out.below b7).bel
        clear b7 HY6 HZ6
        go_wp2_with fail
        refine (write_nil n _ _).mono ?_
        rintro e wn ⟨rfl, rfl⟩
        go_wp2_with fail
        refine (flush_nil _).mono ?_
        rintro e wn ⟨rfl, rfl⟩
        go_wp2_with fail
        refine (nil_cut _ n).mono ?_
        rintro e wn ⟨rfl, rfl⟩
        go_wp2_with fail
        refine (crash_nil _ _ ⟨_, _, _, rfl⟩).mono ?_
        rintro e w8 ⟨rfl, b8⟩
        have FIN8 := Lib.hid (FIN.out.trans (b8.mono FIN.out.size))
        clear b8 FIN
        go_wp2_with fail
        refine (nil_down _).mono ?_
        rintro e w9 ⟨rfl, b9⟩
        have FIN9 := Lib.hid (FIN8.out.trans (b9.mono FIN8.out.size))
        clear b9 FIN8
        go_wp2_with fail
        refine (nil_age _).mono ?_
        rintro e wn ⟨rfl, rfl⟩
        go_wp2_with fail
        refine (nil_waits _).mono ?_
        rintro e wn ⟨rfl, rfl⟩
        go_wp2_with fail
        refine (nil_fork _).mono ?_
        rintro e wn ⟨rfl, rfl⟩
        go_wp2
        go_ret
        exact ⟨rfl, FIN9.out⟩
end Go.Proofs.Ytohmofhpbmhhjaa
