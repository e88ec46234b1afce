/- Lines: Forks of both; a nil buffer; LinesForks. -/
import Derived.Test.YtbhkchdkknainaaU15
namespace Go.Proofs.Ytbhkchdkknainaa
open Go Go.RowKit

def ForkL (w : World) (l : List UInt8) (w' : World) (f : Nat) : Prop := w.heap.size ≤ f ∧ (∃ v, LB w.heap.size w' f v l) ∧ Below w.heap.size w w'
def ForkR (w : World) (u : Value) (l : List UInt8) (w' : World) (f : Nat) : Prop := w.heap.size ≤ f ∧ RB w.heap.size w' f u l ∧ Below w.heap.size w w'
set_option maxHeartbeats 800000 in
theorem fork_any {B b : Nat} {v : Value} {l : List UInt8} (w : World) (h : LB B w b v l) (hl : l.length ≤ 16384) :
    Calls Try.prog 20 #[.pointer (some ⟨b, 0, none⟩)] w fun e w' => ∃ f, e = .returned (.pointer (some ⟨f, 0, none⟩)) ∧ ForkL w l w' f := by
  have hc := h.cell
  have HC := Lib.hid (clone_any v l w h.row.1 hl)
  obtain ⟨a, cap, rfl, hcap⟩ := h.row.1.shape
  clear h
  go_enter Try.func20, Try.ntmps20
  go_wp2_with fail
  refine HC.out.mono ?_
  rintro e w1 ⟨v1, rfl, R1, b1⟩
  have hlt1 := R1.1.lt
  have hal : Below w1.heap.size w1 (w1.alloc (.cells #[v1] 52)) := (Below.refl _ w1).alloc (Nat.le_refl _) _
  have FIN := Lib.hid (show ForkL w l (w1.alloc (.cells #[v1] 52)) w1.heap.size from
    ⟨b1.size, ⟨v1, by rw [cell_of_row _ _ _ _ _ _ (heap_alloc_last w1 _)]; rfl, World.frozen?_alloc_new w1 _ _ 0, b1.size, R1.below hal, fun e => by have := hlt1 _ e; omega⟩, b1.trans (hal.mono b1.size)⟩)
  obtain ⟨a1, cap1, rfl, hcap1⟩ := R1.1.shape
  clear HC R1 b1 hlt1 hal hc
  go_wp2
  go_ret
  exact ⟨_, rfl, FIN.out⟩
set_option maxHeartbeats 800000 in
theorem rfork_any {B b : Nat} {u : Value} {l : List UInt8} (w : World) (h : RB B w b u l) :
    Calls Try.prog 21 #[.pointer (some ⟨b, 0, none⟩)] w fun e w' => ∃ f, e = .returned (.pointer (some ⟨f, 0, none⟩)) ∧ ForkR w u l w' f := by
  have hc := h.cell
  have hal : Below w.heap.size w (w.alloc (.cells #[u] 58)) := (Below.refl _ w).alloc (Nat.le_refl _) _
  have FIN := Lib.hid (show ForkR w u l (w.alloc (.cells #[u] 58)) w.heap.size from
    ⟨Nat.le_refl _, ⟨by rw [cell_of_row _ _ _ _ _ _ (heap_alloc_last w _)]; rfl, World.frozen?_alloc_new w _ _ 0, Nat.le_refl _, h.byt.below hal, fun e => by have := h.byt.lt _ e; omega⟩, hal⟩)
  obtain ⟨a, cap, rfl, hcap⟩ := h.byt.shape
  clear h hal
  go_enter Try.func21, Try.ntmps21
  go_wp2
  go_ret
  exact ⟨_, rfl, FIN.out⟩
theorem pair_fork {w0 w1 w2 w3 : World} {x y f g : Nat} {z : List UInt8} {u : Value} (h : Pair (fun _ => False) w0 w1 x y z z) (hu : RB w0.heap.size w1 y u z) (hf : ForkL w1 z w2 f) (hg : ForkR w2 u z w3 g) : Pair (fun _ => False) w1 w3 f g z z := by
  obtain ⟨f1, ⟨v, f2⟩, f3⟩ := hf
  obtain ⟨g1, g2, g3⟩ := hg
  have hfl := f2.lt
  have hz := f3.size
  refine ⟨h.m, f3.trans (g3.mono hz), by omega, h.sx, h.sy, v, u, f2.stay g3, ⟨g2.cell, g2.free, by omega, g2.byt, g2.apart⟩, fun e => by have := f2.row.1.lt _ e; omega, fun e => by have := hu.byt.lt _ e; omega, fun k hk e => by have := f2.row.own k hk; have := hu.byt.lt k e; omega, fun k hk => hk.elim⟩

section
variable (w : World)
theorem nil_line : Calls Try.prog 13 #[.pointer none] w fun e w' => e = .returned (.tuple #[.string ⟨#[]⟩, .int .i64 1]) ∧ w' = w := by
  go_enter Try.func13, Try.ntmps13
  go_wp2
  go_ret2
  exact ⟨rfl, rfl⟩
theorem nil_raw (n : Int) : Calls Try.prog 15 #[.pointer none, .int .i64 n] w fun e w' => e = .returned (.tuple #[.slice none 0 0, .int .i64 1]) ∧ w' = w := by
  go_enter Try.func15, Try.ntmps15
  go_wp2
  go_ret2
  exact ⟨rfl, rfl⟩
theorem nil_body : Calls Try.prog 23 #[.pointer none] w fun e w' => e = .returned (.tuple #[.slice none 0 0, .int .i64 1]) ∧ w' = w := by
  go_enter Try.func23, Try.ntmps23
  go_wp2
  go_ret2
  exact ⟨rfl, rfl⟩
theorem nil_feed : Calls Try.prog 12 #[.pointer none, .slice none 0 0] w fun e w' => e = .returned (.int .i64 1) ∧ w' = w := by
  go_enter Try.func12, Try.ntmps12
  go_wp2
  go_ret
  exact ⟨rfl, rfl⟩
theorem nil_wait : Calls Try.prog 14 #[.pointer none] w fun e w' => e = .returned (.int .i64 0) ∧ w' = w := by
  go_enter Try.func14, Try.ntmps14
  go_wp2
  go_ret
  exact ⟨rfl, rfl⟩
theorem nil_fork : Calls Try.prog 20 #[.pointer none] w fun e w' => e = .returned (.pointer none) ∧ w' = w := by
  go_enter Try.func20, Try.ntmps20
  go_wp2
  go_ret
  exact ⟨rfl, rfl⟩
end

set_option maxRecDepth 100000 in
set_option maxHeartbeats 6400000 in
theorem walk_forks (v : Value) (l : List Dd) (v2 : Value) (more : List Dd) (n : Int) (w : World) (hv : Deeds w v l) (hv2 : Deeds w v2 more) (hM : Ml w) :
    Calls Try.prog 8 #[v, v2, .int .i64 n] w fun e w' => e = .returned (.bool true) ∧ Below w.heap.size w w' := by
  have HP := Lib.hid (play_any v l w hv hM)
  have HM := Lib.hid hM
  have HV2 := Lib.hid hv2
  obtain ⟨a, cap, rfl, hl, _⟩ := hv2
  clear hv hM
  go_enter Try.func8, Try.ntmps8
  go_wp2_with fail
  refine HP.out.mono ?_
  rintro e w1 ⟨x, y, z, rfl, hp⟩
  have HX := Lib.hid hp
  obtain ⟨vx, u, q1, q2, _⟩ := hp.two
  have HQ2 := Lib.hid q2
  have HF := Lib.hid (fork_any w1 q1 hp.sx)
  have HD := Lib.hid (HV2.out.below hp.bel)
  clear hp HP q1 q2 HV2
  go_wp2_with fail
  refine HF.out.mono ?_
  rintro e w2 ⟨f, rfl, hf⟩
  have HG := Lib.hid (rfork_any w2 (HQ2.out.stay hf.2.2))
  have HFF := Lib.hid hf
  clear hf HF
  go_wp2_with fail
  refine HG.out.mono ?_
  rintro e w3 ⟨g, rfl, hg⟩
  have H0 := Lib.hid (pair_fork HX.out HQ2.out HFF.out hg)
  clear hg HG HFF HQ2
  go_wp2_with fail
  go_loopw [12] (fun iv wr => ∃ (k : Nat) (z2 : List UInt8), iv = .int .i64 (k : Int) ∧ k ≤ more.length ∧ k ≤ 100 ∧ Hid (Pair (fun _ => False) w1 wr f g z2 z2)) (fun iv _ => 100 - intOf iv)
  case atStart => exact ⟨0, z, rfl, Nat.zero_le _, Nat.zero_le _, H0⟩
  case round =>
    clear H0
    obtain ⟨k, z2, rfl, hk, hk2, hH⟩ := hrel
    by_cases hgo : k < more.length ∧ k < 100
    · obtain ⟨hkl, hk6⟩ := hgo
      obtain ⟨a', cap', he, _, hd⟩ := HD.out
      cases he
      have hx := List.getElem?_eq_getElem hkl
      obtain ⟨g', off, bv, rfl, hg, hda⟩ := hd k _ hx
      generalize more[k] = d at *
      have hdo := do_any hH.out d.do' bv hda.b hda.s d.n
      have hbel := hH.out.bel
      have hld : (Instr.loadAt 48 (.pointer (some ⟨g', off + k * 3, none⟩))).run Try.prog wr = .ok (.agg #[.int .i64 d.do', bv, .int .i64 d.n]) wr :=
        run_loadAt_mid wr g' (off + k * 3) 48 [.int .i64 d.do', bv, .int .i64 d.n] _ (fun j u hj => (hbel.cell (p := ⟨g', off + k * 3 + j, none⟩) hg).trans (hda.r j u hj)) Try.underlying48 rfl (by kernel_rfl)
      have LD := Lib.hid hld
      have DO := Lib.hid hdo
      have hki : (k : Int) < (more.length : Int) := by omega
      have hki2 : (k : Int) < 100 := by omega
      clear hld hdo hda hx hbel hH hd
      go_wp2_with (refine wpList_load_known rfl 48 (.tmp 46) rfl _ _ rfl LD.out ?_)
      refine DO.out.mono ?_
      rintro e wn ⟨rfl, hn⟩
      have HNx := Lib.hid hn
      clear hn LD DO
      go_wp2
      go_roundw
      case rel => exact ⟨k + 1, _, by go_num, by omega, by omega, HNx⟩
      case measure => simp [intOf]; omega
    · have hgo' : ¬ (k : Int) < (more.length : Int) ∨ (k : Int) < (more.length : Int) ∧ ¬ (k : Int) < 100 := by omega
      have HY := Lib.hid (HX.out.stay hH.out.bel)
      clear hgo HD hH
      rcases hgo' with hq | ⟨hq, hq2⟩
      all_goals
        go_wp2_with fail
        refine (nil_line _).mono ?_
        rintro e wn ⟨rfl, rfl⟩
        go_wp2_with fail
        refine (nil_raw _ n).mono ?_
        rintro e wn ⟨rfl, rfl⟩
        go_wp2_with fail
        refine (nil_body _).mono ?_
        rintro e wn ⟨rfl, rfl⟩
        go_wp2_with fail
        refine (live_any _ HY.out.m).mono ?_
        rintro e w5 ⟨rfl, hb5⟩
        have HZ := Lib.hid (HY.out.stay hb5)
        clear hb5
        go_wp2_with fail
        refine (p_wait HZ.out).mono ?_
        rintro e wn ⟨rfl, rfl⟩
        have HDO := Lib.hid (do_any HZ.out 2 (.slice none 0 0) (Or.inl (Byt.nil w)) (by decide) (z.length : Int))
        go_wp2_with fail
        refine HDO.out.mono ?_
        rintro e w6 ⟨rfl, h6⟩
        have FIN := Lib.hid h6.bel
        clear h6 HDO HZ HY
        go_wp2_with fail
        refine (nil_feed _).mono ?_
        rintro e wn ⟨rfl, rfl⟩
        go_wp2_with fail
        refine (nil_wait _).mono ?_
        rintro e wn ⟨rfl, rfl⟩
        go_wp2_with fail
        refine (nil_fork _).mono ?_
        rintro e wn ⟨rfl, rfl⟩
        go_wp2
        go_ret
        exact ⟨rfl, FIN.out⟩
end Go.Proofs.Ytbhkchdkknainaa
