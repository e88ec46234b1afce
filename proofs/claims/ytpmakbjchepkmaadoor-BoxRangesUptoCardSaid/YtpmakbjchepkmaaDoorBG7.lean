/- Box: joined, walked. -/
import Derived.Test.YtpmakbjchepkmaaDoorBG6
import Derived.IntWalk
import Derived.StillTailTactics
namespace Go.Proofs.YtpmakbjchepkmaaDoor
open Go Go.RowKit

/-- The slice v reads as these pairs. -/
def Prs (w : World) (v : Value) (l : List (Int × Int)) : Prop := ∃ g c, v = .slice (some ⟨g, 0, none⟩) l.length c ∧ g < w.heap.size ∧ CellsAt w g 0 (l.flatMap cells2)
theorem Acc.prs {D : Nat} {w : World} {g b c : Nat} {ini : List (Int × Int)} {lo hi : Int} (h : Acc D w g b c ini lo hi) : Prs w (.slice (some ⟨b, 0, none⟩) (ini.length + 1) c) (ini ++ [(lo, hi)]) := by
  refine ⟨b, c, by simp, h.lt, fun j u hu => ?_⟩
  rcases h.at' with ⟨rfl, rfl, rfl⟩ | ⟨h1, h2, h3⟩
  · have c0 := h.c0
    have c1 := h.c1
    simp at c0 c1
    rw [Nat.zero_add]
    match j with
    | 0 => simp [cells2] at hu; rw [← hu]; exact c0
    | 1 => simp [cells2] at hu; rw [← hu]; exact c1
    | j + 2 => simp [cells2] at hu
  · have := World.ownsRow.cells h3 (g := b) rfl j u hu
    rwa [addr_plus] at this
/-- What joined tells. -/
def JoinR (D : Nat) (w : World) (l : List (Int × Int)) (e : Ending) (w' : World) : Prop :=
  ∃ v l' x t, e = .returned v ∧ l' = x :: t ∧ l'.Perm l ∧ l'.Pairwise (fun x y => x.1 ≤ y.1) ∧ Prs w' v (joinGo [] x.1 x.2 t) ∧ Below D w w'
theorem join_done {ini : List (Int × Int)} {lo hi : Int} : joinGo ini lo hi [] = ini ++ [(lo, hi)] := rfl

theorem elemP : Tryd.prog.elem 22 = 30 := by simp [Program.elem, Tryd.underlying22]
set_option maxRecDepth 100000 in
theorem cutP_one (w : World) (g n cap : Nat) (h : 1 ≤ cap) : (Instr.slice 22 (.slice (some ⟨g, 0, none⟩) n cap) none (some (.int .i64 1)) (some (.int .i64 1))).run Tryd.prog w = .ok (.slice (some ⟨g, 0, none⟩) 1 1) w := by
  have ht' : Tryd.prog.underlying 22 = some (.slice (Tryd.prog.elem 22)) := by rw [elemP]; exact Tryd.underlying22
  have := run_slice_hm w 22 (some ⟨g, 0, none⟩) n cap ht' .i64 .i64 (1 : Nat) (1 : Nat) (by omega) (by omega) (by omega)
  rw [elemP, Tryd.sizeOf30] at this
  simpa [Result.andThen, sliced, addr_plus] using this
set_option maxRecDepth 100000 in
theorem cutP_rest (w : World) (g n cap : Nat) (h : 1 ≤ n) (hc : n ≤ cap) : ∃ o, (∀ w, (Instr.slice 22 (.slice (some ⟨g, 0, none⟩) n cap) (some (.int .i64 1)) none none).run Tryd.prog w = .ok (.slice (some ⟨g, o, none⟩) (n - 1) (cap - 1)) w) ∧ (1 < n → o = 2) := by
  have ht' : Tryd.prog.underlying 22 = some (.slice (Tryd.prog.elem 22)) := by rw [elemP]; exact Tryd.underlying22
  have key := fun w => run_slice_l w 22 (some ⟨g, 0, none⟩) n cap ht' .i64 (1 : Nat) (by omega) (by omega)
  by_cases h1 : cap = 1
  · subst h1
    refine ⟨0, fun w => ?_, fun h => by omega⟩
    have := key w
    rw [elemP, Tryd.sizeOf30] at this
    simpa [Result.andThen, sliced] using this
  · refine ⟨2, fun w => ?_, fun _ => rfl⟩
    have := key w
    rw [elemP, Tryd.sizeOf30] at this
    have h2 : ¬ 1 = cap := fun e => h1 e.symm
    simpa [Result.andThen, sliced, addr_plus, h2, h1] using this
theorem src_of {D : Nat} {w : World} {g n cap : Nat} {l : List (Int × Int)} (h : OwnsP (D + 1) w (.slice (some ⟨g, 0, none⟩) n cap) l) (hn : n = l.length) : Src w g l := by
  subst hn
  refine ⟨(World.ownsRow.lt h g rfl).2, fun j p _ hj => ?_⟩
  have h0 := World.ownsRow.cells h (g := g) rfl _ _ (flat_at cells2 2 l j (fun _ _ => rfl) p hj 0 _ rfl)
  have h1 := World.ownsRow.cells h (g := g) rfl _ _ (flat_at cells2 2 l j (fun _ _ => rfl) p hj 1 _ rfl)
  rw [addr_plus, Nat.zero_add, Nat.add_zero] at h0
  rw [addr_plus, Nat.zero_add] at h1
  exact ⟨h0, h1⟩
theorem acc_first {D : Nat} {w : World} {g n cap : Nat} {x : Int × Int} {t : List (Int × Int)} (h : OwnsP (D + 1) w (.slice (some ⟨g, 0, none⟩) n cap) (x :: t)) (hn : n = (x :: t).length) : Acc D w g g 1 [] x.1 x.2 := by
  subst hn
  have h0 := World.ownsRow.cells h (g := g) rfl _ _ (flat_at cells2 2 (x :: t) 0 (fun _ _ => rfl) x rfl 0 _ rfl)
  have h1 := World.ownsRow.cells h (g := g) rfl _ _ (flat_at cells2 2 (x :: t) 0 (fun _ _ => rfl) x rfl 1 _ rfl)
  rw [addr_plus] at h0 h1
  refine ⟨by simpa using h0, by simpa using h1, ?_, Or.inl ⟨rfl, rfl, rfl⟩⟩
  have := (owns_there h 0 2 (by simp only [List.length_cons]; omega) 1 (by omega)).2
  simpa using this
theorem Src.kept2 {D : Nat} {w : World} {g b c : Nat} {ini : List (Int × Int)} {lo hi : Int} {l : List (Int × Int)} (h : Src w g l) (ha : Acc D w g b c ini lo hi) (n : Int) : Src (w.drew.setCell ⟨b, ini.length * 2 + 1, none⟩ (.int .i64 n)) g l := by
  refine ⟨by simpa [World.setCell] using h.1, fun j p h1 hj => ?_⟩
  obtain ⟨a0, a1⟩ := h.2 j p h1 hj
  rcases ha.at' with ⟨rfl, rfl, rfl⟩ | ⟨hne, _, _⟩
  · have o : ∀ i, i ≠ 1 → (w.drew.setCell ⟨b, ([] : List (Int × Int)).length * 2 + 1, none⟩ (.int .i64 n)).cell? ⟨b, i, none⟩ = w.cell? ⟨b, i, none⟩ := fun i hi => World.cell?_setCell_other _ _ _ _ (by intro e; injection e with _ e; simp at e; omega)
    exact ⟨(o _ (by omega)).trans a0, (o _ (by omega)).trans a1⟩
  · have o : ∀ i, (w.drew.setCell ⟨b, ini.length * 2 + 1, none⟩ (.int .i64 n)).cell? ⟨g, i, none⟩ = w.cell? ⟨g, i, none⟩ := fun i => World.cell?_setCell_other _ _ _ _ (by intro e; injection e with e _; exact hne e)
    exact ⟨(o _).trans a0, (o _).trans a1⟩
def Small (p : Int × Int) : Prop := (-4294967296 ≤ p.1 ∧ p.1 ≤ 4294967296) ∧ (-4294967296 ≤ p.2 ∧ p.2 ≤ 4294967296)

set_option maxHeartbeats 8000000 in
set_option maxRecDepth 100000 in
theorem joined_any (D g cap : Nat) (w : World) (l : List (Int × Int)) (h : OwnsP (D + 1) w (.slice (some ⟨g, 0, none⟩) l.length cap) l) (hn : l.length ≤ 32) (h1 : 1 ≤ l.length) (hD : D < w.heap.size) (hv : ∀ p ∈ l, Small p) :
    Calls Tryd.prog 12 #[.slice (some ⟨g, 0, none⟩) l.length cap] w (JoinR D w l) := by
  have HS := Lib.hid (sort_any D g cap w l h (by omega))
  have hgl := World.ownsRow.lt h g rfl
  have hcap : l.length ≤ cap := by
    obtain ⟨_, _, e, hc⟩ := owns_shape h
    injection e with _ _ e3
    omega
  have hk1 := fun w => cutP_one w g l.length cap (by omega)
  obtain ⟨o, hk2, ho⟩ := cutP_rest w g l.length cap h1 hcap
  have hV := Lib.hid hv
  have HO := Lib.hid ho
  clear h hv ho
  go_enter Tryd.func12, Tryd.ntmps12
  go_wp2_with fail
  refine HS.out.mono ?_
  rintro e w1 ⟨rfl, l', hperm, hsort, hown, hgr⟩
  have hll : l'.length = l.length := hperm.length_eq
  obtain ⟨x, t, rfl⟩ : ∃ x t, l' = x :: t := by
    cases l' with
    | nil => simp at hll; omega
    | cons x t => exact ⟨x, t, rfl⟩
  have hsr := src_of hown hll.symm
  have hac := acc_first hown hll.symm
  have hb1 : Below D w w1 := (Below.refl D w).grown hgr (Nat.le_of_lt hD) (fun k hk => by cases hk; omega)
  have hD1 : D < w1.heap.size := Nat.lt_of_lt_of_le hD hgr.size
  have hvs : ∀ p ∈ x :: t, Small p := fun p hp => hV.out p (hperm.mem_iff.1 hp)
  generalize hR : joinGo [] x.1 x.2 t = R
  have htl : t.length + 1 = l.length := by simpa using hll
  have HR := Lib.hid hR
  have HP := Lib.hid hperm
  have HSO := Lib.hid hsort
  have HSR := Lib.hid hsr
  have HAC := Lib.hid hac
  have HB1 := Lib.hid hb1
  have HVS := Lib.hid hvs
  have HTL := Lib.hid htl
  have htl2 : t.length ≤ 31 := by omega
  clear hown hgr hsr hac hb1 hperm hsort hvs hR hll htl hV HS
  go_wp2
  go_loopw [3, 14] (fun lv i wr => ∃ (k : Nat) (ini : List (Int × Int)) (lo hi : Int) (b c : Nat), k ≤ t.length ∧ i = .int .i64 k ∧ lv = .slice (some ⟨b, 0, none⟩) (ini.length + 1) c ∧ Acc D wr g b c ini lo hi ∧ Src wr g (x :: t) ∧ joinGo ini lo hi (t.drop k) = R ∧ ini.length ≤ k ∧ Small (lo, hi) ∧ Below D w wr ∧ D < wr.heap.size) (fun _ i _ => t.length - (intOf i).toNat)
  case atStart => exact ⟨0, [], x.1, x.2, g, 1, Nat.zero_le _, rfl, rfl, HAC.out, HSR.out, HR.out, Nat.le_refl _, HVS.out x (List.mem_cons_self ..), HB1.out, hD1⟩
  case round =>
    obtain ⟨k, ini, lo, hi, b, c, hk, rfl, rfl, hacc, hsrc, hgo, hik, hsm, hbw, hDw⟩ := hrel
    by_cases hlt : k < t.length
    · have hp := List.getElem?_eq_getElem hlt
      generalize t[k] = p at hp
      obtain ⟨s0, s1⟩ := hsrc.2 (k + 1) p (by omega) (by simpa using hp)
      rw [show (k + 1) * 2 = 2 + k * 2 by omega] at s0 s1
      obtain rfl : o = 2 := HO.out (by have := HTL.out; omega)
      have hps := HVS.out p (List.mem_cons_of_mem _ (List.mem_of_getElem? hp))
      rw [drop_at hp] at hgo
      obtain ⟨⟨p1, p2⟩, p3, p4⟩ := hps
      obtain ⟨⟨q1, q2⟩, q3, q4⟩ := hsm
      simp only at q1 q2 q3 q4
      have hl2 : k < l.length - 1 := by have := HTL.out; omega
      clear hp
      obtain ⟨px, py⟩ := p
      simp only at p1 p2 p3 p4 s0 s1 hgo
      obtain ⟨W1, hW1⟩ : ∃ W1, W1 = wr.alloc (.cells #[.int .i64 px, .int .i64 py] 30) := ⟨_, rfl⟩
      have hbl : Below wr.heap.size wr W1 := by rw [hW1]; exact (Below.refl _ wr).alloc (Nat.le_refl _) _
      have e0 : W1.cell? ⟨wr.heap.size, 0, none⟩ = some (.int .i64 px) := by rw [hW1]; exact World.cell?_alloc_new _ _ _ _
      have e1 : W1.cell? ⟨wr.heap.size, 1, none⟩ = some (.int .i64 py) := by rw [hW1]; exact World.cell?_alloc_new _ _ _ _
      have ha1 := hacc.kept (hbl.block b hacc.lt)
      have hs1 := hsrc.kept hbl.size (hbl.block g hsrc.1)
      have hb1 := hbw.trans (hbl.mono (Nat.le_of_lt hDw))
      have hD2 : D < W1.heap.size := Nat.lt_of_lt_of_le hDw hbl.size
      have d0 := ha1.c1
      have hw1 : IntKind.i64.wrap (hi + 1) = hi + 1 := by rw [IntWalk.i64_in _ (by omega)]
      have HA := Lib.hid ha1
      have HS1 := Lib.hid hs1
      have HB := Lib.hid hb1
      have HGo := Lib.hid hgo
      clear hbl ha1 hs1 hb1 hacc hsrc hbw hgo
      go_wp2_with fail
      rw [← hW1]
      clear hW1 s0 s1
      by_cases hj : hi + 1 < px
      · have hgo2 : joinGo (ini ++ [(lo, hi)]) px py (t.drop (k + 1)) = R := by have := HGo.out; unfold joinGo at this; rwa [if_pos hj] at this
        have HGo2 := Lib.hid hgo2
        clear hgo2 HGo
        go_quiet (fail)
        have ha2 : Acc D (W1.drewN nq) g b c ini lo hi := HA.out.kept rfl
        have hs2 : Src (W1.drewN nq) g (x :: t) := HS1.out.kept (Nat.le_refl _) rfl
        have hb2 : Below D w (W1.drewN nq) := HB.out.trans ⟨rfl, rfl, rfl, Nat.le_refl _, fun _ _ => rfl⟩
        have x0 : (W1.drewN nq).cell? ⟨wr.heap.size, 0, none⟩ = some (.int .i64 px) := e0
        have x1 : (W1.drewN nq).cell? ⟨wr.heap.size, 1, none⟩ = some (.int .i64 py) := e1
        have hD3 : D < (W1.drewN nq).heap.size := hD2
        clear e0 e1 d0 hw1 HA HS1 HB hD2
        generalize W1.drewN nq = W2 at *
        obtain ⟨b', c', w', hr, hacc', hkeep, hbel⟩ := ha2.app (px, py) hs2.1 hD3 (by omega)
        have hsz := hbel.size
        have HR2 := Lib.hid hr
        have HA2 := Lib.hid hacc'
        have HS2 := Lib.hid (hs2.kept hsz (hkeep g hs2.1 (Or.inr rfl)))
        have HB2 := Lib.hid (hb2.trans hbel)
        have hD4 : D < w'.heap.size := Nat.lt_of_lt_of_le hD3 hsz
        clear hr hacc' hkeep hbel ha2 hs2 hb2
        go_wp2_with (at_builtin; refine wpList_append_run _ rfl _ _ 22 22 rfl _ _ rfl rfl _ w' HR2.out ?_)
        go_roundw
        case rel => exact ⟨k + 1, ini ++ [(lo, hi)], px, py, b', c', by omega, by go_num, by simp, HA2.out, HS2.out, HGo2.out, by simp; omega, ⟨⟨p1, p2⟩, p3, p4⟩, HB2.out, hD4⟩
        case measure => simp [intOf]; omega
      · have hgo2 : joinGo ini lo (max hi py) (t.drop (k + 1)) = R := by have := HGo.out; unfold joinGo at this; rwa [if_neg hj] at this
        go_quiet (fail)
        have ha2 : Acc D (W1.drewN nq) g b c ini lo hi := HA.out.kept rfl
        have hs2 : Src (W1.drewN nq) g (x :: t) := HS1.out.kept (Nat.le_refl _) rfl
        have hb2 : Below D w (W1.drewN nq) := HB.out.trans ⟨rfl, rfl, rfl, Nat.le_refl _, fun _ _ => rfl⟩
        have x0 : (W1.drewN nq).cell? ⟨wr.heap.size, 0, none⟩ = some (.int .i64 px) := e0
        have x1 : (W1.drewN nq).cell? ⟨wr.heap.size, 1, none⟩ = some (.int .i64 py) := e1
        have hD3 : D < (W1.drewN nq).heap.size := hD2
        have hbg : D < b := by
          rcases ha2.at' with ⟨rfl, _⟩ | ⟨_, h2, _⟩
          · omega
          · exact h2
        clear e0 e1 d0 hw1 HA HS1 HB hD2 HGo
        generalize W1.drewN nq = W2 at *
        have h3 : Acc D (W2.drew.setCell ⟨b, ini.length * 2 + 1, none⟩ (.int .i64 (max hi py))) g b c ini lo (max hi py) := (ha2.kept (w' := W2.drew) rfl).max _
        have hs3 : Src (W2.drew.setCell ⟨b, ini.length * 2 + 1, none⟩ (.int .i64 (max hi py))) g (x :: t) := hs2.kept2 ha2 _
        have hb3 : Below D w (W2.drew.setCell ⟨b, ini.length * 2 + 1, none⟩ (.int .i64 (max hi py))) := hb2.drew.setCell (Nat.le_of_lt hbg) _
        have hD5 : D < (W2.drew.setCell ⟨b, ini.length * 2 + 1, none⟩ (.int .i64 (max hi py))).heap.size := by simpa [World.setCell] using hD3
        have y1 := ha2.c1
        have z1 := ha2.f1
        have HA3 := Lib.hid h3
        have HS3 := Lib.hid hs3
        have HB3 := Lib.hid hb3
        have HD5 := Lib.hid hD5
        have HGo2 := Lib.hid hgo2
        clear h3 hs3 hb3 hD5 hgo2 ha2 hs2 hb2
        go_wp2_with fail
        go_still_tail 10, (by kernel_rfl)
        change wpList _ _ _ _ _ W2.drew
        go_wp2
        go_roundw
        case rel => exact ⟨k + 1, ini, lo, max hi py, b, c, by omega, by go_num, rfl, HA3.out, HS3.out, HGo2.out, by omega, ⟨⟨q1, q2⟩, by simp only; omega, by simp only; omega⟩, HB3.out, HD5.out⟩
        case measure => simp [intOf]; omega
    · have hk : k = t.length := by omega
      subst hk
      rw [List.drop_of_length_le (Nat.le_refl _)] at hgo
      have HGo := Lib.hid hgo
      have HPR := Lib.hid hacc.prs
      have hl2 : ¬ t.length < l.length - 1 := by have := HTL.out; omega
      clear hgo hacc hsrc
      go_wp2
      go_ret
      exact ⟨_, x :: t, x, t, rfl, rfl, HP.out, HSO.out, by rw [HR.out, ← HGo.out]; exact HPR.out, hbw⟩
theorem joined_any_v (D : Nat) (w : World) (v : Value) (l : List (Int × Int)) (h : OwnsP (D + 1) w v l) (hn : l.length ≤ 32) (h1 : 1 ≤ l.length) (hD : D < w.heap.size) (hv : ∀ p ∈ l, Small p) :
    Calls Tryd.prog 12 #[v] w (JoinR D w l) := by
  rcases h.2 with ⟨_, h0⟩ | ⟨g, cap, cur, rfl, _⟩
  · omega
  · exact joined_any D g cap w l h hn h1 hD hv
end Go.Proofs.YtpmakbjchepkmaaDoor
