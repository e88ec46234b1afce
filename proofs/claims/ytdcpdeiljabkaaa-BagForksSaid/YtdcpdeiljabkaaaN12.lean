/- Bag, the document's own: one is there no more (out), First, New. -/
import Derived.Test.YtdcpdeiljabkaaaN11
namespace Go.Proofs.Ytdcpdeiljabkaaa
open Go Go.RowKit

/-- The document's bag in block q reads as r; at most c were laid in; the bytes lie below N. -/
structure RK (N : Nat) (w : World) (q : Nat) (r : Bg) (c : Nat) (av : Value) (us : List UV) (tv : Value) (ts : List Bool) : Prop where
  rb : RB N w q r.most r.lost av us tv ts
  cur : rcur (us.map (·.1)) ts = r.us
  low : ∀ x ∈ us, x.1.bytes ≠ [] → ∀ g, x.2.ownBlock = some g → g < N
  cnt : us.length ≤ c
def RefR (N : Nat) (w : World) (q : Nat) (c : Nat) (av tv : Value) (r' : Bg) (w' : World) : Prop :=
  ∃ av' us' tv' ts', RK N w' q r' c av' us' tv' ts' ∧ Fr (· = q) w w' ∧ (∀ g, av'.ownBlock = some g → av.ownBlock = some g ∨ w.heap.size ≤ g) ∧ (∀ g, tv'.ownBlock = some g → tv.ownBlock = some g ∨ w.heap.size ≤ g)
theorem RK.below {N q c : Nat} {r : Bg} {w w' : World} {av tv : Value} {us : List UV} {ts : List Bool} (h : RK N w q r c av us tv ts) (hb : Below w.heap.size w w') : RK N w' q r c av us tv ts :=
  ⟨h.rb.below hb, h.cur, h.low, h.cnt⟩
theorem RK.len {N q c : Nat} {r : Bg} {w : World} {av tv : Value} {us : List UV} {ts : List Bool} (h : RK N w q r c av us tv ts) : cntT ts = r.us.length := by
  rw [← h.cur, rcur_len _ _ (by rw [List.length_map]; exact h.rb.len)]
theorem RefR.same {N q c : Nat} {r : Bg} {w w' : World} {av tv : Value} {us : List UV} {ts : List Bool} (h : RK N w q r c av us tv ts) (hb : Below w.heap.size w w') : RefR N w q c av tv r w' :=
  ⟨av, us, tv, ts, h.below hb, Fr.of_below _ hb, fun g hg => Or.inl hg, fun g hg => Or.inl hg⟩
/-- Ahead of it other blocks are made; behind it new ones are written to. -/
theorem RefR.lift {N q c : Nat} {r r' : Bg} {w wx wy w' : World} {av tv : Value} {us : List UV} {ts : List Bool} (h0 : RK N w q r c av us tv ts) (hb : Below w.heap.size w wx) (h : RefR N wx q c av tv r' wy)
    {k0 : Nat} (hf : Fr (fun k => k = k0) wy w') (hk0 : w.heap.size ≤ k0 ∧ k0 < wx.heap.size) : RefR N w q c av tv r' w' := by
  obtain ⟨av', us', tv', ts', h1, h2, h3, h4⟩ := h
  have hqn : q < w.heap.size := h0.rb.lt
  have hkn : ∀ g, g = q ∨ HasB av' us' g ∨ tv'.ownBlock = some g → g < wy.heap.size ∧ g ≠ k0 := fun g hg => by
    have hav : ∀ g, av.ownBlock = some g → g < w.heap.size := fun g hg => (World.ownsRow.lt h0.rb.all.own g hg).2
    have htv : ∀ g, tv.ownBlock = some g → g < w.heap.size := fun g hg => (World.ownsRow.lt h0.rb.tr g hg).2
    rcases hg with rfl | hg | hg
    · exact ⟨h1.rb.lt, by omega⟩
    · refine ⟨h1.rb.all.lt g hg, ?_⟩
      rcases hg with hg | ⟨x, hx, hn, hg⟩
      · rcases h3 g hg with h | h
        · have := hav g h; omega
        · omega
      · have := h1.low x hx hn g hg
        have := h0.rb.base
        omega
    · refine ⟨(World.ownsRow.lt h1.rb.tr g hg).2, ?_⟩
      rcases h4 g hg with h | h
      · have := htv g h; omega
      · omega
  refine ⟨av', us', tv', ts', ⟨h1.rb.kept hf.size (fun g hg => hf.block g (hkn g hg).1 (hkn g hg).2), h1.cur, h1.low, h1.cnt⟩, ?_, fun g hg => (h3 g hg).imp id (fun h => by have := hb.size; omega), fun g hg => (h4 g hg).imp id (fun h => by have := hb.size; omega)⟩
  exact ((Fr.of_below (fun k => k = q) hb).trans h2 (fun _ _ h => h) (fun _ _ h => h)).trans hf (fun _ _ h => h) (fun k hk e => by subst e; omega)
theorem at_has {N q c : Nat} {r : Bg} {w : World} {av tv : Value} {us : List UV} {ts : List Bool} (h : RK N w q r c av us tv ts) (i : Int) :
    (r.has i = true → ∃ (j : Nat) (x : UV), (if i < 0 then -1 else atF ts 0 i.toNat) = (j : Int) ∧ j < ts.length ∧ us[j]? = some x ∧ r.us[i.toNat]? = some x.1 ∧ rcur (us.map (·.1)) (ts.set j false) = r.us.eraseIdx i.toNat) ∧ (r.has i = false → (if i < 0 then -1 else atF ts 0 i.toNat) = -1) := by
  obtain ⟨h1, h2⟩ := at_spec (us.map (·.1)) ts 0 i.toNat (by rw [List.length_map]; exact h.rb.len)
  rw [h.cur] at h1 h2
  unfold Bg.has
  refine ⟨fun hh => ?_, fun hh => ?_⟩
  · simp only [Bool.and_eq_true, decide_eq_true_eq] at hh
    rw [if_neg (by omega)]
    obtain ⟨j, e1, e2, e3, e4⟩ := h1 (by omega)
    have hju : j < us.length := by rw [h.rb.len]; exact e2
    refine ⟨j, us[j], by rw [e1, Nat.zero_add], e2, List.getElem?_eq_getElem hju, ?_, e4⟩
    rw [← e3, List.getElem?_map, List.getElem?_eq_getElem hju]
    rfl
  · by_cases hi : i < 0
    · rw [if_pos hi]
    · rw [if_neg hi]
      refine h2 (fun hl => ?_)
      have : ¬ (i < (r.us.length : Int)) := by
        simp [show (0 : Int) ≤ i by omega] at hh
        omega
      omega
/-- What out does: the messages stand. -/
def OutR (N : Nat) (w : World) (q : Nat) (c : Nat) (av : Value) (us : List UV) (tv : Value) (ts' : List Bool) (r' : Bg) (w' : World) : Prop :=
  ∃ tv', RK N w' q r' c av us tv' ts' ∧ Fr (· = q) w w' ∧ ∀ g, tv'.ownBlock = some g → tv.ownBlock = some g ∨ w.heap.size ≤ g
theorem OutR.ref {N q c : Nat} {r' : Bg} {w w' : World} {av tv : Value} {us : List UV} {ts' : List Bool} (h : OutR N w q c av us tv ts' r' w') : RefR N w q c av tv r' w' := by
  obtain ⟨tv', h1, h2, h3⟩ := h
  exact ⟨av, us, tv', ts', h1, h2, fun g hg => Or.inl hg, h3⟩
theorem over_one {α : Type} (l : List α) (k : Nat) (y : α) (h : k < l.length) : over l k [y] = l.set k y := by rw [← over_cons l k y [] h, over_nil]
set_option maxHeartbeats 4000000 in
set_option maxRecDepth 100000 in
theorem rout_any (N q c : Nat) (w : World) (r r' : Bg) (av tv : Value) (us : List UV) (ts : List Bool) (k : Nat) (h : RK N w q r c av us tv ts) (hk : k < ts.length) (hc : c ≤ 1000) (hr' : r'.most = r.most ∧ r'.lost = r.lost ∧ rcur (us.map (·.1)) (ts.set k false) = r'.us) :
    Calls Try.prog 33 #[.pointer (some ⟨q, 0, none⟩), .int .i64 (k : Int)] w fun e w' => e = .returned (.tuple #[]) ∧ OutR N w q c av us tv (ts.set k false) r' w' := by
  have hN := Nat.le_trans h.rb.base (Nat.le_of_lt h.rb.lt)
  have hn : ts.length ≤ 1000 := by have := h.cnt; have := h.rb.len; omega
  obtain ⟨i1, hi1, hz, hs, hby⟩ := info_parts (show (Try.prog.info? 4).map (fun i => (i.zero, i.size, i.bytes)) = some (some (.bool false), 1, 1) by kernel_rfl)
  obtain ⟨ta, tc, htv, _⟩ := owns_shape h.rb.tr
  obtain ⟨W1, hW1⟩ : ∃ W1, w.alloc (.cells #[] 4) = W1 := ⟨_, rfl⟩
  have hb1 : Below w.heap.size w W1 := by rw [← hW1]; exact (Below.refl _ w).alloc (Nat.le_refl _) _
  have hs1 : W1.heap.size = w.heap.size + 1 := by rw [← hW1]; simp
  have hE : W1.ownsRow N 4 1 (.slice (some ⟨w.heap.size, 0, none⟩) 0 0) 0 [] := owns_of_row (by rw [← hW1]; exact heap_alloc_new w _) hN rfl (Nat.zero_le _)
  have hK1 := h.below hb1
  obtain ⟨g', c', W2, hrun, hown, hgr, hwh⟩ := app_any (P := Try.prog) W1 N 60 4 i1 (.bool false) 1 1 Try.underlying60 hi1 hz hs hby rfl (by decide) w.heap.size 0 0 [] hE tv ts.length _ (World.ownsRow.mono hK1.rb.tr (Nat.zero_le _)) (fun u hu => by obtain ⟨t, _, rfl⟩ := List.mem_map.1 hu; rfl) (by unfold maxLen; omega) (by omega) (by omega)
  rw [Nat.zero_add] at hrun hown
  rw [List.nil_append] at hown
  have hb2 : Below w.heap.size w W2 := hb1.grown hgr (by omega) (fun k hk => by cases hk; exact Nat.le_refl _)
  have hg' : w.heap.size ≤ g' := by rcases hwh with h | h <;> omega
  obtain ⟨W3, hW3⟩ : ∃ W3, W2.setCell ⟨g', k, none⟩ (.bool false) = W3 := ⟨_, rfl⟩
  have hown3 : W3.ownsRow N 4 1 (.slice (some ⟨g', 0, none⟩) ts.length c') (ts.set k false).length ((ts.set k false).map Value.bool) := by
    have := owns_set hown k [.bool false] (by simp; omega)
    rw [over_one _ _ _ (by rw [List.length_map]; exact hk)] at this
    rw [← hW3, List.length_set, List.map_set]
    exact this
  have hf3 : Fr (fun k => k = g') W2 W3 := by rw [← hW3]; exact (Fr.refl (fun k => k = g') W2).setCell ⟨g', k, none⟩ (Or.inl rfl) _
  have hb3 : Below w.heap.size w W3 := hb2.trans (hf3.below hb2.size (fun k e => by omega))
  obtain ⟨W4, hW4⟩ : ∃ W4, W3.setCell ⟨q, 2, none⟩ (.slice (some ⟨g', 0, none⟩) ts.length c') = W4 := ⟨_, rfl⟩
  have hf4 : Fr (· = q) W3 W4 := by rw [← hW4]; exact (Fr.refl (· = q) W3).setCell ⟨q, 2, none⟩ (Or.inl rfl) _
  have hK3 := h.below hb3
  have hqlt := h.rb.lt
  have HEND : Hid (OutR N w q c av us tv (ts.set k false) r' W4) := Lib.hid (by
    refine ⟨.slice (some ⟨g', 0, none⟩) ts.length c', ⟨⟨?_, ?_, ?_, ?_, h.rb.neA, ?_, h.rb.base⟩, hr'.2.2, h.low, h.cnt⟩, ?_, fun g hg => ?_⟩
    · rw [hr'.1, hr'.2.1, ← hW4]
      exact heap_setCell_same W3 q 2 _ _ _ hK3.rb.row
    · exact hK3.rb.all.kept hf4.size (fun g hg => hf4.block g (hK3.rb.all.lt g hg) (h.rb.neA g hg))
    · have : (Value.slice (some ⟨g', 0, none⟩) ts.length c').ownBlock = some g' := rfl
      exact owns_frame hown3 (fun g hg => hf4.block g (World.ownsRow.lt hown3 g hg).2 (by rw [this] at hg; injection hg with hg; omega))
    · rw [List.length_set]; exact h.rb.len
    · intro g hg
      simp [Value.ownBlock] at hg
      omega
    · exact (Fr.of_below (fun k => k = q) hb3).trans hf4 (fun _ _ h => h) (fun _ _ h => h)
    · simp [Value.ownBlock] at hg
      exact Or.inr (by omega))
  have d2 : W1.cell? ⟨q, 2, none⟩ = some tv := hK1.rb.cells.2.2.1
  have hth := owns_there (n := ts.length) (size := 1) (base := N) hown k 1 (by omega)
  have hth0 := hth 0 (by omega)
  rw [Nat.add_zero] at hth0
  obtain ⟨old, hold⟩ : ∃ t, W2.cell? ⟨g', k, none⟩ = some (.bool t) := by
    have hkk := List.getElem?_eq_getElem hk
    obtain ⟨g, c, e, hc⟩ := owns_bool hown k _ hkk
    injection e with e1 _ _
    injection e1 with e1
    injection e1 with e1
    subst e1
    exact ⟨_, hc⟩
  have hfz := hth0.2
  have e2 : W3.cell? ⟨q, 2, none⟩ = some tv := hK3.rb.cells.2.2.1
  have e3 : W3.frozen? ⟨q, 2, none⟩ = false := hK3.rb.cells.2.2.2.2.2.1
  subst htv
  have HRUN := Lib.hid hrun
  have HW1 := Lib.hid hW1
  have HW3 := Lib.hid hW3
  have HW4 := Lib.hid hW4
  have hkn : (k : Int) < (ts.length : Int) := by omega
  have HN : Hid (w.heap.size = w.heap.size) := Lib.hid rfl
  clear h hr' hN hi1 hz hs hby hb1 hs1 hE hK1 hown hgr hwh hb2 hg' hown3 hf3 hb3 hf4 hK3 hqlt hth hth0 hW1 hW3 hW4 hrun
  go_enter Try.func33, Try.ntmps33
  go_wp2_with (first
    | rw [HW1.out]
    | rw [HW3.out]
    | rw [HW4.out]
    | (at_builtin; refine wpList_append_run _ rfl _ _ 60 60 rfl _ _ rfl rfl _ W2 HRUN.out ?_))
  exact bodyPost_end (results_none rfl _ _ _) rfl ⟨rfl, HEND.out⟩
set_option maxHeartbeats 4000000 in
set_option maxRecDepth 100000 in
theorem rfirst_any (N q c : Nat) (w : World) (r : Bg) (av tv : Value) (us : List UV) (ts : List Bool) (t : Int) (h : RK N w q r c av us tv ts) (hc : c ≤ 1000) :
    Calls Try.prog 30 #[.pointer (some ⟨q, 0, none⟩), .int .i64 t] w fun e w' => e = .returned (.tuple #[.int .i64 (firstF t 0 r.us).1, .bool (firstF t 0 r.us).2]) ∧ w = w' := by
  obtain ⟨F1, F2, hF⟩ : ∃ a c, firstF t 0 r.us = (a, c) := ⟨_, _, rfl⟩
  rw [hF]
  have hlu := h.cnt
  have hlt := h.rb.len
  have HF : Hid (firstF t 0 (rcur ((us.map (·.1)).drop 0) (ts.drop 0)) = (F1, F2)) := Lib.hid (by rw [List.drop_zero, List.drop_zero, h.cur]; exact hF)
  obtain ⟨c0, c1, c2, _⟩ := h.rb.cells
  have HAT := Lib.hid (owns_bool h.rb.tr)
  have HAU : Hid (∀ k x, us[k]? = some x → ∃ g c, av = .slice (some ⟨g, 0, none⟩) us.length c ∧ w.cell? ⟨g, k * 3 + 1, none⟩ = some (.int .i64 x.1.dst)) := Lib.hid (fun k x hx => by
    obtain ⟨g, c, e, hr⟩ := h.rb.all.at k x hx
    exact ⟨g, c, e, hr 1 _ rfl⟩)
  obtain ⟨ta, tc, rfl, _⟩ := owns_shape h.rb.tr
  obtain ⟨aa, ac, rfl, _⟩ := owns_shape h.rb.all.own
  clear h hF
  go_enter Try.func30, Try.ntmps30
  go_wp2
  go_loop [6, 7] (fun nv iv => ∃ k n : Nat, k ≤ us.length ∧ n ≤ k ∧ iv = .int .i64 (k : Int) ∧ nv = .int .i64 (n : Int) ∧ Hid (firstF t n (rcur ((us.map (·.1)).drop k) (ts.drop k)) = (F1, F2))) (fun nv iv => us.length - (intOf iv).toNat)
  case atStart => exact ⟨0, 0, Nat.zero_le _, Nat.le_refl _, rfl, rfl, HF⟩
  case round =>
    clear HF
    obtain ⟨k, n, hk, hnk, rfl, rfl, hH⟩ := hrel
    by_cases hlt2 : k < us.length
    · have hlt' : (k : Int) < (us.length : Int) := by omega
      have hlt'' : (k : Int) < (ts.length : Int) := by omega
      obtain ⟨x, hx⟩ : ∃ x, us[k]? = some x := ⟨_, List.getElem?_eq_getElem hlt2⟩
      obtain ⟨b, hb⟩ : ∃ b, ts[k]? = some b := ⟨_, List.getElem?_eq_getElem (show k < ts.length by omega)⟩
      obtain ⟨gt, ct, et, ht⟩ := HAT.out k b hb
      obtain ⟨gu, cu, eu, hu⟩ := HAU.out k x hx
      injection et with e1 _ _
      injection eu with e2 _ _
      subst e1 e2
      have hgo := hH.out
      rw [drop_atn hb, drop_atn (show (us.map (·.1))[k]? = some x.1 by rw [List.getElem?_map, hx]; rfl)] at hgo
      clear hH hx hb HAT HAU
      cases b with
      | false =>
        rw [rcur] at hgo
        have HG := Lib.hid hgo
        clear hgo
        go_wp2
        go_round
        case rel => exact ⟨k + 1, n, by omega, by omega, by go_num, rfl, HG⟩
        case measure => simp [intOf]; omega
      | true =>
        rw [rcur, firstF] at hgo
        cases he : (x.1.dst == t) with
        | true =>
          rw [he, if_pos rfl] at hgo
          have HG := Lib.hid hgo
          clear hgo
          go_wp2
          go_ret2
          exact ⟨ret_pair HG.out, rfl⟩
        | false =>
          rw [he, if_neg (by simp)] at hgo
          have HG := Lib.hid hgo
          clear hgo
          go_wp2
          go_round
          case rel => exact ⟨k + 1, n + 1, by omega, by omega, by go_num, by go_num, HG⟩
          case measure => simp [intOf]; omega
    · have hkl : k = us.length := by omega
      have hgo := hH.out
      rw [List.drop_of_length_le (show (us.map (·.1)).length ≤ k by rw [List.length_map]; omega), List.drop_of_length_le (show ts.length ≤ k by omega), rcur, firstF] at hgo
      have hlt' : ¬ (k : Int) < (us.length : Int) := by omega
      have HG := Lib.hid hgo
      clear hgo hH hkl
      go_wp2
      go_ret2
      exact ⟨ret_pair HG.out, rfl⟩
set_option maxRecDepth 100000 in
theorem rnew_bad (n : Int) (w : World) (h : n < 1 ∨ 48 < n) :
    Calls Try.prog 22 #[.int .i64 n] w fun e w' => e = .returned (.tuple #[.pointer none, .int .i64 2]) ∧ w = w' := by
  have h' : n < 1 ∨ (¬ n < 1 ∧ 48 < n) := by omega
  clear h
  rcases h' with h | ⟨h1, h2⟩
  all_goals
    go_enter Try.func22, Try.ntmps22
    go_wp2
    go_ret2
    exact ⟨rfl, rfl⟩
set_option maxRecDepth 100000 in
theorem rnew_any (N n : Nat) (w : World) (h1 : 1 ≤ n) (h2 : n ≤ 48) (hB : N ≤ w.heap.size) :
    Calls Try.prog 22 #[.int .i64 (n : Int)] w fun e w' => e = .returned (.tuple #[.pointer (some ⟨w.heap.size, 0, none⟩), .int .i64 0]) ∧ RK N w' w.heap.size ⟨n, 0, []⟩ 0 (.slice none 0 0) [] (.slice none 0 0) [] ∧ Below w.heap.size w w' := by
  have HE : Hid (RK N (w.alloc (.cells #[.int .i64 (n : Int), .slice none 0 0, .slice none 0 0, .int .i64 0] 62)) w.heap.size ⟨n, 0, []⟩ 0 (.slice none 0 0) [] (.slice none 0 0) [] ∧ Below w.heap.size w (w.alloc (.cells #[.int .i64 (n : Int), .slice none 0 0, .slice none 0 0, .int .i64 0] 62))) := Lib.hid
    ⟨⟨⟨heap_alloc_new w _, UvAt.nil _ _, World.ownsRow_nil _ _ _ _, rfl, fun g hg => absurd hg (hasB_nil g), (fun g hg => by simp [Value.ownBlock] at hg), hB⟩, rfl, (fun x hx => by cases hx), Nat.le_refl _⟩, (Below.refl _ w).alloc (Nat.le_refl _) _⟩
  have h1' : ¬ (n : Int) < 1 := by omega
  have h2' : ¬ (48 : Int) < (n : Int) := by omega
  go_enter Try.func22, Try.ntmps22
  go_wp2
  go_ret2
  exact ⟨rfl, HE.out⟩
end Go.Proofs.Ytdcpdeiljabkaaa
