/- Box: does a number lie in ranges? A part cut out of its text is a set of that part alone; how far a text is cut. -/
import Derived.Test.YtpmakbjchepkmaaDoorCT
namespace Go.Proofs.YtpmakbjchepkmaaDoor
open Go Go.RowKit

def inB (n : Int) (p : Rg) : Bool := decide (p.1 ≤ n) && decide (n ≤ p.2)
set_option maxHeartbeats 2000000 in
set_option maxRecDepth 100000 in
theorem in1_any (n : Int) (p : Rg) (b : Nat) (w : World) (hc : w.cell? ⟨b, 0, none⟩ = some (.int .i64 n)) :
    Calls Tryd.prog 18 #[.agg #[.int .i64 p.1, .int .i64 p.2], .pointer (some ⟨b, 0, none⟩)] w fun e w' => e = .returned (.bool (inB n p)) ∧ Below w.heap.size w w' := by
  have hlt := World.block_lt_of_cell? w _ hc
  simp only at hlt
  have b1 : Below w.heap.size w (w.alloc (.cells #[.int .i64 p.1, .int .i64 p.2] 30)) := (Below.refl _ w).alloc (Nat.le_refl _) _
  have hc1 := (b1.cell (p := ⟨b, 0, none⟩) hlt).trans hc
  have HB := Lib.hid b1
  clear b1 hc
  have hsp : (¬ p.1 ≤ n) ∨ (p.1 ≤ n ∧ n ≤ p.2) ∨ (p.1 ≤ n ∧ ¬ n ≤ p.2) := by omega
  rcases hsp with h | ⟨h, h'⟩ | ⟨h, h'⟩
  · have HI : Hid (inB n p = false) := Lib.hid (by unfold inB; rw [decide_eq_false h]; rfl)
    go_enter Tryd.func18, Tryd.ntmps18
    go_wp2
    go_ret
    exact ⟨ret_bool HI.out.symm, HB.out⟩
  · have HI : Hid (inB n p = true) := Lib.hid (by unfold inB; rw [decide_eq_true h, decide_eq_true h']; rfl)
    go_enter Tryd.func18, Tryd.ntmps18
    go_wp2
    go_ret
    exact ⟨ret_bool HI.out.symm, HB.out⟩
  · have HI : Hid (inB n p = false) := Lib.hid (by unfold inB; rw [decide_eq_true h, decide_eq_false h']; rfl)
    go_enter Tryd.func18, Tryd.ntmps18
    go_wp2
    go_ret
    exact ⟨ret_bool HI.out.symm, HB.out⟩
set_option maxHeartbeats 4000000 in
set_option maxRecDepth 100000 in
theorem idxP_any (n : Int) (v : Value) (l : List Rg) (b : Nat) (w : World) (hv : PrsN w v l) (hc : w.cell? ⟨b, 0, none⟩ = some (.int .i64 n)) (hl : l.length ≤ 1000000) :
    Calls Tryd.prog 33 #[v, .func (.func 18) #[] #[.pointer (some ⟨b, 0, none⟩)]] w fun e w' => e = .returned (.int .i64 (idxFrom (inB n) 0 l)) ∧ Below w.heap.size w w' := by
  obtain ⟨a, c, rfl, _⟩ := id hv
  have hlt0 := World.block_lt_of_cell? w _ hc
  simp only at hlt0
  have HV := Lib.hid hv
  have HU := Lib.hid (fun p W (hW : Below w.heap.size w W) => in1_any n p b W ((hW.cell (p := ⟨b, 0, none⟩) hlt0).trans hc))
  generalize hF : idxFrom (inB n) 0 l = F
  have HF := Lib.hid hF
  clear hF hv hc
  go_enter Tryd.func33, Tryd.ntmps33
  go_wp2
  go_loopw [8] (fun i wr => ∃ k : Nat, k ≤ l.length ∧ i = .int .i64 k ∧ idxFrom (inB n) k (l.drop k) = F ∧ Below w.heap.size w wr) (fun i _ => l.length - (intOf i).toNat)
  case atStart => exact ⟨0, Nat.zero_le _, rfl, HF.out, Below.refl _ _⟩
  case round =>
    obtain ⟨k, hk, rfl, hgo, hbw⟩ := hrel
    by_cases hlt : k < l.length
    · obtain ⟨p, hp⟩ : ∃ p, l[k]? = some p := ⟨_, List.getElem?_eq_getElem hlt⟩
      rw [drop_at hp] at hgo
      obtain ⟨_, _, e1, h1⟩ := HV.out.below hbw
      cases e1
      obtain ⟨g, rfl, hg, d0, d1⟩ := h1 k p hp
      have HC := Lib.hid (HU.out p wr hbw)
      unfold idxFrom at hgo
      have HBW := Lib.hid hbw
      clear hp h1
      generalize hR : inB n p = R at *
      have hz := hbw.size
      clear hbw hR
      cases R with
      | true =>
        have HGo := Lib.hid hgo
        clear hgo
        go_wp2_with fail
        refine HC.out.mono ?_
        rintro e w1 ⟨rfl, hb1⟩
        have HB1 := Lib.hid (HBW.out.trans (hb1.mono HBW.out.size))
        clear hb1
        go_wp2
        go_ret
        exact ⟨ret_int HGo.out, HB1.out⟩
      | false =>
        have HGo : Hid (idxFrom (inB n) (k + 1) (l.drop (k + 1)) = F) := Lib.hid (by simpa using hgo)
        clear hgo
        go_wp2_with fail
        refine HC.out.mono ?_
        rintro e w1 ⟨rfl, hb1⟩
        have HB1 := Lib.hid (HBW.out.trans (hb1.mono HBW.out.size))
        clear hb1 d0 d1
        go_wp2
        go_roundw
        case rel => exact ⟨k + 1, by omega, by go_num, HGo.out, HB1.out⟩
        case measure => simp [intOf]; omega
    · have hk2 : k = l.length := by omega
      subst hk2
      rw [List.drop_length] at hgo
      have HGo : Hid (-1 = F) := Lib.hid hgo
      have HBW := Lib.hid hbw
      clear hgo hbw
      go_wp2
      go_ret
      exact ⟨ret_int HGo.out, HBW.out⟩
set_option maxHeartbeats 2000000 in
set_option maxRecDepth 100000 in
theorem contP_any (n : Int) (v : Value) (l : List Rg) (b : Nat) (w : World) (hv : PrsN w v l) (hc : w.cell? ⟨b, 0, none⟩ = some (.int .i64 n)) (hl : l.length ≤ 1000000) :
    Calls Tryd.prog 17 #[v, .func (.func 18) #[] #[.pointer (some ⟨b, 0, none⟩)]] w fun e w' => e = .returned (.bool (l.any (inB n))) ∧ Below w.heap.size w w' := by
  have HC := Lib.hid (idxP_any n v l b w hv hc hl)
  have HA := Lib.hid (idxFrom_any (inB n) l 0)
  obtain ⟨a, c, rfl, _⟩ := hv
  generalize idxFrom (inB n) 0 l = F at *
  clear hc
  go_enter Tryd.func17, Tryd.ntmps17
  go_wp2_with fail
  refine HC.out.mono ?_
  rintro e w1 ⟨rfl, hb1⟩
  have HB := Lib.hid hb1
  clear hb1
  go_wp2
  go_ret
  exact ⟨ret_bool HA.out, HB.out⟩
set_option maxHeartbeats 2000000 in
set_option maxRecDepth 100000 in
theorem in_any (n : Int) (v : Value) (l : List Rg) (w : World) (hv : PrsN w v l) (hl : l.length ≤ 1000000) :
    Calls Tryd.prog 9 #[v, .int .i64 n] w fun e w' => e = .returned (.bool (l.any (inB n))) ∧ Below w.heap.size w w' := by
  have b1 : Below w.heap.size w (w.alloc (.cells #[.int .i64 n] 3)) := (Below.refl _ w).alloc (Nat.le_refl _) _
  have HC := Lib.hid (contP_any n v l w.heap.size _ (hv.below b1) (World.cell?_alloc_new w #[.int .i64 n] 3 0) hl)
  have HB := Lib.hid b1
  clear b1
  obtain ⟨a, c, rfl, _⟩ := hv
  go_enter Tryd.func9, Tryd.ntmps9
  go_wp2_with fail
  refine HC.out.mono ?_
  rintro e w1 ⟨rfl, hb1⟩
  have HB1 := Lib.hid (HB.out.trans (hb1.mono HB.out.size))
  clear hb1
  go_wp2
  go_ret
  exact ⟨rfl, HB1.out⟩

theorem digs_ext : ∀ (l : List UInt8) (n i m k : Nat) (v : Int) (i' : Nat), digs l n i = (v, i', true) → i' ≤ i + m → i ≤ i' ∧ digs (l.take m) n k = (v, k + (i' - i), true)
  | [], n, i, m, k, v, i', h, hm => by
    unfold digs at h
    simp only [Prod.mk.injEq, and_true] at h
    obtain ⟨rfl, rfl⟩ := h
    rw [List.take_nil, Nat.sub_self]
    exact ⟨Nat.le_refl _, rfl⟩
  | c :: t, n, i, m, k, v, i', h, hm => by
    unfold digs at h
    split at h
    · rename_i hd
      split at h
      · simp at h
      · rename_i hz
        have hge : i + 1 ≤ i' := (digs_ext t _ (i + 1) (i' - (i + 1) + (i + 1)) 0 v i' h (by omega)).1
        obtain ⟨m, rfl⟩ : ∃ m', m = m' + 1 := ⟨m - 1, by omega⟩
        obtain ⟨h1, h2⟩ := digs_ext t _ (i + 1) m (k + 1) v i' h (by omega)
        refine ⟨by omega, ?_⟩
        rw [List.take_succ_cons, digs, if_pos hd, if_neg hz, h2]
        rw [show k + 1 + (i' - (i + 1)) = k + (i' - i) by omega]
    · rename_i hd
      simp only [Prod.mk.injEq, and_true] at h
      obtain ⟨rfl, rfl⟩ := h
      refine ⟨Nat.le_refl _, ?_⟩
      rw [Nat.sub_self]
      cases m with
      | zero => rfl
      | succ m => rw [List.take_succ_cons, digs, if_neg hd]; rfl
theorem digs_nc : ∀ (l : List UInt8) (n i : Nat), ∀ c ∈ l.take ((digs l n i).2.1 - i), c.toNat ≠ 44
  | [], n, i, c, hc => by simp at hc
  | x :: t, n, i, c, hc => by
    unfold digs at hc
    split at hc
    · rename_i hd
      split at hc
      · simp at hc
      · have hge : i + 1 ≤ (digs t (10 * n + (x.toNat - 48)) (i + 1)).2.1 := digs_ge t _ (i + 1)
        rw [show (digs t (10 * n + (x.toNat - 48)) (i + 1)).2.1 - i = ((digs t (10 * n + (x.toNat - 48)) (i + 1)).2.1 - (i + 1)) + 1 by omega, List.take_succ_cons] at hc
        rcases List.mem_cons.1 hc with rfl | hc
        · omega
        · exact digs_nc t _ (i + 1) c hc
    · simp at hc
where
  digs_ge : ∀ (l : List UInt8) (n i : Nat), i ≤ (digs l n i).2.1
  | [], _, _ => Nat.le_refl _
  | c :: t, n, i => by
    unfold digs
    split
    · split
      · exact Nat.le_refl _
      · have := digs_ge t (10 * n + (c.toNat - 48)) (i + 1)
        omega
    · exact Nat.le_refl _
theorem digs_pos : ∀ (l : List UInt8) (n i : Nat), (digs l n i).2.2 = true → (1 ≤ n ∨ i < (digs l n i).2.1) → 1 ≤ (digs l n i).1
  | [], n, i, _, h2 => by
    unfold digs at h2 ⊢
    rcases h2 with h | h
    · simp only; omega
    · simp at h
  | c :: t, n, i, h, h2 => by
    unfold digs at h h2 ⊢
    split
    · rename_i hd
      rw [if_pos hd] at h h2
      split
      · rename_i hz; rw [if_pos hz] at h; simp at h
      · rename_i hz
        rw [if_neg hz] at h
        exact digs_pos t _ (i + 1) h (Or.inl (by omega))
    · rename_i hd
      rw [if_neg hd] at h2
      rcases h2 with h | h
      · simp only; omega
      · simp at h
theorem oneB_star1 (t : List UInt8) (i : Nat) : oneB (42 :: t) i = (-1, i + 1, true) := rfl
theorem oneB_num1 {t : List UInt8} (h : ∀ u, t ≠ 42 :: u) (i : Nat) : oneB t i = ((digs t 0 i).1, (digs t 0 i).2.1, (digs t 0 i).2.2 && decide (i < (digs t 0 i).2.1)) := by
  unfold oneB
  split
  · rename_i u; exact absurd rfl (h u)
  · rfl
theorem oneB_cases (t : List UInt8) : (∃ u, t = 42 :: u) ∨ (∀ u, t ≠ 42 :: u) := by
  cases t with
  | nil => exact Or.inr (fun u h => by cases h)
  | cons c u =>
    by_cases h : c = 42
    · exact Or.inl ⟨u, by rw [h]⟩
    · exact Or.inr (fun u' e => h (List.cons.inj e).1)
theorem oneB_ext {l : List UInt8} {i i' m k : Nat} {v : Int} (h : oneB l i = (v, i', true)) (hm : i' ≤ i + m) : i < i' ∧ oneB (l.take m) k = (v, k + (i' - i), true) := by
  rcases oneB_cases l with ⟨u, rfl⟩ | hn
  · rw [oneB_star1] at h
    simp only [Prod.mk.injEq, and_true] at h
    obtain ⟨rfl, rfl⟩ := h
    obtain ⟨m, rfl⟩ : ∃ m', m = m' + 1 := ⟨m - 1, by omega⟩
    rw [List.take_succ_cons, oneB_star1, show i + 1 - i = 1 by omega]
    exact ⟨by omega, rfl⟩
  · rw [oneB_num1 hn] at h
    simp only [Prod.mk.injEq, Bool.and_eq_true, decide_eq_true_eq] at h
    obtain ⟨h1, h2, h3, h4⟩ := h
    have hd : digs l 0 i = (v, i', true) := by rw [← h1, ← h2, ← h3]
    obtain ⟨h5, h6⟩ := digs_ext l 0 i m k v i' hd hm
    have hn2 : ∀ u, l.take m ≠ 42 :: u := by
      intro u e
      cases l with
      | nil => simp at e
      | cons c t =>
        cases m with
        | zero => simp at e
        | succ m =>
          rw [List.take_succ_cons] at e
          exact hn t (by rw [(List.cons.inj e).1])
    rw [oneB_num1 hn2, h6]
    refine ⟨by omega, ?_⟩
    simp only [Bool.true_and, Prod.mk.injEq, true_and, decide_eq_true_eq]
    omega
theorem oneB_nc (l : List UInt8) (i : Nat) : ∀ c ∈ l.take ((oneB l i).2.1 - i), c.toNat ≠ 44 := by
  rcases oneB_cases l with ⟨u, rfl⟩ | hn
  · intro c hc
    rw [oneB_star1, show i + 1 - i = 1 by omega] at hc
    simp at hc
    subst hc
    decide
  · rw [oneB_num1 hn]
    exact digs_nc l 0 i
theorem oneB_val {l : List UInt8} {i : Nat} (h : (oneB l i).2.2 = true) : (oneB l i).1 = -1 ∨ 1 ≤ (oneB l i).1 := by
  rcases oneB_cases l with ⟨u, rfl⟩ | hn
  · exact Or.inl rfl
  · rw [oneB_num1 hn] at h ⊢
    simp only [Bool.and_eq_true, decide_eq_true_eq] at h
    exact Or.inr (digs_pos l 0 i h.1 (Or.inr h.2))
/-- Both numbers of a part are numbers from 1 on, or stars. -/
def Posy (p : Int × Int) : Prop := (p.1 = -1 ∨ 1 ≤ p.1) ∧ (p.2 = -1 ∨ 1 ≤ p.2)
/-- A part and where it ends. -/
theorem pair_seg {s : ByteArray} {i j : Nat} {a b : Int} (h : pairB s i = (a, b, j, true)) (hj : j ≤ s.size) :
    i < j ∧ Posy (a, b) ∧ pairB (s.extract i j) 0 = (a, b, (s.extract i j).size, true) ∧ (s.extract i j).size = j - i ∧ ∀ k, i ≤ k → k < j → isAt s k 44 = false := by
  have hsz : ∀ x, x ≤ j → (s.extract x j).size = j - x := by
    intro x hx
    rw [ByteArray.size_extract]
    omega
  have hdata : (s.extract i j).data.toList = (s.data.toList.drop i).take (j - i) := Lib.extract_data s i j
  have hnc1 := oneB_nc (s.data.toList.drop i) i
  have hcc : ∀ (x y : Nat), x ≤ y → (∀ c ∈ (s.data.toList.drop x).take (y - x), c.toNat ≠ 44) → ∀ k, x ≤ k → k < y → isAt s k 44 = false := by
    intro x y hxy hh k hk1 hk2
    refine decide_eq_false (fun ⟨hks, e⟩ => ?_)
    have hm : s[k]'hks ∈ (s.data.toList.drop x).take (y - x) := by
      refine List.mem_of_getElem? (i := k - x) ?_
      rw [List.getElem?_take, if_pos (by omega), List.getElem?_drop, show x + (k - x) = k by omega]
      rw [List.getElem?_eq_getElem (by rw [← Lib.size_eq]; exact hks)]
      rfl
    have := hh _ hm
    rw [e] at this
    exact this rfl
  obtain ⟨x, hx⟩ : ∃ x, oneB (s.data.toList.drop i) i = x := ⟨_, rfl⟩
  obtain ⟨xa, xi, xo⟩ := x
  rw [hx] at hnc1
  simp only at hnc1
  have hv1 := fun (h : (oneB (s.data.toList.drop i) i).2.2 = true) => oneB_val h
  rw [hx] at hv1
  simp only at hv1
  by_cases hc : xo = true ∧ isAt s xi 58 = true
  · obtain ⟨rfl, hco⟩ := hc
    obtain ⟨z, hz⟩ : ∃ z, oneB (s.data.toList.drop (xi + 1)) (xi + 1) = z := ⟨_, rfl⟩
    obtain ⟨za, zi, zo⟩ := z
    have hp := pair_two hx hco hz
    rw [hp] at h
    simp only [Prod.mk.injEq] at h
    obtain ⟨rfl, rfl, rfl, rfl⟩ := h
    obtain ⟨hxs, hxc⟩ := isAt_lt hco
    have hnc2 := oneB_nc (s.data.toList.drop (xi + 1)) (xi + 1)
    rw [hz] at hnc2
    have hv2 := oneB_val (show (oneB (s.data.toList.drop (xi + 1)) (xi + 1)).2.2 = true by rw [hz])
    rw [hz] at hv2
    obtain ⟨l1, e1⟩ := oneB_ext (k := 0) (m := zi - i) hx (by have := (oneB_ext (k := 0) (m := zi) hz (by omega)).1; omega)
    obtain ⟨l2, e2⟩ := oneB_ext (k := xi - i + 1) (m := zi - (xi + 1)) hz (by omega)
    refine ⟨by omega, ⟨hv1 rfl, hv2⟩, ?_, hsz i (by omega), ?_⟩
    · have hx' : oneB ((s.extract i zi).data.toList.drop 0) 0 = (xa, xi - i, true) := by
        rw [List.drop_zero, hdata, e1, Nat.zero_add]
      have hz' : oneB ((s.extract i zi).data.toList.drop (xi - i + 1)) (xi - i + 1) = (za, zi - i, true) := by
        rw [hdata, List.drop_take, List.drop_drop, show i + (xi - i + 1) = xi + 1 by omega, show zi - i - (xi - i + 1) = zi - (xi + 1) by omega, e2]
        rw [show xi - i + 1 + (zi - (xi + 1)) = zi - i by omega]
      have hco' : isAt (s.extract i zi) (xi - i) 58 = true := by
        refine decide_eq_true ⟨by rw [hsz i (by omega)]; omega, ?_⟩
        rw [ByteArray.getElem_extract]
        rw [← hxc]
        congr 1
        omega
      rw [pair_two hx' hco' hz', hsz i (by omega)]
    · intro k hk1 hk2
      by_cases h1 : k < xi
      · exact hcc i xi (by omega) hnc1 k hk1 h1
      · by_cases h2 : k = xi
        · subst h2
          refine decide_eq_false (fun ⟨_, e⟩ => ?_)
          rw [hxc] at e
          cases e
        · exact hcc (xi + 1) zi (by omega) hnc2 k (by omega) hk2
  · have hor : xo = false ∨ isAt s xi 58 = false := by
      cases xo with
      | false => exact Or.inl rfl
      | true =>
        cases h58 : isAt s xi 58 with
        | false => exact Or.inr rfl
        | true => exact absurd ⟨rfl, h58⟩ hc
    have hp := pair_one hx hor
    rw [hp] at h
    simp only [Prod.mk.injEq] at h
    obtain ⟨rfl, rfl, rfl, rfl⟩ := h
    obtain ⟨l1, e1⟩ := oneB_ext (k := 0) (m := xi - i) hx (by omega)
    refine ⟨l1, ⟨hv1 rfl, hv1 rfl⟩, ?_, hsz i (by omega), hcc i xi (by omega) hnc1⟩
    have hx' : oneB ((s.extract i xi).data.toList.drop 0) 0 = (xa, (s.extract i xi).size, true) := by
      rw [List.drop_zero, hdata, e1, Nat.zero_add, hsz i (by omega)]
    exact pair_one hx' (Or.inr isAt_no)
/-- A part alone: what the document's Set tells of it. -/
theorem seg_set {s : ByteArray} {i j : Nat} {a b : Int} {most : Int} (h : pairB s i = (a, b, j, true)) (hj : j ≤ s.size) (hm : ¬ (most < 0 ∨ 4294967295 < most)) (hn : ¬ (negP (a, b) = true ∧ most = 0)) :
    refE (s.extract i j) most = (0, 0) ∧ refL (s.extract i j) most = [mapP most (a, b)] := by
  obtain ⟨_, _, h1, _, _⟩ := pair_seg h hj
  have hP : partsF (s.extract i j) ((s.extract i j).size + 1) 0 [] = ([(a, b)], 0, 0) := parts_fin h1
  have he : refE (s.extract i j) most = (0, 0) := by
    unfold refE
    rw [hP, if_neg hm, if_neg (by simp), if_neg (by simp), if_neg (by simpa using hn)]
  refine ⟨he, ?_⟩
  unfold refL
  rw [he, if_pos rfl, hP]
  rfl
theorem map_pos {most : Int} (hm : ¬ (most < 0 ∨ 4294967295 < most)) {p : Int × Int} (hp : Posy p) (hn : ¬ (negP p = true ∧ most = 0)) : 1 ≤ (mapP most p).1 ∧ (mapP most p).1 ≤ (mapP most p).2 := by
  have hn' : most = 0 → ¬ p.1 < 0 ∧ ¬ p.2 < 0 := fun hz => by
    have h : ¬ negP p = true := fun h => hn ⟨h, hz⟩
    unfold negP at h
    simp at h
    omega
  obtain ⟨h1, h2⟩ := hp
  unfold mapP starW
  simp only
  split <;> split <;> omega
theorem inB_iff (l : List Rg) (n : Int) : l.any (inB n) = true ↔ inR l n := by
  unfold inR inB
  simp [List.any_eq_true]
/-- What a set's ranges are. -/
theorem ranges_right {most : Int} (L : List (Int × Int)) (hL : ∀ p ∈ L, 1 ≤ (mapP most p).1 ∧ (mapP most p).1 ≤ (mapP most p).2) :
    GapsP (mergesTo most L L.length) ∧ (∀ p ∈ mergesTo most L L.length, 1 ≤ p.1) ∧ ∀ n, (mergesTo most L L.length).any (inB n) = (L.map (mapP most)).any (inB n) := by
  have hl : ∀ p ∈ L.map (mapP most), p.1 ≤ p.2 := by
    intro p hp
    obtain ⟨q, hq, rfl⟩ := List.mem_map.1 hp
    exact (hL q hq).2
  obtain ⟨g1, g2⟩ := merges_gaps (L.map (mapP most)) [] ⟨fun q hq => (by cases hq), List.Pairwise.nil⟩ hl
  have hmt : mergesTo most L L.length = (L.map (mapP most)).foldl mergeR [] := by unfold mergesTo; rw [List.take_length]
  rw [hmt]
  refine ⟨g1, fun p hp => ?_, fun n => ?_⟩
  · have h1 : inR ((L.map (mapP most)).foldl mergeR []) p.1 := ⟨p, hp, Int.le_refl _, g1.1 p hp⟩
    rcases (g2 p.1).1 h1 with h | ⟨q, hq, h3, _⟩
    · exact absurd h (inR_nil _)
    · obtain ⟨r, hr, rfl⟩ := List.mem_map.1 hq
      have := (hL r hr).1
      omega
  · rw [Bool.eq_iff_iff, inB_iff, inB_iff, g2 n]
    exact ⟨fun h => by rcases h with h | h; exact absurd h (inR_nil _); exact h, Or.inr⟩
theorem gaps_at {l : List Rg} (h : GapsP l) {k : Nat} {p q : Rg} (hp : l[k]? = some p) (hq : l[k + 1]? = some q) : p.2 + 1 < q.1 := by
  obtain ⟨h1, rfl⟩ := List.getElem?_eq_some_iff.1 hp
  obtain ⟨h2, rfl⟩ := List.getElem?_eq_some_iff.1 hq
  exact (List.pairwise_iff_getElem.1 h.2) k (k + 1) h1 h2 (by omega)

theorem digs_le : ∀ (l : List UInt8) (n i : Nat), (digs l n i).2.1 ≤ i + l.length
  | [], _, _ => Nat.le_refl _
  | c :: t, n, i => by
    unfold digs
    split
    · split
      · simp
      · have := digs_le t (10 * n + (c.toNat - 48)) (i + 1)
        simp only [List.length_cons]
        omega
    · simp
theorem oneB_le (l : List UInt8) (i : Nat) : (oneB l i).2.1 ≤ i + l.length := by
  rcases oneB_cases l with ⟨u, rfl⟩ | hn
  · rw [oneB_star1]; simp only [List.length_cons]; omega
  · rw [oneB_num1 hn]; exact digs_le l 0 i
theorem drop_len (s : ByteArray) (i : Nat) : (s.data.toList.drop i).length = s.size - i := by
  rw [List.length_drop, ← Lib.size_eq]
theorem pair_le (s : ByteArray) (i : Nat) (hi : i ≤ s.size) : (pairB s i).2.2.1 ≤ s.size := by
  have h1 := oneB_le (s.data.toList.drop i) i
  rw [drop_len] at h1
  unfold pairB
  split
  · rename_i hc
    obtain ⟨hx, _⟩ := isAt_lt hc.2
    have h2 := oneB_le (s.data.toList.drop ((oneB (s.data.toList.drop i) i).2.1 + 1)) ((oneB (s.data.toList.drop i) i).2.1 + 1)
    rw [drop_len] at h2
    simp only
    omega
  · simp only; omega
theorem part_step {s : ByteArray} {f i : Nat} {acc L : List (Int × Int)} (h : partsF s (f + 1) i acc = (L, 0, 0)) (hi : i ≤ s.size) :
    ∃ a b j, pairB s i = (a, b, j, true) ∧ j ≤ s.size ∧ ((j = s.size ∧ L = acc ++ [(a, b)]) ∨ (isAt s j 44 = true ∧ partsF s f (j + 1) (acc ++ [(a, b)]) = (L, 0, 0))) := by
  have hle := pair_le s i hi
  obtain ⟨P, hP⟩ : ∃ P, pairB s i = P := ⟨_, rfl⟩
  obtain ⟨a, b, j, ok⟩ := P
  rw [hP] at hle
  simp only at hle
  cases ok with
  | false =>
    by_cases hj : j = s.size
    · subst hj; rw [parts_bad1 hP] at h; simp at h
    · rw [parts_bad2 hP hj] at h; simp at h
  | true =>
    refine ⟨a, b, j, hP, hle, ?_⟩
    by_cases hj : j = s.size
    · subst hj
      rw [parts_fin hP] at h
      simp only [Prod.mk.injEq, and_true] at h
      exact Or.inl ⟨rfl, h.symm⟩
    · cases h44 : isAt s j 44 with
      | false => rw [parts_bad3 hP (by omega) h44] at h; simp at h
      | true => rw [parts_next hP (by omega) h44] at h; exact Or.inr ⟨rfl, h⟩
theorem parts_all {s : ByteArray} {L : List (Int × Int)} : ∀ (f i : Nat) (acc : List (Int × Int)), partsF s f i acc = (L, 0, 0) → i ≤ s.size → s.size < i + f → (∀ p ∈ acc, Posy p) → (∀ p ∈ L, Posy p) ∧ ∀ p ∈ acc, p ∈ L
  | 0, i, acc, _, hi, hf, _ => by omega
  | f + 1, i, acc, h, hi, hf, ha => by
    obtain ⟨a, b, j, hP, hj, h2⟩ := part_step h hi
    obtain ⟨hij, hpos, _⟩ := pair_seg hP hj
    have ha2 : ∀ p ∈ acc ++ [(a, b)], Posy p := by
      intro p hp
      rcases List.mem_append.1 hp with hp | hp
      · exact ha p hp
      · rw [List.mem_singleton.1 hp]; exact hpos
    rcases h2 with ⟨_, rfl⟩ | ⟨h44, h2⟩
    · exact ⟨ha2, fun p hp => List.mem_append_left _ hp⟩
    · obtain ⟨hjs, _⟩ := isAt_lt h44
      obtain ⟨h3, h4⟩ := parts_all f (j + 1) _ h2 (by omega) (by omega) ha2
      exact ⟨h3, fun p hp => h4 p (List.mem_append_left _ hp)⟩
/-- How far the law's own cutting of the text has come. -/
def RunR (s : ByteArray) (L : List (Int × Int)) (most n : Int) (i frm : Nat) (is : Bool) : Prop :=
  (∃ f acc a b j, s.size < frm + (f + 1) ∧ partsF s (f + 1) frm acc = (L, 0, 0) ∧ frm ≤ i ∧ i ≤ j ∧ frm ≤ s.size ∧ pairB s frm = (a, b, j, true) ∧ j ≤ s.size ∧ is = (acc.map (mapP most)).any (inB n)) ∨
  (i = s.size + 1 ∧ is = (L.map (mapP most)).any (inB n))
theorem RunR.mk {s : ByteArray} {L : List (Int × Int)} {most n : Int} {frm : Nat} {is : Bool} {f : Nat} {acc : List (Int × Int)} (h : partsF s f frm acc = (L, 0, 0)) (hf : s.size < frm + f) (hi : frm ≤ s.size) (he : is = (acc.map (mapP most)).any (inB n)) : RunR s L most n frm frm is := by
  obtain ⟨f, rfl⟩ : ∃ f', f = f' + 1 := ⟨f - 1, by omega⟩
  obtain ⟨a, b, j, hP, hj, _⟩ := part_step h hi
  obtain ⟨hij, _⟩ := pair_seg hP hj
  exact Or.inl ⟨f, acc, a, b, j, hf, h, Nat.le_refl _, by omega, hi, hP, hj, he⟩
/-- One step: a letter within a part; or a part's end. -/
theorem RunR.step {s : ByteArray} {L : List (Int × Int)} {most n : Int} {i frm : Nat} {is : Bool} (h : RunR s L most n i frm is) (hi : i ≤ s.size) (hm : ¬ (most < 0 ∨ 4294967295 < most)) (hn : ∀ p ∈ L, ¬ (negP p = true ∧ most = 0)) :
    (i < s.size ∧ isAt s i 44 = false ∧ RunR s L most n (i + 1) frm is) ∨
    (frm ≤ i ∧ (i < s.size → isAt s i 44 = true) ∧ ∃ p : Rg, refE (s.extract frm i) most = (0, 0) ∧ refL (s.extract frm i) most = [p] ∧ RunR s L most n (i + 1) (i + 1) (is || inB n p)) := by
  rcases h with ⟨f, acc, a, b, j, hf, hP, h1, h2, h3, hp, hj, he⟩ | ⟨h, _⟩
  · obtain ⟨a', b', j', hp', _, h4⟩ := part_step hP h3
    rw [hp] at hp'
    simp only [Prod.mk.injEq, and_true] at hp'
    obtain ⟨rfl, rfl, rfl⟩ := hp'
    obtain ⟨hij, hpos, _, _, hnc⟩ := pair_seg hp hj
    by_cases hlt : i < j
    · exact Or.inl ⟨by omega, hnc i h1 hlt, Or.inl ⟨f, acc, a, b, j, hf, hP, by omega, by omega, h3, hp, hj, he⟩⟩
    · obtain rfl : i = j := by omega
      have hmem : (a, b) ∈ L := by
        rcases h4 with ⟨_, rfl⟩ | ⟨h44, h4⟩
        · simp
        · obtain ⟨hjs, _⟩ := isAt_lt h44
          have hal := parts_mem f (i + 1) (acc ++ [(a, b)]) h4 (by omega) (by omega)
          exact hal _ (by simp)
      obtain ⟨r1, r2⟩ := seg_set hp hj hm (hn _ hmem)
      have he2 : (is || inB n (mapP most (a, b))) = ((acc ++ [(a, b)]).map (mapP most)).any (inB n) := by
        rw [he]; simp
      refine Or.inr ⟨by omega, fun hi2 => ?_, _, r1, r2, ?_⟩
      · rcases h4 with ⟨h4, _⟩ | ⟨h44, _⟩
        · omega
        · exact h44
      · rcases h4 with ⟨h4, rfl⟩ | ⟨h44, h4⟩
        · exact Or.inr ⟨by omega, he2⟩
        · obtain ⟨hjs, _⟩ := isAt_lt h44
          exact RunR.mk h4 (by omega) (by omega) he2
  · omega
where
  parts_mem {s : ByteArray} {L : List (Int × Int)} : ∀ (f i : Nat) (acc : List (Int × Int)), partsF s f i acc = (L, 0, 0) → i ≤ s.size → s.size < i + f → ∀ p ∈ acc, p ∈ L
  | 0, i, acc, _, hi, hf => by omega
  | f + 1, i, acc, h, hi, hf => by
    obtain ⟨a, b, j, hP, hj, h2⟩ := part_step h hi
    rcases h2 with ⟨_, rfl⟩ | ⟨h44, h2⟩
    · exact fun p hp => List.mem_append_left _ hp
    · obtain ⟨hjs, _⟩ := isAt_lt h44
      obtain ⟨hij, _⟩ := pair_seg hP hj
      exact fun p hp => parts_mem f (j + 1) _ h2 (by omega) (by omega) p (List.mem_append_left _ hp)
theorem RunR.last {s : ByteArray} {L : List (Int × Int)} {most n : Int} {i frm : Nat} {is : Bool} (h : RunR s L most n i frm is) (hi : ¬ i ≤ s.size) : is = (L.map (mapP most)).any (inB n) := by
  rcases h with ⟨f, acc, a, b, j, hf, hP, h1, h2, h3, hp, hj, he⟩ | ⟨_, h⟩
  · omega
  · exact h
theorem RunR.le {s : ByteArray} {L : List (Int × Int)} {most n : Int} {i frm : Nat} {is : Bool} (h : RunR s L most n i frm is) : i ≤ s.size + 1 := by
  rcases h with ⟨f, acc, a, b, j, hf, hP, h1, h2, h3, hp, hj, he⟩ | ⟨h, _⟩ <;> omega
/-- Where a Set tells no fault. -/
theorem ref_ok {s : ByteArray} {most : Int} (h0 : (refE s most).2 = 0) :
    refE s most = (0, 0) ∧ ¬ (most < 0 ∨ 4294967295 < most) ∧ ∃ L, partsF s (s.size + 1) 0 [] = (L, 0, 0) ∧ L.length ≤ 32 ∧ refL s most = mergesTo most L L.length ∧ ∀ p ∈ L, ¬ (negP p = true ∧ most = 0) := by
  have h1 := h0
  unfold refE at h1
  split at h1
  · cases h1
  · rename_i a1
    split at h1
    · simp only at h1; omega
    · rename_i a2
      split at h1
      · cases h1
      · rename_i a3
        split at h1
        · cases h1
        · rename_i a4
          have he : (partsF s (s.size + 1) 0 []).2.2 = 0 := by omega
          have hE : refE s most = (0, 0) := by unfold refE; rw [if_neg a1, if_neg a2, if_neg a3, if_neg a4]
          refine ⟨hE, a1, (partsF s (s.size + 1) 0 []).1, ?_, by omega, ?_, fun p hp hneg => a4 ⟨List.any_eq_true.2 ⟨p, hp, hneg.1⟩, hneg.2⟩⟩
          · rcases parts_run (s := s) (most := most) (s.size + 1) 0 [] (Rd.new most) (by omega) (Nat.zero_le _) rfl rfl rfl rfl rfl with ⟨h, _⟩ | ⟨h, _⟩ | ⟨h, h', _⟩
            · rw [h] at he; cases he
            · rw [h] at he; cases he
            · obtain ⟨P, hP⟩ : ∃ P, partsF s (s.size + 1) 0 [] = P := ⟨_, rfl⟩
              rw [hP] at h h' ⊢
              obtain ⟨L, j, e⟩ := P
              simp only at h h'
              rw [h, h']
          · unfold refL
            rw [if_pos h0]
end Go.Proofs.YtpmakbjchepkmaaDoor
