/- Glob: slices.DeleteFunc of names that are known. -/
import Derived.Test.YtnglmaebmabdcaaDoorQP6
namespace Go.Proofs.YtnglmaebmabdcaaDoor
open Go Go.RowKit

def emptyS : Value := .string ⟨#[]⟩
theorem run_clear_str (w : World) (ty : TypeId) (g o n c : Nat) (hn : 0 < n) (hc : ∀ j, j < n → (w.cell? ⟨g, o + j, none⟩).isSome = true) (hf : ∀ j, j < n → w.frozen? ⟨g, o + j, none⟩ = false) :
    (Builtin.clear_ #[26] ty #[.slice (some ⟨g, o, none⟩) n c]).run Tryd.prog w = .ok (.tuple #[]) (w.setCells g o (List.replicate n emptyS)) := by
  have hst := run_storeCells_cells (P := Tryd.prog) g o (List.replicate n emptyS) 0 w (by simpa using hc) (by simpa using hf) (by
    intro v hv
    rw [List.eq_of_mem_replicate hv]
    rfl)
  simp only [Nat.add_zero] at hst
  obtain ⟨m, rfl⟩ : ∃ m, n = m + 1 := ⟨n - 1, by omega⟩
  have hz : (Builtin.zeroCells (Value.string ⟨#[]⟩).cells (m + 1)).toList = List.replicate (m + 1) emptyS := by
    apply List.ext_getElem
    · simp [Builtin.zeroCells, Value.cells]
    · intro i h1 h2
      simp [Builtin.zeroCells, Value.cells, emptyS, Nat.mod_one]
  simp only [Builtin.clear_]
  unfold emptyS at *
  simp [run_underlying Tryd.underlying26, hz, hst]

theorem RowS.cells {W : World} {g : Nat} {rs : List Gl.Nm} (h : RowS W g rs) (o m : Nat) (hm : o + m ≤ rs.length) : (∀ j, j < m → (W.cell? ⟨g, o + j, none⟩).isSome = true) ∧ (∀ j, j < m → W.frozen? ⟨g, o + j, none⟩ = false) :=
  ⟨fun j hj => by rw [h.1 (o + j) (by omega)]; rfl, fun j hj => h.2 (o + j) (by omega)⟩
theorem RowS.clear {W : World} {g : Nat} {rs : List Gl.Nm} (h : RowS W g rs) (o n : Nat) : RowS (W.setCells g o (List.replicate n emptyS)) g (rs.take o) := by
  refine ⟨fun k hk => ?_, fun k hk => ?_⟩
  · have hk' : k < o ∧ k < rs.length := by rw [List.length_take] at hk; omega
    rw [List.getElem_take, World.cell?_setCells_out g _ o W ⟨g, k, none⟩ (fun _ _ => Or.inl hk'.1)]
    exact h.1 k hk'.2
  · rw [World.frozen?_setCells]
    exact h.2 k (by rw [List.length_take] at hk; omega)
theorem below_setCells {B : Nat} {w W : World} (h : Below B w W) {g : Nat} (hg : B ≤ g) (o : Nat) (vs : List Value) : Below B w (W.setCells g o vs) := by
  obtain ⟨h1, h2, h3, h4, h5⟩ := setCells_all g vs o W
  exact h.trans ⟨h1, h2, h3, by omega, fun k hk => h5 k (by omega)⟩

/-- Where the loop stands: the first k looked at, m of them kept. -/
structure DlS (B : Nat) (w wr : World) (p b n : Nat) (l : List Gl.Nm) (g : Nat) (qs : List Gl.Nm) (m k : Nat) : Prop where
  ex : ∃ rs : List Gl.Nm, RowS wr g rs ∧ rs.length = qs.length ∧ rs.take m = (qs.take k).filter (fun x => !decide (x ∈ l)) ∧ rs.drop k = qs.drop k
  lt : m < k
  le : k ≤ qs.length
  kn : Kn wr p b n l
  bel : Below B w wr
theorem DlS.skip {B : Nat} {w wr wn : World} {p b n : Nat} {l : List Gl.Nm} {g : Nat} {qs : List Gl.Nm} {m k : Nat} (h : DlS B w wr p b n l g qs m k) (hg : g < wr.heap.size) (hB : B ≤ wr.heap.size) (x : Gl.Nm) (hx : qs[k]? = some x) (hd : x ∈ l) (hn : Below wr.heap.size wr wn) :
    DlS B w wn p b n l g qs m (k + 1) := by
  obtain ⟨⟨rs, h1, h2, h3, h4⟩, lt, le, kn, bel⟩ := h
  have hj := (List.getElem?_eq_some_iff.1 hx).1
  refine ⟨⟨rs, h1.other (hn.block g hg), h2, ?_, ?_⟩, by omega, by omega, kn.below hn, bel.trans (hn.mono hB)⟩
  · rw [List.take_add_one, hx, List.filter_append, ← h3]
    simp [hd]
  · rw [← List.drop_drop, h4, List.drop_drop]
theorem DlS.keep {B : Nat} {w wr wn : World} {p b n : Nat} {l : List Gl.Nm} {g : Nat} {qs : List Gl.Nm} {m k : Nat} (h : DlS B w wr p b n l g qs m k) (hg : g < wr.heap.size) (hB : B ≤ wr.heap.size) (hBg : B ≤ g) (hgp : g ≠ p) (hgb : g ≠ b) (x : Gl.Nm) (hx : qs[k]? = some x) (hd : x ∉ l) (hn : Below wr.heap.size wr wn) :
    DlS B w (wn.setCell ⟨g, m, none⟩ (.string (mkS x))) p b n l g qs (m + 1) (k + 1) := by
  obtain ⟨⟨rs, h1, h2, h3, h4⟩, lt, le, kn, bel⟩ := h
  have hj := (List.getElem?_eq_some_iff.1 hx).1
  refine ⟨⟨rs.set m x, (h1.other (hn.block g hg)).set m (by omega) x, by rw [List.length_set]; exact h2, ?_, ?_⟩, by omega, by omega, (kn.below hn).setCell hgp hgb _ _, (bel.trans (hn.mono hB)).setCell hBg _⟩
  · rw [List.take_add_one (i := k), hx, List.filter_append, ← h3]
    simp only [Option.toList_some, List.filter_cons, decide_eq_false hd, Bool.not_false, if_true, List.filter_nil]
    rw [List.take_add_one, List.getElem?_set_self (by omega), List.take_set_of_le (by omega)]
    rfl
  · have : (rs.set m x).drop (k + 1) = rs.drop (k + 1) := by rw [List.drop_set, if_pos (by omega)]
    rw [this, ← List.drop_drop, h4, List.drop_drop]
theorem DlS.first {B : Nat} {w w1 : World} {p b n : Nat} {l : List Gl.Nm} {g : Nat} {qs : List Gl.Nm} {fi : Nat} {t : Gl.Nm} (h : RowS w g qs) (hg : g < w.heap.size) (hB : B ≤ w.heap.size) (hk : Kn w p b n l) (hb : Below w.heap.size w w1) (hfi : qs[fi]? = some t) (hd : t ∈ l)
    (hf : ∀ m u, m < fi → qs[m]? = some u → decide (u ∈ l) = false) : DlS B w w1 p b n l g qs fi (fi + 1) := by
  have hfl := (List.getElem?_eq_some_iff.1 hfi).1
  refine ⟨⟨qs, h.other (hb.block g hg), rfl, ?_, rfl⟩, by omega, by omega, hk.below hb, hb.mono hB⟩
  rw [List.take_add_one, hfi, List.filter_append, Option.toList_some, List.filter_cons, decide_eq_true hd]
  simp only [Bool.not_true, Bool.false_eq_true, if_false, List.filter_nil, List.append_nil]
  symm
  rw [List.filter_eq_self]
  intro a ha
  obtain ⟨j, hj⟩ := List.getElem?_of_mem ha
  rw [List.getElem?_take] at hj
  split at hj
  · rename_i hji
    have := hf j a hji hj
    simp only [this, Bool.not_false]
  · cases hj

set_option maxHeartbeats 2000000 in
set_option maxRecDepth 100000 in
theorem delN_any (B g c : Nat) (qs : List Gl.Nm) (p b n : Nat) (l : List Gl.Nm) (w : World) (h : RowS w g qs) (hg : g < w.heap.size) (hB : B ≤ w.heap.size) (hBg : B ≤ g) (hgp : g ≠ p) (hgb : g ≠ b) (hk : Kn w p b n l) (hc : qs.length ≤ c) (hn : qs.length ≤ 100000) (hq : ∀ x, x ∈ qs → x.length ≤ 1000) :
    Calls Tryd.prog 31 #[.slice (some ⟨g, 0, none⟩) qs.length c, .func (.func 32) #[] #[.pointer (some ⟨p, 0, none⟩)]] w fun e w' =>
      ∃ rs, e = .returned (.slice (some ⟨g, 0, none⟩) rs.length c) ∧ rs = qs.filter (fun x => !decide (x ∈ l)) ∧ RowS w' g rs ∧ Below B w w' := by
  have HIX := Lib.hid (idxN_any g c qs p b n l w h hk hn hq)
  rcases idxN_spec (fun x => decide (x ∈ l)) qs 0 with ⟨e1, e2⟩ | ⟨fi, t, e1, e2, e3, e4⟩
  · have hall : qs.filter (fun x => !decide (x ∈ l)) = qs := by
      rw [List.filter_eq_self]
      intro a ha
      simp only [e2 a ha, Bool.not_false]
    rw [hall]
    rw [e1] at HIX
    have HE := Lib.hid (fun w1 (hb1 : Below w.heap.size w w1) => And.intro (h.other (hb1.block g hg)) (hb1.mono hB))
    clear h hk e1 e2 hall
    go_enter Tryd.func31, Tryd.ntmps31
    go_wp2_with fail
    refine HIX.out.mono ?_
    rintro e w1 ⟨rfl, hb1⟩
    go_wp2
    go_ret
    exact ⟨qs, rfl, rfl, HE.out w1 hb1⟩
  · rw [Nat.zero_add] at e1
    rw [e1] at HIX
    have ht : t ∈ l := of_decide_eq_true e3
    have HST := Lib.hid (fun w1 (hb1 : Below w.heap.size w w1) => DlS.first h hg hB hk hb1 e2 ht e4)
    have hfl := (List.getElem?_eq_some_iff.1 e2).1
    clear h hk e1 e2 e3 e4 ht
    go_enter Tryd.func31, Tryd.ntmps31
    go_wp2_with fail
    refine HIX.out.mono ?_
    rintro e w1 ⟨rfl, hb1⟩
    have HST1 := Lib.hid (HST.out w1 hb1)
    have HGL := Lib.hid (Nat.lt_of_lt_of_le hg hb1.size)
    have HBL := Lib.hid (Nat.le_trans hB hb1.size)
    have hm1 : ((fi : Int) == -1) = false := by rw [beq_eq_false_iff_ne]; omega
    clear hb1 HST HIX
    go_wp2
    go_loopw [5, 6] (fun i j wr => ∃ m k : Nat, i = .int .i64 (m : Int) ∧ j = .int .i64 (k : Int) ∧ m < k ∧ k ≤ qs.length ∧ Hid (DlS B w wr p b n l g qs m k) ∧ w1.heap.size ≤ wr.heap.size) (fun _ j _ => qs.length - (intOf j).toNat)
    case atStart => exact ⟨fi, fi + 1, rfl, rfl, by omega, by omega, HST1, Nat.le_refl _⟩
    case round =>
      clear HST1
      obtain ⟨m, k, rfl, rfl, hmk, hkl, hH, hsz⟩ := hrel
      have hgl : g < wr.heap.size := Nat.lt_of_lt_of_le HGL.out hsz
      have hBl : B ≤ wr.heap.size := Nat.le_trans HBL.out hsz
      by_cases hlt : k < qs.length
      · have hlti : (k : Int) < (qs.length : Int) := by omega
        obtain ⟨x, hx⟩ : ∃ x, qs[k]? = some x := ⟨_, List.getElem?_eq_getElem hlt⟩
        obtain ⟨⟨rs, h1, h2, h3, h4⟩, _, _, kn, _⟩ := hH.out
        have hrk : rs[k]? = some x := by
          have := congrArg (fun l => l[0]?) h4
          simp only [List.getElem?_drop, Nat.add_zero] at this
          rw [this]; exact hx
        have hcell := h1.at hrk
        obtain ⟨y, hy⟩ : ∃ y, rs[m]? = some y := ⟨_, List.getElem?_eq_getElem (by omega)⟩
        have hcm := h1.at hy
        have hfm := h1.2 m (by omega)
        have hxl := hq x (List.mem_of_getElem? hx)
        have hcl := isK_any x p b n l wr kn (by omega)
        have HX := Lib.hid hx
        clear h1 h2 h3 h4 hrk kn hy hx
        cases hd : decide (x ∈ l) with
        | true =>
          have HN := Lib.hid (fun wn hn => hH.out.skip (wn := wn) hgl hBl x HX.out (of_decide_eq_true hd) hn)
          rw [hd] at hcl
          clear hH hd HX
          generalize mkS x = X at *
          go_wp2_with fail
          refine hcl.mono ?_
          rintro e w2 ⟨rfl, hb2⟩
          go_wp2
          refine ⟨⟨m, k + 1, rfl, rfl, by omega, by omega, Lib.hid (HN.out w2 hb2), Nat.le_trans hsz hb2.size⟩, ?_⟩
          simp [intOf] <;> omega
        | false =>
          have HN := Lib.hid (fun wn hn => hH.out.keep (wn := wn) hgl hBl hBg hgp hgb x HX.out (of_decide_eq_false hd) hn)
          rw [hd] at hcl
          clear hH hd HX
          generalize mkS x = X at *
          generalize mkS y = Y at *
          go_wp2_with fail
          refine hcl.mono ?_
          rintro e w2 ⟨rfl, hb2⟩
          have hcm2 := (hb2.cell (p := ⟨g, m, none⟩) hgl).trans hcm
          have hfm2 := (hb2.frozen (p := ⟨g, m, none⟩) hgl).trans hfm
          have HN2 := Lib.hid (HN.out w2 hb2)
          have HS2 := Lib.hid (Nat.le_trans hsz hb2.size)
          clear hb2 HN hcm hfm
          go_wp2
          refine ⟨⟨m + 1, k + 1, rfl, rfl, by omega, by omega, HN2, by simp [World.setCell]; exact HS2.out⟩, ?_⟩
          simp [intOf] <;> omega
      · have hke : k = qs.length := by omega
        subst hke
        obtain ⟨⟨rs, h1, h2, h3, h4⟩, _, _, _, bel⟩ := hH.out
        rw [List.take_length] at h3
        obtain ⟨hce, hfz⟩ := h1.cells m (qs.length - m) (by omega)
        have hclr := fun ty => run_clear_str wr ty g m (qs.length - m) (c - m) (by omega) hce hfz
        have hmr : (rs.take m).length = m := by rw [List.length_take]; omega
        have HEND := Lib.hid (And.intro (h1.clear m (qs.length - m)) (below_setCells bel hBg m (List.replicate (qs.length - m) emptyS)))
        rw [h3] at HEND hmr
        obtain ⟨w3, hw3⟩ : ∃ w3, wr.setCells g m (List.replicate (qs.length - m) emptyS) = w3 := ⟨_, rfl⟩
        rw [hw3] at HEND hclr
        have HMR := Lib.hid hmr
        clear hce hfz hH hw3 h1 h2 h3 h4 bel hmr
        go_wp2
        go_ret
        exact ⟨_, by rw [HMR.out]; rfl, rfl, HEND.out⟩
end Go.Proofs.YtnglmaebmabdcaaDoor
