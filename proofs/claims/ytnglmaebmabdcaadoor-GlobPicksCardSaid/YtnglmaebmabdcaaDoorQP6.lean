/- Glob: the names that are known, in a map of the program's own; which of a list are: the closure, slices.IndexFunc. -/
import Derived.Test.YtnglmaebmabdcaaDoorQP5
import Derived.Maps.Own
import Derived.Maps.OwnSet
import Derived.Maps.Views
import Derived.Maps.AppendAt
namespace Go.Proofs.YtnglmaebmabdcaaDoor
open Go Go.RowKit Go.Maps

theorem keyS : Keyed Tryd.prog 9 := string_keyed Tryd.underlying9
def keyL (x : Gl.Nm) : Lit := .string x
/-- The map as a set of names. -/
def setD (l : List Gl.Nm) : DataW Unit := setOf (.agg []) (l.map keyL)
theorem isKey (l : List Gl.Nm) : ∀ x, x ∈ l.map keyL → WideAt.IsKeyLit x := by
  intro x hx
  obtain ⟨y, _, rfl⟩ := List.mem_map.1 hx
  trivial
theorem key_of (x : Gl.Nm) (h : x.length ≤ 100000) : keyOf Tryd.prog 9 (.string (mkS x)) = some (keyL x) := Go.WideMaps.keyOf_string_mk Tryd.underlying9 (by rw [mk_size]; unfold maxLen; omega)
theorem has_setD (l : List Gl.Nm) (x : Gl.Nm) : Maps.has (setD l) (keyL x) = decide (x ∈ l) := by
  unfold setD
  rw [has_setOf _ _ _ (isKey l), Bool.eq_iff_iff, List.any_eq_true, decide_eq_true_eq]
  constructor
  · rintro ⟨y, hy, he⟩
    obtain ⟨z, hz, rfl⟩ := List.mem_map.1 hy
    have : z = x := by simpa [keyL, Lit.sameKey] using he
    exact this ▸ hz
  · intro h
    exact ⟨keyL x, List.mem_map.2 ⟨x, h, rfl⟩, by simp [keyL, Lit.sameKey]⟩
theorem setD_snoc (l : List Gl.Nm) (x : Gl.Nm) : setD (l ++ [x]) = (setD l).put (keyL x) (.agg []) := by
  unfold setD
  rw [List.map_append]
  exact setOf_snoc _ _ _
theorem zeroU (w : World) : (zeroValue 37).run Tryd.prog w = .ok (.agg #[]) w := by kernel_rfl

/-- The names that are known: a map of the call's own in block b, its value in block p. -/
structure Kn (w : World) (p b n : Nat) (l : List Gl.Nm) : Prop where
  c0 : w.cell? ⟨p, 0, none⟩ = some (.map (some b))
  own : w.ownsMap Tryd.prog 9 (unitElem (H := Unit)) b n (setD l)
  ne : b < p
theorem Kn.below {w w' : World} {p b n : Nat} {l : List Gl.Nm} (h : Kn w p b n l) (hb : Below w.heap.size w w') : Kn w' p b n l := by
  refine ⟨(hb.cell (World.block_lt_of_cell? w _ h.c0)).trans h.c0, ?_, h.ne⟩
  obtain ⟨es, clock, h1, h2⟩ := h.own
  exact ⟨es, clock, (hb.block b (Array.getElem?_eq_some_iff.1 h1).1).trans h1, h2⟩
theorem Kn.setCell {w : World} {p b n : Nat} {l : List Gl.Nm} (h : Kn w p b n l) {g : Nat} (h1 : g ≠ p) (h2 : g ≠ b) (k : Nat) (v : Value) : Kn (w.setCell ⟨g, k, none⟩ v) p b n l := by
  refine ⟨(World.cell?_of_block (a := ⟨p, 0, none⟩) (heap_setCell_other w ⟨g, k, none⟩ p v (fun e => h1 e.symm))).trans h.c0, ?_, h.ne⟩
  obtain ⟨es, clock, h3, h4⟩ := h.own
  exact ⟨es, clock, (heap_setCell_other w ⟨g, k, none⟩ b v (fun e => h2 e.symm)).trans h3, h4⟩

set_option maxHeartbeats 1000000 in
set_option maxRecDepth 100000 in
theorem isK_any (x : Gl.Nm) (p b n : Nat) (l : List Gl.Nm) (w : World) (hk : Kn w p b n l) (hx : x.length ≤ 100000) :
    Calls Tryd.prog 32 #[.string (mkS x), .pointer (some ⟨p, 0, none⟩)] w fun e w' => e = .returned (.bool (decide (x ∈ l))) ∧ Below w.heap.size w w' := by
  have hkey := key_of x hx
  have hh := has_setD l x
  have hown := hk.own
  have hc0 := hk.c0
  have hzu := zeroU
  clear hk
  generalize mkS x = X at *
  go_enter Tryd.func32, Tryd.ntmps32
  go_wp2_with (first
    | (at_lookup; refine wpList_lookup_own_unit _ rfl _ _ 38 rfl 9 37 keyS Tryd.underlying38 (zeroU _) b n _ rfl hown _ _ rfl hkey ?_)
    | go_in)
  go_ret
  exact ⟨rfl, (Below.refl _ w).alloc (Nat.le_refl _) _⟩

/-- A row of names in a block, which may be written. -/
def RowS (W : World) (g : Nat) (rs : List Gl.Nm) : Prop :=
  (∀ k (h : k < rs.length), W.cell? ⟨g, k, none⟩ = some (.string (mkS rs[k]))) ∧ (∀ k, k < rs.length → W.frozen? ⟨g, k, none⟩ = false)
theorem RowS.other {W W' : World} {g : Nat} {rs : List Gl.Nm} (h : RowS W g rs) (he : W'.heap[g]? = W.heap[g]?) : RowS W' g rs :=
  ⟨fun k hk => (World.cell?_of_block (a := ⟨g, k, none⟩) he).trans (h.1 k hk), fun k hk => (World.frozen?_of_block (a := ⟨g, k, none⟩) he).trans (h.2 k hk)⟩
theorem RowS.set {W : World} {g : Nat} {rs : List Gl.Nm} (h : RowS W g rs) (m : Nat) (hm : m < rs.length) (x : Gl.Nm) : RowS (W.setCell ⟨g, m, none⟩ (.string (mkS x))) g (rs.set m x) := by
  refine ⟨fun k hk => ?_, fun k hk => by rw [World.frozen?_setCell]; exact h.2 k (by simpa using hk)⟩
  have hk' : k < rs.length := by simpa using hk
  by_cases e : k = m
  · subst e
    rw [List.getElem_set_self]
    exact World.cell?_setCell_same _ _ _ (h.1 k hk')
  · rw [List.getElem_set_ne (Ne.symm e), World.cell?_setCell_other _ _ _ _ (by intro he; injection he with _ h2; omega)]
    exact h.1 k hk'
theorem RowS.at {W : World} {g : Nat} {rs : List Gl.Nm} (h : RowS W g rs) {k : Nat} {x : Gl.Nm} (hx : rs[k]? = some x) : W.cell? ⟨g, k, none⟩ = some (.string (mkS x)) := by
  obtain ⟨hk, rfl⟩ := List.getElem?_eq_some_iff.1 hx
  exact h.1 k hk
theorem RowS.take {W : World} {g : Nat} {rs : List Gl.Nm} (h : RowS W g rs) (m : Nat) : RowS W g (rs.take m) := by
  refine ⟨fun k hk => ?_, fun k hk => h.2 k (by rw [List.length_take] at hk; omega)⟩
  rw [List.getElem_take]
  exact h.1 k (by rw [List.length_take] at hk; omega)

/-- The first that is so. -/
def idxN (f : Gl.Nm → Bool) : Nat → List Gl.Nm → Int
  | _, [] => -1
  | k, x :: t => if f x then (k : Int) else idxN f (k + 1) t
theorem idxN_spec (f : Gl.Nm → Bool) : ∀ (l : List Gl.Nm) (k : Nat), (idxN f k l = -1 ∧ ∀ t, t ∈ l → f t = false) ∨ ∃ (j : Nat) (t : Gl.Nm), idxN f k l = ((k + j : Nat) : Int) ∧ l[j]? = some t ∧ f t = true ∧ ∀ m u, m < j → l[m]? = some u → f u = false
  | [], k => Or.inl ⟨rfl, fun t h => by cases h⟩
  | x :: t, k => by
    rw [idxN]
    by_cases h : f x = true
    · rw [if_pos h]
      exact Or.inr ⟨0, x, rfl, rfl, h, fun m u hm => by omega⟩
    · rw [if_neg h]
      rcases idxN_spec f t (k + 1) with ⟨h1, h2⟩ | ⟨j, y, h1, h2, h3, h4⟩
      · refine Or.inl ⟨h1, fun y hy => ?_⟩
        rcases List.mem_cons.1 hy with rfl | hy
        · simpa using h
        · exact h2 y hy
      · refine Or.inr ⟨j + 1, y, by rw [h1]; congr 1; omega, by simpa using h2, h3, fun m u hm hu => ?_⟩
        cases m with
        | zero => simp at hu; subst hu; simpa using h
        | succ m => exact h4 m u (by omega) (by simpa using hu)
theorem ret_int' {a b : Int} (h : a = b) : Ending.returned (.int .i64 a) = .returned (.int .i64 b) := by rw [h]

set_option maxHeartbeats 1000000 in
set_option maxRecDepth 100000 in
theorem idxN_any (g c : Nat) (qs : List Gl.Nm) (p b n : Nat) (l : List Gl.Nm) (w : World) (h : RowS w g qs) (hk : Kn w p b n l) (hn : qs.length ≤ 100000) (hq : ∀ x, x ∈ qs → x.length ≤ 1000) :
    Calls Tryd.prog 42 #[.slice (some ⟨g, 0, none⟩) qs.length c, .func (.func 32) #[] #[.pointer (some ⟨p, 0, none⟩)]] w fun e w' => e = .returned (.int .i64 (idxN (fun x => decide (x ∈ l)) 0 qs)) ∧ Below w.heap.size w w' := by
  generalize hF : idxN (fun x => decide (x ∈ l)) 0 qs = F
  have HF := Lib.hid hF
  have HH := Lib.hid h
  have HK := Lib.hid hk
  have HQ := Lib.hid hq
  clear hF h hk hq
  go_enter Tryd.func42, Tryd.ntmps42
  go_wp2
  go_loopw [8] (fun i wr => ∃ k : Nat, k ≤ qs.length ∧ i = .int .i64 (k : Int) ∧ idxN (fun x => decide (x ∈ l)) k (qs.drop k) = F ∧ Below w.heap.size w wr) (fun i _ => qs.length - (intOf i).toNat)
  case atStart => exact ⟨0, Nat.zero_le _, rfl, HF.out, Below.refl _ _⟩
  case round =>
    obtain ⟨k, hk, rfl, hgo, hb⟩ := hrel
    by_cases hlt : k < qs.length
    · have hlti : (k : Int) < (qs.length : Int) := by omega
      have hcc := HH.out.1 k hlt
      have hcw := (hb.cell (p := ⟨g, k, none⟩) (World.block_lt_of_cell? w _ hcc)).trans hcc
      rw [List.drop_eq_getElem_cons hlt] at hgo
      have hxl := HQ.out _ (List.getElem_mem hlt)
      generalize qs[k] = x at *
      have hcl := isK_any x p b n l wr (HK.out.below hb) (by omega)
      rw [idxN] at hgo
      have HB := Lib.hid hb
      clear hcc hb
      generalize mkS x = X at *
      cases hd : decide (x ∈ l) with
      | true =>
        rw [hd] at hgo hcl
        have HGo := Lib.hid (show (k : Int) = F from hgo)
        clear hgo hd
        go_wp2_with fail
        refine hcl.mono ?_
        rintro e w1 ⟨rfl, hb1⟩
        have HB1 := Lib.hid (HB.out.trans (hb1.mono HB.out.size))
        clear hb1
        go_wp2
        go_ret
        exact ⟨ret_int' HGo.out, HB1.out⟩
      | false =>
        rw [hd] at hgo hcl
        have HGo := Lib.hid (show idxN (fun x => decide (x ∈ l)) (k + 1) (qs.drop (k + 1)) = F from hgo)
        clear hgo hd
        go_wp2_with fail
        refine hcl.mono ?_
        rintro e w1 ⟨rfl, hb1⟩
        have HB1 := Lib.hid (HB.out.trans (hb1.mono HB.out.size))
        clear hb1
        go_wp2
        refine ⟨⟨k + 1, by omega, rfl, HGo.out, HB1.out⟩, ?_⟩
        simp [intOf] <;> omega
    · have hkl : k = qs.length := by omega
      subst hkl
      rw [List.drop_of_length_le (Nat.le_refl _)] at hgo
      have HGo := Lib.hid (show (-1 : Int) = F from hgo)
      have HB := Lib.hid hb
      clear hgo hb
      go_wp2
      go_ret
      exact ⟨ret_int' HGo.out, HB.out⟩
end Go.Proofs.YtnglmaebmabdcaaDoor
