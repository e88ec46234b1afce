/- Coord: where CoordAgrees stands: its node, names, shards, votes and fates in memory, each in blocks of its own. -/
import Derived.Test.YtleghofpabdkhaaY33
import Derived.Test.YtleghofpabdkhaaY26
import Derived.Test.YtleghofpabdkhaaY24
import Derived.Test.YtleghofpabdkhaaY20
import Derived.Test.YtleghofpabdkhaaY17
namespace Go.Proofs.Ytleghofpabdkhaa
open Go Go.RowKit

/-- append of one element to a list of one's own. -/
theorem app1 {B : Nat} {w : World} {v : Value} {n : Nat} {xs cs : List Value} {t e : TypeId} {i : TypeInfo} {z : Value} {size bytes : Nat} (ht : Try.prog.underlying t = some (.slice e)) (hi : Try.prog.info? e = some i) (hz : i.zero = some z) (hs : i.size = size) (hbs : i.bytes = bytes) (hzs : z.cells.size = size) (hsz : 0 < size) (hby : bytes ≤ 24)
    (hv : w.ownsRow B e size v n xs) (hB : B ≤ w.heap.size) (hc : cs.length = size) (h1 : ∀ u ∈ cs, u.oneCell' = true) (hn : n ≤ 100000) :
    ∃ a c w', (∀ ty, (Builtin.append_ #[t, t] ty #[v, .slice (some ⟨w.heap.size, 0, none⟩) 1 1]).run Try.prog (w.alloc (.cells cs.toArray e)) = .ok (.slice a (n + 1) c) w') ∧ w'.ownsRow B e size (.slice a (n + 1) c) (n + 1) (xs ++ cs) ∧ Fr (fun k => v.ownBlock = some k) w w' ∧ ∀ g, (Value.slice a (n + 1) c).ownBlock = some g → v.ownBlock = some g ∨ w.heap.size ≤ g := by
  have hb : Below w.heap.size w (w.alloc (.cells cs.toArray e)) := (Below.refl _ w).alloc (Nat.le_refl _) _
  have hv' := owns_frame hv (fun k hk => hb.block k (World.ownsRow.lt hv k hk).2)
  have hmul : (n + 1) * bytes ≤ 100001 * 24 := Nat.mul_le_mul (by omega) hby
  obtain ⟨v', w', hr, ho, hg, hwh⟩ := app_own (P := Try.prog) _ t e i z size bytes ht hi hz hs hbs hzs hsz v n xs (World.ownsRow.mono hv' (Nat.zero_le _)) ⟨w.heap.size, 0, none⟩ 1 1 cs (by rw [hc, Nat.one_mul]) (by decide)
    (fun j u hu => by rw [addr_plus, Nat.zero_add, cell_of_row _ _ _ _ _ _ (heap_alloc_new w _)]; simpa using hu) h1 (by unfold maxLen; omega) (by omega)
  have hsz : (w.alloc (.cells cs.toArray e)).heap.size = w.heap.size + 1 := by simp
  rw [hsz] at hwh
  obtain ⟨a, c, rfl, _⟩ := owns_shape ho
  have hwh2 : ∀ g, (Value.slice a (n + 1) c).ownBlock = some g → v.ownBlock = some g ∨ w.heap.size ≤ g := fun g hgg => (hwh g hgg).imp id (fun h => by omega)
  refine ⟨a, c, w', hr, ⟨ho.1, ?_⟩, (Fr.of_below _ hb).grown hg (fun k hk => Or.inl hk), hwh2⟩
  rcases ho.2 with h0 | ⟨g, cap, cur, e, _, rest⟩
  · exact Or.inl h0
  · refine Or.inr ⟨g, cap, cur, e, ?_, rest⟩
    rcases hwh2 g (by rw [e]; rfl) with h1 | h1
    · exact (World.ownsRow.lt hv g h1).1
    · omega
theorem Ints.kept {W W' : World} {u : Value} {l : List Int} (h : Ints W u l) (hs : W.heap.size ≤ W'.heap.size) (hk : ∀ g, u.ownBlock = some g → l ≠ [] → W'.heap[g]? = W.heap[g]?) : Ints W' u l := by
  obtain ⟨a, cap, e, hp⟩ := h
  refine ⟨a, cap, e, fun j x hx => ?_⟩
  obtain ⟨g, off, e1, hg, hc⟩ := hp j x hx
  exact ⟨g, off, e1, Nat.lt_of_lt_of_le hg hs, (cell_same (hk g (by rw [e, e1]; rfl) (fun e => by rw [e] at hx; cases hx))).trans hc⟩
theorem Ints.lt {W : World} {u : Value} {l : List Int} (h : Ints W u l) : ∀ g, u.ownBlock = some g → l ≠ [] → g < W.heap.size := fun g hg hn => by
  obtain ⟨a, cap, e, hp⟩ := h
  obtain ⟨x, hx⟩ : ∃ x, l[0]? = some x := ⟨l[0]'(List.length_pos_iff.2 hn), List.getElem?_eq_getElem (List.length_pos_iff.2 hn)⟩
  obtain ⟨g', off, e1, hg', _⟩ := hp 0 x hx
  rw [e, e1] at hg
  injection hg with hg
  subst hg
  exact hg'
def cellsY (y : St4) : List Value := [.bool y.a, .bool y.b, .bool y.c, .bool y.d]
theorem cellsY_len (y : St4) : (cellsY y).length = 4 := rfl
theorem flatY_len : ∀ ys : List St4, (ys.flatMap cellsY).length = ys.length * 4
  | [] => rfl
  | y :: t => by rw [List.flatMap_cons, List.length_append, flatY_len t, cellsY_len, List.length_cons]; omega
theorem over_yes (ys : List St4) (k i : Nat) (y : St4) (hk : ys[k]? = some y) (hi : i < 4) : over (ys.flatMap cellsY) (k * 4 + i) [.bool true] = (ys.set k (y.put (i : Int))).flatMap cellsY := by
  have hkl : k < ys.length := (List.getElem?_eq_some_iff.1 hk).1
  rw [← flat_set cellsY 4 ys k (fun _ _ => rfl) (y.put (i : Int)) rfl hkl]
  have hf : (ys.flatMap cellsY).length = ys.length * 4 := flatY_len ys
  apply List.ext_getElem?
  intro j
  have ht : ∀ m u, (cellsY y)[m]? = some u → (ys.flatMap cellsY)[k * 4 + m]? = some u := fun m u hm => flat_at cellsY 4 ys k (fun _ _ => rfl) y hk m u hm
  have hL : ∀ (o : Nat) (vs : List Value), o + vs.length ≤ (ys.flatMap cellsY).length → (over (ys.flatMap cellsY) o vs)[j]? = if j < o then (ys.flatMap cellsY)[j]? else if j < o + vs.length then vs[j - o]? else (ys.flatMap cellsY)[j]? := fun o vs ho => by
    unfold over
    have hto : ((ys.flatMap cellsY).take o).length = o := by rw [List.length_take]; omega
    by_cases hj : j < o
    · rw [if_pos hj, List.append_assoc, List.getElem?_append_left (by omega), List.getElem?_take, if_pos hj]
    · rw [if_neg hj]
      by_cases hj2 : j < o + vs.length
      · rw [if_pos hj2, List.append_assoc, List.getElem?_append_right (by omega), hto, List.getElem?_append_left (by omega)]
      · rw [if_neg hj2, List.getElem?_append_right (by rw [List.length_append, hto]; omega), List.length_append, hto, List.getElem?_drop]
        congr 1
        omega
  rw [hL _ _ (by show k * 4 + i + 1 ≤ _; omega), hL _ _ (by rw [cellsY_len, hf]; omega)]
  by_cases hj1 : j < k * 4
  · rw [if_pos (by omega), if_pos hj1]
  · rw [if_neg hj1]
    by_cases hj2 : j < k * 4 + 4
    · rw [cellsY_len, if_pos hj2]
      obtain ⟨m, hm, hm2⟩ : ∃ m, j = k * 4 + m ∧ m < 4 := ⟨j - k * 4, by omega, by omega⟩
      subst hm
      rw [show k * 4 + m - k * 4 = m by omega]
      have hold : (ys.flatMap cellsY)[k * 4 + m]? = (cellsY y)[m]? := by
        have hml : m < (cellsY y).length := hm2
        rw [List.getElem?_eq_getElem hml]
        exact ht m _ (List.getElem?_eq_getElem hml)
      rw [hold]
      simp only [List.length_singleton]
      rcases (by omega : i = 0 ∨ i = 1 ∨ i = 2 ∨ i = 3) with rfl | rfl | rfl | rfl
      all_goals
        rcases (by omega : m = 0 ∨ m = 1 ∨ m = 2 ∨ m = 3) with rfl | rfl | rfl | rfl
        all_goals first
          | (rw [if_pos (by omega)]; rfl)
          | (rw [if_neg (by omega), if_pos (by omega), Nat.sub_eq_zero_of_le (by omega)]; rfl)
          | (rw [if_neg (by omega), if_neg (by omega)]; rfl)
    · rw [cellsY_len, if_neg hj2, if_neg (by omega), if_neg (by simp; omega)]

/-- Tags of blocks, and those of new ones. -/
def ext (T : Nat → Nat) (n a : Nat) : Nat → Nat := fun g => if g < n then T g else a
theorem ext_old {T : Nat → Nat} {n a g : Nat} (h : g < n) : ext T n a g = T g := if_pos h
theorem ext_new {T : Nat → Nat} {n a g : Nat} (h : n ≤ g) : ext T n a g = a := if_neg (by omega)
def CN (T : Nat → Nat) (B : Nat) (W : World) (p : Nat) (c : Cd) (sv : Value) : Prop := CdAt B W p c sv ∧ T p = 1 ∧ ∀ g, sv.ownBlock = some g → T g = 1
def CX (T : Nat → Nat) (B : Nat) (W : World) (v : Value) (xs : List Txn) : Prop := TxsAt B W v xs ∧ ∀ g, v.ownBlock = some g → T g = 2
def CH (T : Nat → Nat) (B : Nat) (W : World) (v : Value) (hs : List (List Int)) : Prop :=
  (∃ vs : List Value, W.ownsRow B 31 1 v hs.length vs ∧ ∀ (i : Nat) (l : List Int), hs[i]? = some l → ∃ u, vs[i]? = some u ∧ Ints W u l ∧ ∀ k, u.ownBlock = some k → l ≠ [] → T k = 6) ∧ ∀ g, v.ownBlock = some g → T g = 3
def CY (T : Nat → Nat) (B : Nat) (W : World) (v : Value) (ys : List St4) : Prop := W.ownsRow B 41 4 v ys.length (ys.flatMap cellsY) ∧ ∀ g, v.ownBlock = some g → T g = 4
def CF (T : Nat → Nat) (B : Nat) (W : World) (v : Value) (fs : List Int) : Prop := W.ownsRow B 42 1 v fs.length (fs.map (Value.int .i64)) ∧ ∀ g, v.ownBlock = some g → T g = 5
section
variable {T : Nat → Nat} {B : Nat} {W W' : World} {S : Nat → Prop} {a : Nat}
theorem CN.mv {p : Nat} {c : Cd} {sv : Value} (h : CN T B W p c sv) (hf : Fr S W W') (hS : ∀ k, S k → T k ≠ 1) (a : Nat) : CN (ext T W.heap.size a) B W' p c sv := by
  obtain ⟨h1, h2, h3⟩ := h
  exact ⟨h1.kept (fun g hg => hf.block g (by rcases hg with rfl | hg; exact h1.lt; exact (World.ownsRow.lt h1.us g hg).2) (fun e => by rcases hg with rfl | hg; exact hS _ e h2; exact hS _ e (h3 g hg))),
    by rw [ext_old h1.lt]; exact h2, fun g hg => by rw [ext_old (World.ownsRow.lt h1.us g hg).2]; exact h3 g hg⟩
theorem CX.mv {v : Value} {xs : List Txn} (h : CX T B W v xs) (hf : Fr S W W') (hS : ∀ k, S k → T k ≠ 2) (a : Nat) : CX (ext T W.heap.size a) B W' v xs :=
  ⟨owns_frame h.1 (fun g hg => hf.block g (World.ownsRow.lt h.1 g hg).2 (fun e => hS g e (h.2 g hg))), fun g hg => by rw [ext_old (World.ownsRow.lt h.1 g hg).2]; exact h.2 g hg⟩
theorem CY.mv {v : Value} {ys : List St4} (h : CY T B W v ys) (hf : Fr S W W') (hS : ∀ k, S k → T k ≠ 4) (a : Nat) : CY (ext T W.heap.size a) B W' v ys :=
  ⟨owns_frame h.1 (fun g hg => hf.block g (World.ownsRow.lt h.1 g hg).2 (fun e => hS g e (h.2 g hg))), fun g hg => by rw [ext_old (World.ownsRow.lt h.1 g hg).2]; exact h.2 g hg⟩
theorem CF.mv {v : Value} {fs : List Int} (h : CF T B W v fs) (hf : Fr S W W') (hS : ∀ k, S k → T k ≠ 5) (a : Nat) : CF (ext T W.heap.size a) B W' v fs :=
  ⟨owns_frame h.1 (fun g hg => hf.block g (World.ownsRow.lt h.1 g hg).2 (fun e => hS g e (h.2 g hg))), fun g hg => by rw [ext_old (World.ownsRow.lt h.1 g hg).2]; exact h.2 g hg⟩
theorem CH.mv {v : Value} {hs : List (List Int)} (h : CH T B W v hs) (hf : Fr S W W') (hS : ∀ k, S k → T k ≠ 3 ∧ T k ≠ 6) (a : Nat) : CH (ext T W.heap.size a) B W' v hs := by
  obtain ⟨⟨vs, h1, h2⟩, h3⟩ := h
  refine ⟨⟨vs, owns_frame h1 (fun g hg => hf.block g (World.ownsRow.lt h1 g hg).2 (fun e => (hS g e).1 (h3 g hg))), fun i l hi => ?_⟩, fun g hg => by rw [ext_old (World.ownsRow.lt h1 g hg).2]; exact h3 g hg⟩
  obtain ⟨u, hu, hl, hk⟩ := h2 i l hi
  exact ⟨u, hu, hl.kept hf.size (fun g hg hn => hf.block g (hl.lt g hg hn) (fun e => (hS g e).2 (hk g hg hn))), fun k e hn => by rw [ext_old (hl.lt k e hn)]; exact hk k e hn⟩
end
/-- Where the script stands in memory. -/
structure AT (T : Nat → Nat) (w W : World) (p : Nat) (c : Cd) (sv tv hv yv fv : Value) (xs : List Txn) (hs : List (List Int)) (ys : List St4) (fs : List Int) : Prop where
  ex : Below w.heap.size w W
  cn : CN T w.heap.size W p c sv
  cx : CX T w.heap.size W tv xs
  ch : CH T w.heap.size W hv hs
  cy : CY T w.heap.size W yv ys
  cf : CF T w.heap.size W fv fs
def Ag (w W : World) (p : Nat) (c : Cd) (sv tv hv yv fv : Value) (xs : List Txn) (hs : List (List Int)) (ys : List St4) (fs : List Int) : Prop := ∃ T, AT T w W p c sv tv hv yv fv xs hs ys fs
theorem Ag.start {w W : World} {p : Nat} {sv : Value} (hn : CdAt w.heap.size W p ⟨1, 0, 1, []⟩ sv) (hb : Below w.heap.size w W) : Ag w W p ⟨1, 0, 1, []⟩ sv (.slice none 0 0) (.slice none 0 0) (.slice none 0 0) (.slice none 0 0) [] [] [] [] := by
  have h0 : ∀ g, (Value.slice none 0 0).ownBlock = some g → False := fun g hg => by simp [Value.ownBlock] at hg
  exact ⟨fun _ => 1, hb, ⟨hn, rfl, fun _ _ => rfl⟩, ⟨TxsAt.nil _ _, fun g hg => (h0 g hg).elim⟩, ⟨⟨[], World.ownsRow_nil _ _ _ _, fun i l h => by simp at h⟩, fun g hg => (h0 g hg).elim⟩, ⟨World.ownsRow_nil _ _ _ _, fun g hg => (h0 g hg).elim⟩, ⟨World.ownsRow_nil _ _ _ _, fun g hg => (h0 g hg).elim⟩⟩
section
variable {w W W' : World} {p : Nat} {c : Cd} {sv tv hv yv fv : Value} {xs : List Txn} {hs : List (List Int)} {ys : List St4} {fs : List Int}
theorem Ag.ex (h : Ag w W p c sv tv hv yv fv xs hs ys fs) : Below w.heap.size w W := by obtain ⟨_, h⟩ := h; exact h.ex
theorem Ag.nd (h : Ag w W p c sv tv hv yv fv xs hs ys fs) : CdAt w.heap.size W p c sv := by obtain ⟨_, h⟩ := h; exact h.cn.1
theorem Ag.tx (h : Ag w W p c sv tv hv yv fv xs hs ys fs) : TxsAt w.heap.size W tv xs := by obtain ⟨_, h⟩ := h; exact h.cx.1
theorem Ag.shapes (h : Ag w W p c sv tv hv yv fv xs hs ys fs) : (∃ a cp, tv = .slice a xs.length cp) ∧ (∃ a cp, hv = .slice a hs.length cp) ∧ (∃ a cp, yv = .slice a ys.length cp) ∧ ∃ a cp, fv = .slice a fs.length cp := by
  obtain ⟨T, h⟩ := h
  obtain ⟨⟨vs, h1, _⟩, _⟩ := h.ch
  have g : ∀ {e : TypeId} {s n : Nat} {v : Value} {l : List Value}, W.ownsRow w.heap.size e s v n l → ∃ a cp, v = .slice a n cp := fun h => by obtain ⟨a, cp, e, _⟩ := owns_shape h; exact ⟨a, cp, e⟩
  exact ⟨g h.cx.1, g h1, g h.cy.1, g h.cf.1⟩
theorem Ag.lts (h : Ag w W p c sv tv hv yv fv xs hs ys fs) : p < W.heap.size ∧ (∀ g, sv.ownBlock = some g → g < W.heap.size) ∧ (∀ g, tv.ownBlock = some g → g < W.heap.size) ∧ (∀ g, hv.ownBlock = some g → g < W.heap.size) ∧ (∀ g, yv.ownBlock = some g → g < W.heap.size) ∧ ∀ g, fv.ownBlock = some g → g < W.heap.size := by
  obtain ⟨T, h⟩ := h
  obtain ⟨⟨vs, h1, _⟩, _⟩ := h.ch
  exact ⟨h.cn.1.lt, fun g hg => (World.ownsRow.lt h.cn.1.us g hg).2, fun g hg => (World.ownsRow.lt h.cx.1 g hg).2, fun g hg => (World.ownsRow.lt h1 g hg).2, fun g hg => (World.ownsRow.lt h.cy.1 g hg).2, fun g hg => (World.ownsRow.lt h.cf.1 g hg).2⟩
theorem Ag.below (h : Ag w W p c sv tv hv yv fv xs hs ys fs) (hb : Below W.heap.size W W') : Ag w W' p c sv tv hv yv fv xs hs ys fs := by
  obtain ⟨T, h⟩ := h
  have hf := Fr.of_below (fun _ => False) hb
  exact ⟨ext T W.heap.size 0, h.ex.trans (hb.mono h.ex.size), h.cn.mv hf (fun _ h => h.elim) 0, h.cx.mv hf (fun _ h => h.elim) 0, h.ch.mv hf (fun _ h => h.elim) 0, h.cy.mv hf (fun _ h => h.elim) 0, h.cf.mv hf (fun _ h => h.elim) 0⟩
theorem Ag.op' {c' : Cd} {sv' : Value} (h : Ag w W p c sv tv hv yv fv xs hs ys fs) (h1 : CdAt w.heap.size W' p c' sv') (hf : Fr (fun k => k = p ∨ sv.ownBlock = some k) W W') (hn : ∀ g, sv'.ownBlock = some g → sv.ownBlock = some g ∨ W.heap.size ≤ g) : Ag w W' p c' sv' tv hv yv fv xs hs ys fs := by
  obtain ⟨T, h⟩ := h
  have hbel := OpC.below h.cn.1 ⟨sv', h1, hf, hn⟩ h.ex.size
  have hT : ∀ k, (k = p ∨ sv.ownBlock = some k) → T k = 1 := fun k e => by rcases e with rfl | e; exact h.cn.2.1; exact h.cn.2.2 k e
  have hT' : ∀ a, a ≠ 1 → ∀ k, (k = p ∨ sv.ownBlock = some k) → T k ≠ a := fun a ha k e => by rw [hT k e]; exact Ne.symm ha
  refine ⟨ext T W.heap.size 1, h.ex.trans hbel, ⟨h1, ?_, fun g hg => ?_⟩, h.cx.mv hf (hT' 2 (by decide)) 1, h.ch.mv hf (fun k e => ⟨hT' 3 (by decide) k e, hT' 6 (by decide) k e⟩) 1, h.cy.mv hf (hT' 4 (by decide)) 1, h.cf.mv hf (hT' 5 (by decide)) 1⟩
  · rw [ext_old h.cn.1.lt]; exact h.cn.2.1
  · by_cases hg2 : g < W.heap.size
    · rw [ext_old hg2]
      rcases hn g hg with e | e
      · exact h.cn.2.2 g e
      · omega
    · exact ext_new (by omega)
theorem Ag.op {c' : Cd} (h : Ag w W p c sv tv hv yv fv xs hs ys fs) (ho : OpC w.heap.size W p sv c' W') : ∃ sv', Ag w W' p c' sv' tv hv yv fv xs hs ys fs := by
  obtain ⟨sv', h1, hf, hn⟩ := ho
  exact ⟨sv', h.op' h1 hf hn⟩
/-- A record that was just made. -/
def RcK (D : Nat) (W : World) (rv : Value) (l : List UInt8) : Prop := Byz W rv l ∧ ∀ g, rv.ownBlock = some g → l ≠ [] → D ≤ g
theorem RcK.nil (D : Nat) (W : World) : RcK D W (.slice none 0 0) [] := ⟨⟨⟨none, 0, rfl⟩, fun h => absurd rfl h⟩, fun g hg => by simp [Value.ownBlock] at hg⟩
theorem Ag.say {r : Option (List UInt8)} {er : Int} {c' : Cd} {e : Ending} (h : Ag w W p c sv tv hv yv fv xs hs ys fs) (hs' : SayR w.heap.size W p sv r er c' e W') :
    ∃ sv' ra rc l, e = .returned (.tuple #[.slice ra l.length rc, .int .i64 er]) ∧ Ag w W' p c' sv' tv hv yv fv xs hs ys fs ∧ RcK W.heap.size W' (.slice ra l.length rc) l ∧ l = r.getD [] := by
  obtain ⟨h1, ho⟩ := hs'
  cases r with
  | none =>
    obtain ⟨sv', h2⟩ := h.op ho
    exact ⟨sv', none, 0, [], h1, h2, RcK.nil _ _, rfl⟩
  | some m =>
    obtain ⟨a, k, he, hrow, hcd⟩ := h1
    obtain ⟨sv', _, hf, _⟩ := ho
    exact ⟨sv, a, k, m, he, h.op' hcd hf (fun g hg => Or.inl hg), ⟨hrow.1.z, fun g hg _ => row_own hrow g hg⟩, rfl⟩
theorem Ag.give (x : Txn) (h : Ag w W p c sv tv hv yv fv xs hs ys fs) (hn : xs.length ≤ 100000) :
    ∃ a cp w', (∀ ty, (Builtin.append_ #[27, 27] ty #[tv, .slice (some ⟨W.heap.size, 0, none⟩) 1 1]).run Try.prog (W.alloc (.cells (cellsX x).toArray 33)) = .ok (.slice a (xs ++ [x]).length cp) w') ∧ Ag w w' p c sv (.slice a (xs ++ [x]).length cp) hv yv fv (xs ++ [x]) hs ys fs ∧ Fr (fun k => tv.ownBlock = some k) W w' := by
  obtain ⟨T, h⟩ := h
  obtain ⟨a, cp, w', h1, h2, hf, hw⟩ := appX w.heap.size W tv xs x h.cx.1 h.ex.size hn
  have hT' : ∀ a, a ≠ 2 → ∀ k, tv.ownBlock = some k → T k ≠ a := fun a ha k e => by rw [h.cx.2 k e]; exact Ne.symm ha
  refine ⟨a, cp, w', h1, ⟨ext T W.heap.size 2, h.ex.trans (hf.below h.ex.size (fun g hg => (World.ownsRow.lt h.cx.1 g hg).1)), h.cn.mv hf (hT' 1 (by decide)) 2, ⟨h2, fun g hg => ?_⟩, h.ch.mv hf (fun k e => ⟨hT' 3 (by decide) k e, hT' 6 (by decide) k e⟩) 2, h.cy.mv hf (hT' 4 (by decide)) 2, h.cf.mv hf (hT' 5 (by decide)) 2⟩, hf⟩
  rcases hw g hg with e | e
  · rw [ext_old (World.ownsRow.lt h.cx.1 g e).2]; exact h.cx.2 g e
  · exact ext_new e
theorem infoY4 : (Try.prog.info? 41).map (fun i => (i.zero, i.size, i.bytes)) = some (some (.agg #[.bool false, .bool false, .bool false, .bool false]), 4, 4) := by kernel_rfl
theorem infoFt : (Try.prog.info? 42).map (fun i => (i.zero, i.size, i.bytes)) = some (some (.int .i64 0), 1, 8) := by kernel_rfl
theorem infoSI : (Try.prog.info? 31).map (fun i => (i.zero, i.size, i.bytes)) = some (some (.slice none 0 0), 1, 24) := by kernel_rfl
theorem Ag.giveY (h : Ag w W p c sv tv hv yv fv xs hs ys fs) (hn : ys.length ≤ 100000) :
    ∃ a cp w', (∀ ty, (Builtin.append_ #[29, 29] ty #[yv, .slice (some ⟨W.heap.size, 0, none⟩) 1 1]).run Try.prog (W.alloc (.cells (cellsY St4.none).toArray 41)) = .ok (.slice a (ys ++ [St4.none]).length cp) w') ∧ Ag w w' p c sv tv hv (.slice a (ys ++ [St4.none]).length cp) fv xs hs (ys ++ [St4.none]) fs ∧ Fr (fun k => yv.ownBlock = some k) W w' := by
  obtain ⟨T, h⟩ := h
  obtain ⟨i, hi, hz, hs', hbs⟩ := info_parts infoY4
  obtain ⟨a, cp, w', h1, h2, hf, hw⟩ := app1 (cs := cellsY St4.none) Try.underlying29 hi hz hs' hbs rfl (by decide) (by decide) h.cy.1 h.ex.size rfl (by intro u hu; simp only [cellsY, List.mem_cons, List.not_mem_nil, or_false] at hu; rcases hu with rfl | rfl | rfl | rfl <;> rfl) hn
  have hT' : ∀ a, a ≠ 4 → ∀ k, yv.ownBlock = some k → T k ≠ a := fun a ha k e => by rw [h.cy.2 k e]; exact Ne.symm ha
  have hln : (ys ++ [St4.none]).length = ys.length + 1 := by simp
  have hcl : (ys ++ [St4.none]).flatMap cellsY = ys.flatMap cellsY ++ cellsY St4.none := by simp
  rw [hln]
  refine ⟨a, cp, w', h1, ⟨ext T W.heap.size 4, h.ex.trans (hf.below h.ex.size (fun g hg => (World.ownsRow.lt h.cy.1 g hg).1)), h.cn.mv hf (hT' 1 (by decide)) 4, h.cx.mv hf (hT' 2 (by decide)) 4, h.ch.mv hf (fun k e => ⟨hT' 3 (by decide) k e, hT' 6 (by decide) k e⟩) 4, ⟨by rw [hln, hcl]; exact h2, fun g hg => ?_⟩, h.cf.mv hf (hT' 5 (by decide)) 4⟩, hf⟩
  rcases hw g hg with e | e
  · rw [ext_old (World.ownsRow.lt h.cy.1 g e).2]; exact h.cy.2 g e
  · exact ext_new e
theorem Ag.giveF (h : Ag w W p c sv tv hv yv fv xs hs ys fs) (hn : fs.length ≤ 100000) :
    ∃ a cp w', (∀ ty, (Builtin.append_ #[30, 30] ty #[fv, .slice (some ⟨W.heap.size, 0, none⟩) 1 1]).run Try.prog (W.alloc (.cells #[.int .i64 0] 42)) = .ok (.slice a (fs ++ [(0 : Int)]).length cp) w') ∧ Ag w w' p c sv tv hv yv (.slice a (fs ++ [(0 : Int)]).length cp) xs hs ys (fs ++ [(0 : Int)]) ∧ Fr (fun k => fv.ownBlock = some k) W w' := by
  obtain ⟨T, h⟩ := h
  obtain ⟨i, hi, hz, hs', hbs⟩ := info_parts infoFt
  obtain ⟨a, cp, w', h1, h2, hf, hw⟩ := app1 (cs := [.int .i64 0]) Try.underlying30 hi hz hs' hbs rfl (by decide) (by decide) h.cf.1 h.ex.size rfl (by intro u hu; simp only [List.mem_cons, List.not_mem_nil, or_false] at hu; subst hu; rfl) hn
  have hT' : ∀ a, a ≠ 5 → ∀ k, fv.ownBlock = some k → T k ≠ a := fun a ha k e => by rw [h.cf.2 k e]; exact Ne.symm ha
  have hln : (fs ++ [(0 : Int)]).length = fs.length + 1 := by simp
  have hcl : (fs ++ [(0 : Int)]).map (Value.int .i64) = fs.map (Value.int .i64) ++ [.int .i64 0] := by simp
  rw [hln]
  refine ⟨a, cp, w', h1, ⟨ext T W.heap.size 5, h.ex.trans (hf.below h.ex.size (fun g hg => (World.ownsRow.lt h.cf.1 g hg).1)), h.cn.mv hf (hT' 1 (by decide)) 5, h.cx.mv hf (hT' 2 (by decide)) 5, h.ch.mv hf (fun k e => ⟨hT' 3 (by decide) k e, hT' 6 (by decide) k e⟩) 5, h.cy.mv hf (hT' 4 (by decide)) 5, ⟨by rw [hln, hcl]; exact h2, fun g hg => ?_⟩⟩, hf⟩
  rcases hw g hg with e | e
  · rw [ext_old (World.ownsRow.lt h.cf.1 g e).2]; exact h.cf.2 g e
  · exact ext_new e
/-- append of a list of integers to an empty one. -/
theorem appS {cv : Value} {l : List Int} (hl : Ints W cv l) (hne : l ≠ []) (hn : l.length ≤ 100000) :
    ∃ a cp w', (∀ ty, (Builtin.append_ #[31, 31] ty #[.slice (some ⟨W.heap.size, 0, none⟩) 0 0, cv]).run Try.prog (W.alloc (.cells #[] 3)) = .ok (.slice a l.length cp) w') ∧ Ints w' (.slice a l.length cp) l ∧ Below W.heap.size W w' ∧ ∀ g, (Value.slice a l.length cp).ownBlock = some g → W.heap.size ≤ g := by
  have hb : Below W.heap.size W (W.alloc (.cells #[] 3)) := (Below.refl _ W).alloc (Nat.le_refl _) _
  have hl' := hl.below hb
  obtain ⟨ca, cc, rfl, hcell⟩ := hl'
  obtain ⟨x, hx⟩ : ∃ x, l[0]? = some x := ⟨l[0]'(List.length_pos_iff.2 hne), List.getElem?_eq_getElem (List.length_pos_iff.2 hne)⟩
  obtain ⟨g, off, rfl, _, _⟩ := hcell 0 x hx
  obtain ⟨i, hi, hz, hs, hbs⟩ := info_parts infoI
  have hown : (W.alloc (.cells #[] 3)).ownsRow 0 3 1 (.slice (some ⟨W.heap.size, 0, none⟩) 0 0) 0 [] := ⟨rfl, Or.inr ⟨W.heap.size, 0, #[], rfl, Nat.zero_le _, heap_alloc_new W _, Nat.le_refl _, by decide, rfl, rfl⟩⟩
  obtain ⟨v', w', hr, ho, hg, hwh⟩ := app_own (P := Try.prog) _ 31 3 i _ 1 8 Try.underlying31 hi hz hs hbs rfl (by decide) _ 0 [] hown ⟨g, off, none⟩ l.length cc (l.map (Value.int .i64)) (by rw [List.length_map, Nat.mul_one]) (by have := List.length_pos_iff.2 hne; omega)
    (fun j u hu => by
      rw [List.getElem?_map] at hu
      cases hj : l[j]? with
      | none => rw [hj] at hu; cases hu
      | some y =>
        rw [hj] at hu
        obtain rfl := Option.some.inj hu
        obtain ⟨g', off', e, _, h⟩ := hcell j y hj
        cases e
        rw [addr_plus]; exact h) (fun u hu => by obtain ⟨s, _, rfl⟩ := List.mem_map.1 hu; rfl) (by unfold maxLen; omega) (by omega)
  rw [Nat.zero_add, List.nil_append] at ho
  obtain ⟨a, cp, rfl, _⟩ := owns_shape ho
  have hsz : (W.alloc (.cells #[] 3)).heap.size = W.heap.size + 1 := by simp
  have hwh2 : ∀ g, (Value.slice a l.length cp).ownBlock = some g → W.heap.size ≤ g := fun g hgg => by
    rcases hwh g hgg with e | e
    · have : W.heap.size = g := by simpa [Value.ownBlock] using e
      omega
    · omega
  exact ⟨a, cp, w', hr, IntO.ints (B := 0) ho, hb.grown hg (by omega) (fun k hk => by rw [show W.heap.size = k by simpa [Value.ownBlock] using hk]; exact Nat.le_refl _), hwh2⟩
theorem Ag.giveH {a0 : Option Addr} {c0 : Nat} {l : List Int} {V : World} (hb : Below V.heap.size V W) (hV : Ag w V p c sv tv hv yv fv xs hs ys fs) (hl : Ints W (.slice a0 l.length c0) l) (hk : ∀ g, (Value.slice a0 l.length c0).ownBlock = some g → V.heap.size ≤ g) (hn : hs.length ≤ 100000) :
    ∃ a cp w', (∀ ty, (Builtin.append_ #[28, 28] ty #[hv, .slice (some ⟨W.heap.size, 0, none⟩) 1 1]).run Try.prog (W.alloc (.cells #[.slice a0 l.length c0] 31)) = .ok (.slice a (hs ++ [l]).length cp) w') ∧ Ag w w' p c sv tv (.slice a (hs ++ [l]).length cp) yv fv xs (hs ++ [l]) ys fs ∧ Fr (fun k => hv.ownBlock = some k) W w' := by
  obtain ⟨T0, hV⟩ := hV
  have hf0 := Fr.of_below (fun _ => False) hb
  have h : AT (ext T0 V.heap.size 6) w W p c sv tv hv yv fv xs hs ys fs := ⟨hV.ex.trans (hb.mono hV.ex.size), hV.cn.mv hf0 (fun _ h => h.elim) 6, hV.cx.mv hf0 (fun _ h => h.elim) 6, hV.ch.mv hf0 (fun _ h => h.elim) 6, hV.cy.mv hf0 (fun _ h => h.elim) 6, hV.cf.mv hf0 (fun _ h => h.elim) 6⟩
  have hk6 : ∀ g, (Value.slice a0 l.length c0).ownBlock = some g → l ≠ [] → ext T0 V.heap.size 6 g = 6 := fun g hg _ => ext_new (hk g hg)
  generalize ext T0 V.heap.size 6 = T at h hk6
  obtain ⟨⟨vs, h0, he⟩, h3⟩ := h.ch
  obtain ⟨i, hi, hz, hs', hbs⟩ := info_parts infoSI
  obtain ⟨a, cp, w', h1, h2, hf, hw⟩ := app1 (cs := [.slice a0 l.length c0]) Try.underlying28 hi hz hs' hbs rfl (by decide) (by decide) h0 h.ex.size rfl (by intro u hu; simp only [List.mem_cons, List.not_mem_nil, or_false] at hu; subst hu; rfl) hn
  have hT' : ∀ a, a ≠ 3 → ∀ k, hv.ownBlock = some k → T k ≠ a := fun a ha k e => by rw [h3 k e]; exact Ne.symm ha
  have hln : (hs ++ [l]).length = hs.length + 1 := by simp
  rw [hln]
  have hvl : vs.length = hs.length := by have := h0.1; omega
  have hel : ∀ u m, Ints W u m → (∀ k, u.ownBlock = some k → m ≠ [] → T k = 6) → Ints w' u m ∧ ∀ k, u.ownBlock = some k → m ≠ [] → ext T W.heap.size 3 k = 6 := fun u m hm hk => ⟨hm.kept hf.size (fun g hg hn => hf.block g (hm.lt g hg hn) (fun e => hT' 6 (by decide) g e (hk g hg hn))), fun k e hn => by rw [ext_old (hm.lt k e hn)]; exact hk k e hn⟩
  refine ⟨a, cp, w', h1, ⟨ext T W.heap.size 3, h.ex.trans (hf.below h.ex.size (fun g hg => (World.ownsRow.lt h0 g hg).1)), h.cn.mv hf (hT' 1 (by decide)) 3, h.cx.mv hf (hT' 2 (by decide)) 3, ⟨⟨vs ++ [.slice a0 l.length c0], by rw [hln]; exact h2, fun j m hj => ?_⟩, fun g hg => ?_⟩, h.cy.mv hf (hT' 4 (by decide)) 3, h.cf.mv hf (hT' 5 (by decide)) 3⟩, hf⟩
  · by_cases hjl : j < hs.length
    · rw [List.getElem?_append_left hjl] at hj
      obtain ⟨u, hu, hum, huk⟩ := he j m hj
      exact ⟨u, by rw [List.getElem?_append_left (by omega)]; exact hu, hel u m hum huk⟩
    · rw [List.getElem?_append_right (by omega)] at hj
      have hj0 : j - hs.length = 0 := by
        rcases Nat.eq_zero_or_pos (j - hs.length) with h0 | h0
        · exact h0
        · rw [List.getElem?_eq_none (by simp; omega)] at hj; cases hj
      rw [hj0] at hj
      injection hj with hj
      subst hj
      exact ⟨_, by rw [List.getElem?_append_right (by omega), hvl, hj0]; rfl, hel _ _ hl hk6⟩
  · rcases hw g hg with e | e
    · rw [ext_old (World.ownsRow.lt h0 g e).2]; exact h3 g e
    · exact ext_new e
/-- A vote is set down. -/
theorem Ag.setY {k i : Nat} {y : St4} (h : Ag w W p c sv tv hv yv fv xs hs ys fs) (hk : ys[k]? = some y) (hi : i < 4) :
    ∃ g cp, yv = .slice (some ⟨g, 0, none⟩) ys.length cp ∧ g < W.heap.size ∧ (W.cell? ⟨g, k * 4 + i, none⟩).isSome = true ∧ W.frozen? ⟨g, k * 4 + i, none⟩ = false ∧ Ag w (W.setCell ⟨g, k * 4 + i, none⟩ (.bool true)) p c sv tv hv yv fv xs hs (ys.set k (y.put (i : Int))) fs ∧ Fr (fun m => m = g) W (W.setCell ⟨g, k * 4 + i, none⟩ (.bool true)) := by
  obtain ⟨T, h⟩ := h
  have hkl : k < ys.length := (List.getElem?_eq_some_iff.1 hk).1
  rcases h.cy.1.2 with ⟨_, h0⟩ | ⟨g, cp, cur, e, hb, hg, _⟩
  · omega
  · have hcy := h.cy
    subst e
    have hth := owns_there hcy.1 (k * 4) 4 (by omega) i hi
    have hgl := (Array.getElem?_eq_some_iff.1 hg).1
    have hst := owns_set hcy.1 (k * 4 + i) [.bool true] (by show k * 4 + i + 1 ≤ _; omega)
    rw [over_yes ys k i y hk hi] at hst
    have hf : Fr (fun m => m = g) W (W.setCell ⟨g, k * 4 + i, none⟩ (.bool true)) := Fr.setCell (o := fun m => m = g) (Fr.refl _ W) _ (Or.inl rfl) _
    have hT : T g = 4 := hcy.2 g rfl
    have hT' : ∀ a, a ≠ 4 → ∀ m, m = g → T m ≠ a := fun a ha m e => by rw [e, hT]; exact Ne.symm ha
    refine ⟨g, cp, rfl, hgl, ?_, ?_, ⟨ext T W.heap.size 4, h.ex.trans (hf.below h.ex.size (fun m e => by rw [e]; exact hb)), h.cn.mv hf (hT' 1 (by decide)) 4, h.cx.mv hf (hT' 2 (by decide)) 4, h.ch.mv hf (fun k e => ⟨hT' 3 (by decide) k e, hT' 6 (by decide) k e⟩) 4, ⟨?_, fun m hm => ?_⟩, h.cf.mv hf (hT' 5 (by decide)) 4⟩, hf⟩
    · exact hth.1
    · exact hth.2
    · rw [List.length_set]; exact hst
    · injection hm with hm
      subst hm
      rw [ext_old hgl]; exact hT
/-- A fate is set down. -/
theorem Ag.setF {k : Nat} {f : Int} (n : Int) (h : Ag w W p c sv tv hv yv fv xs hs ys fs) (hk : fs[k]? = some f) :
    ∃ g cp, fv = .slice (some ⟨g, 0, none⟩) fs.length cp ∧ g < W.heap.size ∧ W.cell? ⟨g, k, none⟩ = some (.int .i64 f) ∧ W.frozen? ⟨g, k, none⟩ = false ∧ Ag w (W.setCell ⟨g, k, none⟩ (.int .i64 n)) p c sv tv hv yv fv xs hs ys (fs.set k n) := by
  obtain ⟨T, h⟩ := h
  have hkl : k < fs.length := (List.getElem?_eq_some_iff.1 hk).1
  rcases h.cf.1.2 with ⟨_, h0⟩ | ⟨g, cp, cur, e, hb, hg, _⟩
  · omega
  · have hcf := h.cf
    subst e
    have hth := owns_there hcf.1 k 1 (by omega) 0 (by omega)
    have hgl := (Array.getElem?_eq_some_iff.1 hg).1
    have hc := World.ownsRow.cells hcf.1 (g := g) rfl k (.int .i64 f) (by rw [List.getElem?_map, hk]; rfl)
    rw [addr_plus, Nat.zero_add] at hc
    have hst := owns_set hcf.1 k [.int .i64 n] (by show k + 1 ≤ _; omega)
    rw [← over_cons _ _ _ _ (by rw [List.length_map]; exact hkl), over_nil, ← List.map_set] at hst
    have hf : Fr (fun m => m = g) W (W.setCell ⟨g, k, none⟩ (.int .i64 n)) := Fr.setCell (o := fun m => m = g) (Fr.refl _ W) _ (Or.inl rfl) _
    have hT : T g = 5 := hcf.2 g rfl
    have hT' : ∀ a, a ≠ 5 → ∀ m, m = g → T m ≠ a := fun a ha m e => by rw [e, hT]; exact Ne.symm ha
    refine ⟨g, cp, rfl, hgl, hc, hth.2, ⟨ext T W.heap.size 5, h.ex.trans (hf.below h.ex.size (fun m e => by rw [e]; exact hb)), h.cn.mv hf (hT' 1 (by decide)) 5, h.cx.mv hf (hT' 2 (by decide)) 5, h.ch.mv hf (fun k e => ⟨hT' 3 (by decide) k e, hT' 6 (by decide) k e⟩) 5, h.cy.mv hf (hT' 4 (by decide)) 5, ⟨?_, fun m hm => ?_⟩⟩⟩
    · rw [List.length_set]; exact hst
    · injection hm with hm
      subst hm
      rw [ext_old hgl]; exact hT
/-- What is read: a vote, a list of shards. -/
theorem Ag.atY {k i : Nat} {y : St4} (h : Ag w W p c sv tv hv yv fv xs hs ys fs) (hk : ys[k]? = some y) (hi : i < 4) : ∃ g cp, yv = .slice (some ⟨g, 0, none⟩) ys.length cp ∧ g < W.heap.size ∧ W.cell? ⟨g, k * 4 + i, none⟩ = some (.bool (y.has (i : Int))) := by
  obtain ⟨T, h⟩ := h
  have hkl : k < ys.length := (List.getElem?_eq_some_iff.1 hk).1
  rcases h.cy.1.2 with ⟨_, h0⟩ | ⟨g, cp, cur, e, hb, hg, _⟩
  · omega
  · have hcy := h.cy.1
    subst e
    have hc := World.ownsRow.cells hcy (g := g) rfl (k * 4 + i) (.bool (y.has (i : Int))) (flat_at cellsY 4 ys k (fun _ _ => rfl) y hk i _ (by rcases (by omega : i = 0 ∨ i = 1 ∨ i = 2 ∨ i = 3) with rfl | rfl | rfl | rfl <;> rfl))
    rw [addr_plus, Nat.zero_add] at hc
    exact ⟨g, cp, rfl, (Array.getElem?_eq_some_iff.1 hg).1, hc⟩
theorem Ag.atH {k : Nat} {l : List Int} (h : Ag w W p c sv tv hv yv fv xs hs ys fs) (hk : hs[k]? = some l) : ∃ g cp u, hv = .slice (some ⟨g, 0, none⟩) hs.length cp ∧ g < W.heap.size ∧ W.cell? ⟨g, k, none⟩ = some u ∧ Ints W u l := by
  obtain ⟨T, h⟩ := h
  obtain ⟨⟨vs, h1, h2⟩, _⟩ := h.ch
  have hkl : k < hs.length := (List.getElem?_eq_some_iff.1 hk).1
  obtain ⟨u, hu, hl, _⟩ := h2 k l hk
  rcases h1.2 with ⟨_, h0⟩ | ⟨g, cp, cur, e, hb, hg, _⟩
  · omega
  · have hc := World.ownsRow.cells h1 (g := g) (by rw [e]; rfl) k u hu
    rw [addr_plus, Nat.zero_add] at hc
    exact ⟨g, cp, u, e, (Array.getElem?_eq_some_iff.1 hg).1, hc, hl⟩
end
end Go.Proofs.Ytleghofpabdkhaa
