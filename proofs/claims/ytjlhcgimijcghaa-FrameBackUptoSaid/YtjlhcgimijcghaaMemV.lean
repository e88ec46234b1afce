/- Slices of values of one cell each, over any program: what they read as, what is the call's own, appends. (As Mem's, of bytes.) -/
import Derived.Test.YtjlhcgimijcghaaMem
namespace Go.Proofs.Ytjlhcgimijcghaa
open Go Go.RowKit
variable {P : Program}


/-- The slice v of bytes reads as l. -/
def VByt (w : World) (v : Value) (l : List Value) : Prop :=
  ∃ a cap, v = .slice a l.length cap ∧ l.length ≤ cap ∧ (a = none → cap = 0) ∧
    ∀ ad, a = some ad → ∃ g off, ad = ⟨g, off, none⟩ ∧ g < w.heap.size ∧ ∀ j (h : j < l.length), w.cell? ⟨g, off + j, none⟩ = some (l[j])
/-- It is the call's own, up to its capacity: from block B on. -/
def VRow (B : Nat) (w : World) (v : Value) (l : List Value) : Prop :=
  VByt w v l ∧ ∀ ad n cap, v = .slice (some ad) n cap → B ≤ ad.block ∧ cap ≤ maxLen ∧ ∀ j, j < cap → (w.cell? ⟨ad.block, ad.off + j, none⟩).isSome = true ∧ w.frozen? ⟨ad.block, ad.off + j, none⟩ = false

theorem VByt.nil (w : World) : VByt w (.slice none 0 0) [] := ⟨none, 0, rfl, Nat.le_refl _, fun _ => rfl, fun ad h => by cases h⟩
theorem VRow.nil (B : Nat) (w : World) : VRow B w (.slice none 0 0) [] := ⟨VByt.nil w, fun ad n cap h => by cases h⟩
theorem VByt.shape {w : World} {v : Value} {l : List Value} (h : VByt w v l) : ∃ a cap, v = .slice a l.length cap ∧ l.length ≤ cap := by
  obtain ⟨a, cap, h1, h2, _⟩ := h
  exact ⟨a, cap, h1, h2⟩
/-- What is read stands while its block does. -/
theorem VByt.kept {w w' : World} {v : Value} {l : List Value} (h : VByt w v l) (hs : w.heap.size ≤ w'.heap.size) (hk : ∀ g, v.ownBlock = some g → w'.heap[g]? = w.heap[g]?) : VByt w' v l := by
  obtain ⟨a, cap, rfl, h2, h3, h4⟩ := h
  refine ⟨a, cap, rfl, h2, h3, fun ad had => ?_⟩
  obtain ⟨g, off, rfl, hg, hc⟩ := h4 ad had
  subst had
  exact ⟨g, off, rfl, by omega, fun j hj => (World.cell?_of_block (a := ⟨g, off + j, none⟩) (hk g rfl)).trans (hc j hj)⟩
theorem VByt.below {w w' : World} {v : Value} {l : List Value} (h : VByt w v l) (hb : Below w.heap.size w w') : VByt w' v l :=
  h.kept hb.size fun g hg => by
    obtain ⟨a, cap, rfl, _, _, h4⟩ := h
    cases a with
    | none => simp [Value.ownBlock] at hg
    | some ad =>
      obtain ⟨g', off, rfl, hg', _⟩ := h4 _ rfl
      simp [Value.ownBlock] at hg
      subst hg
      exact hb.block g' hg'
theorem VByt.lt {w : World} {v : Value} {l : List Value} (h : VByt w v l) : ∀ g, v.ownBlock = some g → g < w.heap.size := by
  intro g hg
  obtain ⟨a, cap, rfl, _, _, h4⟩ := h
  cases a with
  | none => simp [Value.ownBlock] at hg
  | some ad =>
    obtain ⟨g', off, rfl, hg', _⟩ := h4 _ rfl
    simp [Value.ownBlock] at hg
    subst hg
    exact hg'
theorem VRow.kept {B : Nat} {w w' : World} {v : Value} {l : List Value} (h : VRow B w v l) (hs : w.heap.size ≤ w'.heap.size) (hk : ∀ g, v.ownBlock = some g → w'.heap[g]? = w.heap[g]?) : VRow B w' v l := by
  refine ⟨h.1.kept hs hk, fun ad n cap hv => ?_⟩
  obtain ⟨h1, h2, h3⟩ := h.2 ad n cap hv
  have hg : w'.heap[ad.block]? = w.heap[ad.block]? := hk ad.block (by rw [hv]; rfl)
  refine ⟨h1, h2, fun j hj => ?_⟩
  rw [World.cell?_of_block (a := ⟨ad.block, ad.off + j, none⟩) hg, World.frozen?_of_block (a := ⟨ad.block, ad.off + j, none⟩) hg]
  exact h3 j hj
theorem VRow.below {B : Nat} {w w' : World} {v : Value} {l : List Value} (h : VRow B w v l) (hb : Below w.heap.size w w') : VRow B w' v l :=
  h.kept hb.size fun g hg => hb.block g (h.1.lt g hg)

/-- The bytes of a slice, as an append's source. -/
theorem VByt.src {w : World} {v : Value} {l : List Value} (h : VByt w v l) {t e' : TypeId} (hk : P.underlying t = some (.slice e')) (hone : ∀ u ∈ l, u.oneCell' = true) : Go.Src P 1 t v l.length l w := by
  obtain ⟨a, cap, rfl, h2, h3, h4⟩ := h
  cases a with
  | none =>
    have h0 := h3 rfl
    have : l = [] := List.eq_nil_of_length_eq_zero (by omega)
    subst this
    subst h0
    exact Go.Src.ofNil w hk 0
  | some ad =>
    obtain ⟨g, off, rfl, hg, hc⟩ := h4 _ rfl
    refine Go.Src.ofSlice w hk ⟨g, off, none⟩ l.length cap _ (by simp) (fun j u hj => ?_) (fun u hu => ?_)
    · have hjl : j < l.length := by have := (List.getElem?_eq_some_iff.1 hj).1; simpa using this
      rw [addr_plus, hc j hjl]
      rw [List.getElem?_eq_getElem hjl] at hj
      exact hj
    · exact hone u hu


/-- append(v, x...) onto what the call owns. -/
theorem run_append_vsrc (w : World) (t tx e : TypeId) (i : TypeInfo) (ht : P.underlying t = some (.slice e)) (hi : P.info? e = some i) (z : Value) (hzc : z.cells.size = 1) (bs : Nat) (hz : i.zero = some z) (hs1 : i.size = 1) (hb1 : i.bytes = bs)
    {B : Nat} {v x : Value} {l p : List Value} (hv : VRow B w v l) (hsrc : Go.Src P 1 tx x p.length p w) (hB : B ≤ w.heap.size) (hone : ∀ u ∈ l, u.oneCell' = true) (hlen : l.length + p.length ≤ 140737488355328) (hbl : (l.length + p.length) * bs ≤ 140737488355328) :
    ∃ v' w', (∀ ty, (Builtin.append_ #[t, tx] ty #[v, x]).run P w = .ok v' w') ∧ VRow B w' v' (l ++ p) ∧ w.grownBy w' v.ownBlock ∧ (v'.ownBlock = v.ownBlock ∨ ∀ g, v'.ownBlock = some g → w.heap.size ≤ g) := by
  have hold := hv.1.src (P := P) ht hone
  have hrow := hv.2
  obtain ⟨a, cap, rfl, h2, h3, h4⟩ := hv.1
  by_cases hroom : l.length + p.length ≤ cap
  · cases a with
    | none =>
      have h0 := h3 rfl
      have hl0 : l = [] := List.eq_nil_of_length_eq_zero (by omega)
      have hp0 : p = [] := List.eq_nil_of_length_eq_zero (by omega)
      subst hl0 hp0 h0
      refine ⟨.slice none 0 0, w, fun ty => ?_, VRow.nil B w, ⟨rfl, rfl, rfl, Nat.le_refl _, fun _ _ _ => rfl⟩, Or.inl rfl⟩
      have hc := hsrc.cells
      have hln := hsrc.len
      simp only [List.length_nil] at hc hln
      rcases hsrc.kind with ⟨e', hk⟩ | hk
      · simp [Builtin.append_, run_underlying ht, run_underlying hk, sizeOf, typeInfo, hi, hs1, hln, hc]
      · simp [Builtin.append_, run_underlying ht, run_underlying hk, sizeOf, typeInfo, hi, hs1, hln, hc]
    | some ad =>
      obtain ⟨g, off, rfl, hg, hc⟩ := h4 _ rfl
      obtain ⟨q1, q2, q3⟩ := hrow _ _ _ rfl
      simp only at q1 q3
      have hr := fun ty => run_append_room_src (P := P) w t tx ty e i ht hi g off l.length cap x p.length _ (by rw [hs1]; exact hsrc) hroom
        (fun j hj => by rw [hs1, Nat.mul_one, Nat.add_assoc]; exact (q3 (l.length + j) (by omega)).1)
        (fun j hj => by rw [hs1, Nat.mul_one, Nat.add_assoc]; exact (q3 (l.length + j) (by omega)).2)
      simp only [hs1, Nat.mul_one] at hr
      obtain ⟨s1, s2, s3, s4, s5⟩ := setCells_all g p (off + l.length) w
      have hin := World.cell?_setCells_in g p (off + l.length) w (fun j hj => by
        rw [Nat.add_assoc]; exact (q3 (l.length + j) (by omega)).1)
      have hout := fun x hx => World.cell?_setCells_out g p (off + l.length) w x hx
      have hfr := fun x => World.frozen?_setCells g p (off + l.length) w x
      have hlow : ∀ j (hj : j < (l ++ p).length), (w.setCells g (off + l.length) p).cell? ⟨g, off + j, none⟩ = some ((l ++ p)[j]) := by
        intro j hj
        rw [List.length_append] at hj
        by_cases hjl : j < l.length
        · rw [hout _ (fun _ _ => Or.inl (by simp only; omega)), hc j hjl, List.getElem_append_left hjl]
        · have := hin (j - l.length) (by omega)
          rw [Nat.add_assoc, show l.length + (j - l.length) = j by omega] at this
          rw [this, List.getElem_append_right (by omega)]
      refine ⟨_, _, hr, ⟨⟨some ⟨g, off, none⟩, cap, by rw [List.length_append], by rw [List.length_append]; exact hroom, ?_, ?_⟩, ?_⟩, ⟨s1, s2, s3, by rw [s4]; exact Nat.le_refl _, fun k hk hne => s5 k (fun e1 => hne (by rw [e1]; rfl))⟩, Or.inl rfl⟩
      · intro h; cases h
      · intro ad had
        injection had with had
        subst had
        exact ⟨g, off, rfl, by rw [s4]; exact hg, hlow⟩
      · intro ad n c hv
        injection hv with e1 e2 e3
        injection e1 with e1
        subst e1 e3
        refine ⟨q1, q2, fun j hj => ⟨?_, ?_⟩⟩
        · simp only
          by_cases hj2 : j < (l ++ p).length
          · rw [hlow j hj2]; rfl
          · rw [List.length_append] at hj2
            rw [hout _ (fun _ _ => Or.inr (by simp only; omega))]
            exact (q3 j hj).1
        · rw [hfr]; exact (q3 j hj).2
  · have hcd := hold.cellsD
    have hr := fun ty => run_append_grow_src (P := P) w t tx ty e i z ht hi hz a l.length cap _ (by rw [hs1]; exact hcd) x p.length _ (by rw [hs1]; exact hsrc) (by omega) (by omega) (by rw [hb1]; exact growslice_fits (by omega) (by omega))
    have hge := grownCap_ge w (l.length + p.length) cap e
    have hcm : grownCap w (l.length + p.length) cap e ≤ maxLen := grownCap_le_maxLen w _ cap e (by unfold maxLen; omega)
    generalize grownCap w (l.length + p.length) cap e = nc at *
    generalize hC : (l ++ p).toArray ++ Builtin.zeroCells (z).cells (nc - (l.length + p.length)) = C at *
    have hsz : C.size = nc := by
      rw [← hC]
      have hz1 : (Builtin.zeroCells (z).cells (nc - (l.length + p.length))).size = nc - (l.length + p.length) := by rw [size_zeroCells, hzc]; omega
      rw [Array.size_append, hz1]
      simp
      omega
    have hcell : ∀ j, (w.drew.alloc (.cells C e)).cell? ⟨w.heap.size, j, none⟩ = C[j]? := fun j => World.cell?_alloc_mark w.drew C e (0, 0) j
    have hfz : ∀ j, (w.drew.alloc (.cells C e)).frozen? ⟨w.heap.size, j, none⟩ = false := fun j => by
      have := World.frozen?_alloc_mark w.drew C e 0 0 j
      have e2 : (w.drew.alloc (.cells C e)).frozen? ⟨w.heap.size, j, none⟩ = (w.drew.alloc (.cells C e (0, 0))).frozen? ⟨w.drew.heap.size, j, none⟩ := rfl
      rw [e2, this]
      simp
    have hlow : ∀ j (hj : j < (l ++ p).length), C[j]? = some ((l ++ p)[j]) := by
      intro j hj
      rw [← hC, Array.getElem?_append_left (by simpa using hj)]
      rw [List.getElem?_toArray, List.getElem?_eq_getElem hj]
    refine ⟨_, _, hr, ⟨⟨some ⟨w.heap.size, 0, none⟩, nc, by rw [List.length_append], by rw [List.length_append]; exact hge, ?_, ?_⟩, ?_⟩, ⟨rfl, rfl, rfl, by simp, fun k hk _ => Below.heap_alloc w.drew _ k hk⟩, Or.inr fun g hg => ?_⟩
    · intro h; cases h
    · intro ad had
      injection had with had
      subst had
      refine ⟨w.heap.size, 0, rfl, by simp, fun j hj => ?_⟩
      rw [Nat.zero_add, hcell, hlow j hj]
    · intro ad n c hv
      injection hv with e1 e2 e3
      injection e1 with e1
      subst e1 e3
      refine ⟨hB, hcm, fun j hj => ⟨?_, ?_⟩⟩
      · simp only [Nat.zero_add]
        rw [hcell]
        simp; omega
      · simp only [Nat.zero_add]
        exact hfz j
    · simp [Value.ownBlock] at hg
      omega
/-- append(v, x...) of slices; append(v, s...) of a string. -/
theorem run_append_vrow (w : World) (t e : TypeId) (i : TypeInfo) (ht : P.underlying t = some (.slice e)) (hi : P.info? e = some i) (z : Value) (hzc : z.cells.size = 1) (bs : Nat) (hz : i.zero = some z) (hs1 : i.size = 1) (hb1 : i.bytes = bs)
    {B : Nat} {v x : Value} {l p : List Value} (hv : VRow B w v l) (hx : VByt w x p) (hxo : ∀ u ∈ p, u.oneCell' = true) (hB : B ≤ w.heap.size) (hone : ∀ u ∈ l, u.oneCell' = true) (hlen : l.length + p.length ≤ 140737488355328) (hbl : (l.length + p.length) * bs ≤ 140737488355328) :
    ∃ v' w', (∀ ty, (Builtin.append_ #[t, t] ty #[v, x]).run P w = .ok v' w') ∧ VRow B w' v' (l ++ p) ∧ w.grownBy w' v.ownBlock ∧ (v'.ownBlock = v.ownBlock ∨ ∀ g, v'.ownBlock = some g → w.heap.size ≤ g) :=
  run_append_vsrc w t t e i ht hi z hzc bs hz hs1 hb1 hv (hx.src ht hxo) hB hone hlen hbl
end Go.Proofs.Ytjlhcgimijcghaa
