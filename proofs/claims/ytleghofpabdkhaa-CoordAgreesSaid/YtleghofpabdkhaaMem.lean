/- Slices of bytes over any program: what they read as, what is the call's own, cuts and appends. -/
import Derived.WalkKit
import Derived.WalkSpells
import Derived.WalkLawsBesides
import Derived.Laws.IdiomStrings
import Derived.Lib.Hide
import Derived.Lib.Strings
import Derived.Deep.AppendSrc
import Derived.ArgAppend
namespace Go.Proofs.Ytleghofpabdkhaa
open Go Go.RowKit
variable {P : Program}

theorem addr_plus (b o j : Nat) : (⟨b, o, none⟩ : Addr).add j = ⟨b, o + j, none⟩ := by unfold Addr.add; split <;> simp_all

/-- The slice v of bytes reads as l. -/
def Byt (w : World) (v : Value) (l : List UInt8) : Prop :=
  ∃ a cap, v = .slice a l.length cap ∧ l.length ≤ cap ∧ (a = none → cap = 0) ∧
    ∀ ad, a = some ad → ∃ g off, ad = ⟨g, off, none⟩ ∧ g < w.heap.size ∧ ∀ j (h : j < l.length), w.cell? ⟨g, off + j, none⟩ = some (.int .u8 (l[j].toNat : Int))
/-- It is the call's own, up to its capacity: from block B on. -/
def Row (B : Nat) (w : World) (v : Value) (l : List UInt8) : Prop :=
  Byt w v l ∧ ∀ ad n cap, v = .slice (some ad) n cap → B ≤ ad.block ∧ cap ≤ maxLen ∧ ∀ j, j < cap → (w.cell? ⟨ad.block, ad.off + j, none⟩).isSome = true ∧ w.frozen? ⟨ad.block, ad.off + j, none⟩ = false

theorem Byt.nil (w : World) : Byt w (.slice none 0 0) [] := ⟨none, 0, rfl, Nat.le_refl _, fun _ => rfl, fun ad h => by cases h⟩
theorem Row.nil (B : Nat) (w : World) : Row B w (.slice none 0 0) [] := ⟨Byt.nil w, fun ad n cap h => by cases h⟩
theorem Byt.shape {w : World} {v : Value} {l : List UInt8} (h : Byt w v l) : ∃ a cap, v = .slice a l.length cap ∧ l.length ≤ cap := by
  obtain ⟨a, cap, h1, h2, _⟩ := h
  exact ⟨a, cap, h1, h2⟩
/-- What is read stands while its block does. -/
theorem Byt.kept {w w' : World} {v : Value} {l : List UInt8} (h : Byt w v l) (hs : w.heap.size ≤ w'.heap.size) (hk : ∀ g, v.ownBlock = some g → w'.heap[g]? = w.heap[g]?) : Byt w' v l := by
  obtain ⟨a, cap, rfl, h2, h3, h4⟩ := h
  refine ⟨a, cap, rfl, h2, h3, fun ad had => ?_⟩
  obtain ⟨g, off, rfl, hg, hc⟩ := h4 ad had
  subst had
  exact ⟨g, off, rfl, by omega, fun j hj => (World.cell?_of_block (a := ⟨g, off + j, none⟩) (hk g rfl)).trans (hc j hj)⟩
theorem Byt.below {w w' : World} {v : Value} {l : List UInt8} (h : Byt w v l) (hb : Below w.heap.size w w') : Byt w' v l :=
  h.kept hb.size fun g hg => by
    obtain ⟨a, cap, rfl, _, _, h4⟩ := h
    cases a with
    | none => simp [Value.ownBlock] at hg
    | some ad =>
      obtain ⟨g', off, rfl, hg', _⟩ := h4 _ rfl
      simp [Value.ownBlock] at hg
      subst hg
      exact hb.block g' hg'
theorem Byt.lt {w : World} {v : Value} {l : List UInt8} (h : Byt w v l) : ∀ g, v.ownBlock = some g → g < w.heap.size := by
  intro g hg
  obtain ⟨a, cap, rfl, _, _, h4⟩ := h
  cases a with
  | none => simp [Value.ownBlock] at hg
  | some ad =>
    obtain ⟨g', off, rfl, hg', _⟩ := h4 _ rfl
    simp [Value.ownBlock] at hg
    subst hg
    exact hg'
theorem Row.kept {B : Nat} {w w' : World} {v : Value} {l : List UInt8} (h : Row B w v l) (hs : w.heap.size ≤ w'.heap.size) (hk : ∀ g, v.ownBlock = some g → w'.heap[g]? = w.heap[g]?) : Row B w' v l := by
  refine ⟨h.1.kept hs hk, fun ad n cap hv => ?_⟩
  obtain ⟨h1, h2, h3⟩ := h.2 ad n cap hv
  have hg : w'.heap[ad.block]? = w.heap[ad.block]? := hk ad.block (by rw [hv]; rfl)
  refine ⟨h1, h2, fun j hj => ?_⟩
  rw [World.cell?_of_block (a := ⟨ad.block, ad.off + j, none⟩) hg, World.frozen?_of_block (a := ⟨ad.block, ad.off + j, none⟩) hg]
  exact h3 j hj
theorem Row.below {B : Nat} {w w' : World} {v : Value} {l : List UInt8} (h : Row B w v l) (hb : Below w.heap.size w w') : Row B w' v l :=
  h.kept hb.size fun g hg => hb.block g (h.1.lt g hg)

/-- What a slice's index reads. -/
theorem Byt.cell {w : World} {v : Value} {l : List UInt8} (h : Byt w v l) (h0 : 0 < l.length) : ∃ g off cap, v = .slice (some ⟨g, off, none⟩) l.length cap ∧ l.length ≤ cap ∧ g < w.heap.size ∧ ∀ j (hj : j < l.length), w.cell? ⟨g, off + j, none⟩ = some (.int .u8 (l[j].toNat : Int)) := by
  obtain ⟨a, cap, rfl, h2, h3, h4⟩ := h
  cases a with
  | none => have := h3 rfl; omega
  | some ad =>
    obtain ⟨g, off, rfl, hg, hc⟩ := h4 _ rfl
    exact ⟨g, off, cap, rfl, h2, hg, hc⟩

section
variable (w : World) (t e : TypeId) (ht : P.underlying t = some (.slice e)) (he : P.underlying e = some (.int .u8)) (hsz : ∀ w, (sizeOf e).run P w = .ok 1 w)

/-- The value of a cut. -/
def cutA (a : Option Addr) (l m : Nat) : Option Addr := if m = l then a else a.map (·.add l)
theorem Byt.cut {w : World} {a : Option Addr} {cap : Nat} {l : List UInt8} {n : Nat} (h : Byt w (.slice a n cap) l) (lo hi m : Nat) (h1 : lo ≤ hi) (h2 : hi ≤ n) (h3 : hi ≤ m) (h4 : m ≤ cap) :
    Byt w (.slice (cutA a lo m) (hi - lo) (m - lo)) ((l.drop lo).take (hi - lo)) := by
  obtain ⟨a', cap', hv, g2, g3, g4⟩ := h
  injection hv with e1 e2 e3
  subst e1 e2 e3
  have hlen : ((l.drop lo).take (hi - lo)).length = hi - lo := by rw [List.length_take, List.length_drop]; omega
  refine ⟨cutA a lo m, m - lo, by rw [hlen], by omega, fun hn => ?_, fun ad had => ?_⟩
  · unfold cutA at hn
    split at hn
    · omega
    · cases a with
      | none => have := g3 rfl; omega
      | some ad => simp at hn
  · unfold cutA at had
    cases a with
    | none => split at had <;> simp at had
    | some a0 =>
      obtain ⟨g, off, rfl, hg, hc⟩ := g4 _ rfl
      have hcell : ∀ j (hj : j < ((l.drop lo).take (hi - lo)).length), w.cell? ⟨g, off + lo + j, none⟩ = some (.int .u8 ((((l.drop lo).take (hi - lo))[j]).toNat : Int)) := by
        intro j hj
        have := hc (lo + j) (by omega)
        rw [List.getElem_take, List.getElem_drop, Nat.add_assoc]
        exact this
      split at had
      · rename_i hm
        injection had with had
        subst had
        refine ⟨g, off, rfl, hg, fun j hj => ?_⟩
        omega
      · simp only [Option.map_some, Option.some.injEq] at had
        subst had
        exact ⟨g, off + lo, addr_plus g off lo, hg, hcell⟩
theorem cut_block (a : Option Addr) (lo m : Nat) (n cap n' cap' : Nat) : (Value.slice (cutA a lo m) n cap).ownBlock = (Value.slice a n' cap').ownBlock := by
  unfold cutA
  cases a with
  | none => split <;> rfl
  | some ad =>
    split
    · rfl
    · simp only [Option.map_some, Value.ownBlock]
      unfold Addr.add
      split <;> rfl
theorem Row.cut {B : Nat} {w : World} {a : Option Addr} {cap : Nat} {l : List UInt8} {n : Nat} (h : Row B w (.slice a n cap) l) (lo hi m : Nat) (h1 : lo ≤ hi) (h2 : hi ≤ n) (h3 : hi ≤ m) (h4 : m ≤ cap) :
    Row B w (.slice (cutA a lo m) (hi - lo) (m - lo)) ((l.drop lo).take (hi - lo)) := by
  refine ⟨h.1.cut lo hi m h1 h2 h3 h4, fun ad n' cap' hv => ?_⟩
  injection hv with e1 e2 e3
  subst e2 e3
  cases a with
  | none => unfold cutA at e1; split at e1 <;> simp at e1
  | some a0 =>
    obtain ⟨q1, q2, q3⟩ := h.2 a0 n cap rfl
    obtain ⟨_, _, hv, _, _, g4⟩ := h.1
    injection hv with z1 z2 z3
    obtain ⟨g, off, rfl, hg, hc⟩ := g4 a0 (by rw [← z1])
    unfold cutA at e1
    split at e1
    · rename_i hm
      injection e1 with e1
      subst e1
      exact ⟨q1, by omega, fun j hj => by omega⟩
    · simp only [Option.map_some, Option.some.injEq] at e1
      subst e1
      rw [addr_plus]
      refine ⟨q1, by omega, fun j hj => ?_⟩
      have := q3 (lo + j) (by omega)
      simp only at this ⊢
      rw [Nat.add_assoc]
      exact this

include ht hsz in
theorem run_cut_from (a : Option Addr) (n cap k : Nat) (hk : k ≤ n) :
    (Instr.slice t (.slice a n cap) (some (.int .i64 (k : Int))) none none).run P w = .ok (.slice (cutA a k cap) (n - k) (cap - k)) w := by
  have ht' : P.underlying t = some (.slice (P.elem t)) := by simp [Program.elem, ht]
  have he : P.elem t = e := by simp [Program.elem, ht]
  rw [run_slice_l w t a n cap ht' .i64 k (by omega) (by omega), he, hsz]
  simp [Result.andThen, sliced, cutA]
include ht hsz in
theorem run_cut_to (a : Option Addr) (n cap h : Nat) (hh : h ≤ cap) :
    (Instr.slice t (.slice a n cap) none (some (.int .i64 (h : Int))) none).run P w = .ok (.slice (cutA a 0 cap) h cap) w := by
  have ht' : P.underlying t = some (.slice (P.elem t)) := by simp [Program.elem, ht]
  have he : P.elem t = e := by simp [Program.elem, ht]
  rw [run_slice_h w t a n cap ht' .i64 h (by omega) (by omega), he, hsz]
  simp [Result.andThen, sliced, cutA]
include ht hsz in
theorem run_cut_both (a : Option Addr) (n cap l h : Nat) (hl : l ≤ h) (hh : h ≤ cap) :
    (Instr.slice t (.slice a n cap) (some (.int .i64 (l : Int))) (some (.int .i64 (h : Int))) none).run P w = .ok (.slice (cutA a l cap) (h - l) (cap - l)) w := by
  have ht' : P.underlying t = some (.slice (P.elem t)) := by simp [Program.elem, ht]
  have he : P.elem t = e := by simp [Program.elem, ht]
  rw [run_slice_lh w t a n cap ht' .i64 .i64 l h (by omega) (by omega) (by omega), he, hsz]
  simp [Result.andThen, sliced, cutA]
include ht hsz in
theorem run_cut_max (a : Option Addr) (n cap l h m : Nat) (hl : l ≤ h) (hh : h ≤ m) (hm : m ≤ cap) :
    (Instr.slice t (.slice a n cap) (some (.int .i64 (l : Int))) (some (.int .i64 (h : Int))) (some (.int .i64 (m : Int)))).run P w = .ok (.slice (cutA a l m) (h - l) (m - l)) w := by
  have ht' : P.underlying t = some (.slice (P.elem t)) := by simp [Program.elem, ht]
  have he : P.elem t = e := by simp [Program.elem, ht]
  rw [run_slice_lhm w t a n cap ht' .i64 .i64 .i64 l h m (by omega) (by omega) (by omega) (by omega), he, hsz]
  simp [Result.andThen, sliced, cutA]
include ht hsz in
theorem run_cut_to_max (a : Option Addr) (n cap h m : Nat) (hh : h ≤ m) (hm : m ≤ cap) :
    (Instr.slice t (.slice a n cap) none (some (.int .i64 (h : Int))) (some (.int .i64 (m : Int)))).run P w = .ok (.slice (cutA a 0 m) h m) w := by
  have ht' : P.underlying t = some (.slice (P.elem t)) := by simp [Program.elem, ht]
  have he : P.elem t = e := by simp [Program.elem, ht]
  rw [run_slice_hm w t a n cap ht' .i64 .i64 h m (by omega) (by omega) (by omega), he, hsz]
  simp [Result.andThen, sliced, cutA]
end

/-- The bytes of a slice, as an append's source. -/
theorem Byt.src {w : World} {v : Value} {l : List UInt8} (h : Byt w v l) {t e' : TypeId} (hk : P.underlying t = some (.slice e')) : Go.Src P 1 t v l.length (l.map fun b => Value.int .u8 (b.toNat : Int)) w := by
  obtain ⟨a, cap, rfl, h2, h3, h4⟩ := h
  cases a with
  | none =>
    have h0 := h3 rfl
    have : l = [] := List.eq_nil_of_length_eq_zero (by omega)
    subst this
    subst h0
    exact Go.Src.ofNil w hk 0
  | some ad =>
    obtain ⟨g, off, rfl, hg, hc⟩ := h4 _ rfl
    refine Go.Src.ofSlice w hk ⟨g, off, none⟩ l.length cap _ (by simp) (fun j u hj => ?_) (fun u hu => ?_)
    · have hjl : j < l.length := by have := (List.getElem?_eq_some_iff.1 hj).1; simpa using this
      rw [addr_plus, hc j hjl]
      simp only [List.getElem?_map, List.getElem?_eq_getElem hjl, Option.map_some, Option.some.injEq] at hj
      rw [hj]
    · obtain ⟨_, _, rfl⟩ := List.mem_map.1 hu
      rfl

theorem setCells_all (g : Nat) : ∀ (vs : List Value) (o : Nat) (w : World), (w.setCells g o vs).os = w.os ∧ (w.setCells g o vs).tape = w.tape ∧ (w.setCells g o vs).output = w.output ∧ (w.setCells g o vs).heap.size = w.heap.size ∧ ∀ k, k ≠ g → (w.setCells g o vs).heap[k]? = w.heap[k]?
  | [], _, _ => ⟨rfl, rfl, rfl, rfl, fun _ _ => rfl⟩
  | v :: r, o, w => by
    obtain ⟨h1, h2, h3, h4, h5⟩ := setCells_all g r (o + 1) (w.setCell ⟨g, o, none⟩ v)
    refine ⟨h1, h2, h3, h4.trans (by simp [World.setCell]), fun k hk => (h5 k hk).trans (Below.heap_setCell _ _ _ _ hk)⟩
theorem cell_block {w : World} {a : Addr} {v : Value} (h : w.cell? a = some v) : a.block < w.heap.size := World.block_lt_of_cell? w a h

/-- append(v, x...) onto what the call owns. -/
theorem run_append_src (w : World) (t tx e : TypeId) (i : TypeInfo) (ht : P.underlying t = some (.slice e)) (hi : P.info? e = some i) (hz : i.zero = some (.int .u8 0)) (hs1 : i.size = 1) (hb1 : i.bytes = 1)
    {B : Nat} {v x : Value} {l p : List UInt8} (hv : Row B w v l) (hsrc : Go.Src P 1 tx x p.length (p.map fun b => Value.int .u8 (b.toNat : Int)) w) (hB : B ≤ w.heap.size) (hlen : l.length + p.length ≤ 140737488355328) :
    ∃ v' w', (∀ ty, (Builtin.append_ #[t, tx] ty #[v, x]).run P w = .ok v' w') ∧ Row B w' v' (l ++ p) ∧ w.grownBy w' v.ownBlock ∧ (v'.ownBlock = v.ownBlock ∨ ∀ g, v'.ownBlock = some g → w.heap.size ≤ g) := by
  have hold := hv.1.src (P := P) ht
  have hrow := hv.2
  obtain ⟨a, cap, rfl, h2, h3, h4⟩ := hv.1
  by_cases hroom : l.length + p.length ≤ cap
  · cases a with
    | none =>
      have h0 := h3 rfl
      have hl0 : l = [] := List.eq_nil_of_length_eq_zero (by omega)
      have hp0 : p = [] := List.eq_nil_of_length_eq_zero (by omega)
      subst hl0 hp0 h0
      refine ⟨.slice none 0 0, w, fun ty => ?_, Row.nil B w, ⟨rfl, rfl, rfl, Nat.le_refl _, fun _ _ _ => rfl⟩, Or.inl rfl⟩
      have hc := hsrc.cells
      have hln := hsrc.len
      simp only [List.length_nil, List.map_nil] at hc hln
      rcases hsrc.kind with ⟨e', hk⟩ | hk
      · simp [Builtin.append_, run_underlying ht, run_underlying hk, sizeOf, typeInfo, hi, hs1, hln, hc]
      · simp [Builtin.append_, run_underlying ht, run_underlying hk, sizeOf, typeInfo, hi, hs1, hln, hc]
    | some ad =>
      obtain ⟨g, off, rfl, hg, hc⟩ := h4 _ rfl
      obtain ⟨q1, q2, q3⟩ := hrow _ _ _ rfl
      simp only at q1 q3
      have hr := fun ty => run_append_room_src (P := P) w t tx ty e i ht hi g off l.length cap x p.length _ (by rw [hs1]; exact hsrc) hroom
        (fun j hj => by rw [hs1, Nat.mul_one, Nat.add_assoc]; exact (q3 (l.length + j) (by simp at hj; omega)).1)
        (fun j hj => by rw [hs1, Nat.mul_one, Nat.add_assoc]; exact (q3 (l.length + j) (by simp at hj; omega)).2)
      simp only [hs1, Nat.mul_one] at hr
      obtain ⟨s1, s2, s3, s4, s5⟩ := setCells_all g (p.map fun b => Value.int .u8 (b.toNat : Int)) (off + l.length) w
      have hin := World.cell?_setCells_in g (p.map fun b => Value.int .u8 (b.toNat : Int)) (off + l.length) w (fun j hj => by
        rw [Nat.add_assoc]; exact (q3 (l.length + j) (by simp at hj; omega)).1)
      have hout := fun x hx => World.cell?_setCells_out g (p.map fun b => Value.int .u8 (b.toNat : Int)) (off + l.length) w x hx
      have hfr := fun x => World.frozen?_setCells g (p.map fun b => Value.int .u8 (b.toNat : Int)) (off + l.length) w x
      have hlow : ∀ j (hj : j < (l ++ p).length), (w.setCells g (off + l.length) (p.map fun b => Value.int .u8 (b.toNat : Int))).cell? ⟨g, off + j, none⟩ = some (.int .u8 ((l ++ p)[j].toNat : Int)) := by
        intro j hj
        rw [List.length_append] at hj
        by_cases hjl : j < l.length
        · rw [hout _ (fun _ _ => Or.inl (by simp only; omega)), hc j hjl, List.getElem_append_left hjl]
        · have := hin (j - l.length) (by simp; omega)
          rw [Nat.add_assoc, show l.length + (j - l.length) = j by omega] at this
          rw [this, List.getElem_append_right (by omega)]
          simp
      refine ⟨_, _, hr, ⟨⟨some ⟨g, off, none⟩, cap, by rw [List.length_append], by rw [List.length_append]; exact hroom, ?_, ?_⟩, ?_⟩, ⟨s1, s2, s3, by rw [s4]; exact Nat.le_refl _, fun k hk hne => s5 k (fun e1 => hne (by rw [e1]; rfl))⟩, Or.inl rfl⟩
      · intro h; cases h
      · intro ad had
        injection had with had
        subst had
        exact ⟨g, off, rfl, by rw [s4]; exact hg, hlow⟩
      · intro ad n c hv
        injection hv with e1 e2 e3
        injection e1 with e1
        subst e1 e3
        refine ⟨q1, q2, fun j hj => ⟨?_, ?_⟩⟩
        · simp only
          by_cases hj2 : j < (l ++ p).length
          · rw [hlow j hj2]; rfl
          · rw [List.length_append] at hj2
            rw [hout _ (fun _ _ => Or.inr (by simp only [List.length_map]; omega))]
            exact (q3 j hj).1
        · rw [hfr]; exact (q3 j hj).2
  · have hcd := hold.cellsD
    have hr := fun ty => run_append_grow_src (P := P) w t tx ty e i (.int .u8 0) ht hi hz a l.length cap _ (by rw [hs1]; exact hcd) x p.length _ (by rw [hs1]; exact hsrc) (by omega) (by omega) (by rw [hb1]; exact growslice_fits (by omega) (by omega))
    have hge := grownCap_ge w (l.length + p.length) cap e
    have hcm : grownCap w (l.length + p.length) cap e ≤ maxLen := grownCap_le_maxLen w _ cap e (by unfold maxLen; omega)
    generalize grownCap w (l.length + p.length) cap e = nc at *
    generalize hC : ((l.map fun b => Value.int .u8 (b.toNat : Int)) ++ (p.map fun b => Value.int .u8 (b.toNat : Int))).toArray ++ Builtin.zeroCells (Value.int .u8 0).cells (nc - (l.length + p.length)) = C at *
    have hsz : C.size = nc := by
      rw [← hC]
      have hz1 : (Builtin.zeroCells (Value.int .u8 0).cells (nc - (l.length + p.length))).size = nc - (l.length + p.length) := by rw [size_zeroCells]; show _ * 1 = _; omega
      rw [Array.size_append, hz1]
      simp
      omega
    have hcell : ∀ j, (w.drew.alloc (.cells C e)).cell? ⟨w.heap.size, j, none⟩ = C[j]? := fun j => World.cell?_alloc_mark w.drew C e (0, 0) j
    have hfz : ∀ j, (w.drew.alloc (.cells C e)).frozen? ⟨w.heap.size, j, none⟩ = false := fun j => by
      have := World.frozen?_alloc_mark w.drew C e 0 0 j
      have e2 : (w.drew.alloc (.cells C e)).frozen? ⟨w.heap.size, j, none⟩ = (w.drew.alloc (.cells C e (0, 0))).frozen? ⟨w.drew.heap.size, j, none⟩ := rfl
      rw [e2, this]
      simp
    have hlow : ∀ j (hj : j < (l ++ p).length), C[j]? = some (.int .u8 ((l ++ p)[j].toNat : Int)) := by
      intro j hj
      rw [← hC, Array.getElem?_append_left (by simpa using hj)]
      rw [List.getElem?_toArray, ← List.map_append, List.getElem?_map, List.getElem?_eq_getElem hj]
      rfl
    refine ⟨_, _, hr, ⟨⟨some ⟨w.heap.size, 0, none⟩, nc, by rw [List.length_append], by rw [List.length_append]; exact hge, ?_, ?_⟩, ?_⟩, ⟨rfl, rfl, rfl, by simp, fun k hk _ => Below.heap_alloc w.drew _ k hk⟩, Or.inr fun g hg => ?_⟩
    · intro h; cases h
    · intro ad had
      injection had with had
      subst had
      refine ⟨w.heap.size, 0, rfl, by simp, fun j hj => ?_⟩
      rw [Nat.zero_add, hcell, hlow j hj]
    · intro ad n c hv
      injection hv with e1 e2 e3
      injection e1 with e1
      subst e1 e3
      refine ⟨hB, hcm, fun j hj => ⟨?_, ?_⟩⟩
      · simp only [Nat.zero_add]
        rw [hcell]
        simp; omega
      · simp only [Nat.zero_add]
        exact hfz j
    · simp [Value.ownBlock] at hg
      omega
/-- append(v, x...) of slices; append(v, s...) of a string. -/
theorem run_append_row (w : World) (t e : TypeId) (i : TypeInfo) (ht : P.underlying t = some (.slice e)) (hi : P.info? e = some i) (hz : i.zero = some (.int .u8 0)) (hs1 : i.size = 1) (hb1 : i.bytes = 1)
    {B : Nat} {v x : Value} {l p : List UInt8} (hv : Row B w v l) (hx : Byt w x p) (hB : B ≤ w.heap.size) (hlen : l.length + p.length ≤ 140737488355328) :
    ∃ v' w', (∀ ty, (Builtin.append_ #[t, t] ty #[v, x]).run P w = .ok v' w') ∧ Row B w' v' (l ++ p) ∧ w.grownBy w' v.ownBlock ∧ (v'.ownBlock = v.ownBlock ∨ ∀ g, v'.ownBlock = some g → w.heap.size ≤ g) :=
  run_append_src w t t e i ht hi hz hs1 hb1 hv (hx.src ht) hB hlen
theorem run_append_string (w : World) (t tx e : TypeId) (i : TypeInfo) (ht : P.underlying t = some (.slice e)) (hk : P.underlying tx = some .string) (hi : P.info? e = some i) (hz : i.zero = some (.int .u8 0)) (hs1 : i.size = 1) (hb1 : i.bytes = 1)
    {B : Nat} {v : Value} {l : List UInt8} (s : ByteArray) (hv : Row B w v l) (hB : B ≤ w.heap.size) (hlen : l.length + s.size ≤ 140737488355328) :
    ∃ v' w', (∀ ty, (Builtin.append_ #[t, tx] ty #[v, .string s]).run P w = .ok v' w') ∧ Row B w' v' (l ++ s.data.toList) ∧ w.grownBy w' v.ownBlock ∧ (v'.ownBlock = v.ownBlock ∨ ∀ g, v'.ownBlock = some g → w.heap.size ≤ g) := by
  have h := Go.Src.ofString (P := P) w hk s
  rw [Lib.size_eq] at h hlen
  exact run_append_src w t tx e i ht hi hz hs1 hb1 hv h hB hlen

theorem wp_append_run (w : World) {Q : Exit → Act → World → Prop} {o : Oper} {a : Act} {K : Act → World → Prop} (s x : Operand) (T U : TypeId)
    (ho : o.op = .call { callee := .builtin .append, args := #[s, x], argTypes := #[T, U] }) (v xv : Value) (hs : a.eval s = v) (hx : a.eval x = xv) (v' : Value) (w' : World)
    (hr : ∀ ty, (Builtin.append_ #[T, U] ty #[v, xv]).run P w = .ok v' w') (h : K (a.put o.dst v') w') : o.wp P a w K Q := by
  unfold Oper.wp execOp
  simp only [ho, resolve, invoke, builtin, Sem.run_bind, Sem.run_pure, Result.andThen_ok, List.map_toArray, List.map_cons, List.map_nil, hs, hx, hr]
  exact h
/-- An append whose run is known, in the walk. -/
theorem wpList_append_run (w : World) {ops : Array Oper} {rest : List Oper} {o : Oper} {a : Act} {Q : Exit → Act → World → Prop} (hgd : o.guard = none) (s x : Operand) (T U : TypeId)
    (ho : o.op = .call { callee := .builtin .append, args := #[s, x], argTypes := #[T, U] }) (v xv : Value) (hs : a.eval s = v) (hx : a.eval x = xv) (v' : Value) (w' : World)
    (hr : ∀ ty, (Builtin.append_ #[T, U] ty #[v, xv]).run P w = .ok v' w') (h : wpList P ops Q rest (a.put o.dst v') w') : wpList P ops Q (o :: rest) a w :=
  wpList_plain hgd fun _ hK => wp_append_run w s x T U ho v xv hs hx v' w' hr (hK _ _ h)

/-- A new block of bytes. -/
theorem Row.made (w : World) (e : TypeId) (l : List UInt8) (cs : Array Value) (hc : cs.toList = l.map fun b => Value.int .u8 (b.toNat : Int)) {B : Nat} (hB : B ≤ w.heap.size) (hm : l.length ≤ maxLen) : Row B (w.alloc (.cells cs e)) (.slice (some ⟨w.heap.size, 0, none⟩) l.length l.length) l := by
  have hcell : ∀ j, (w.alloc (.cells cs e)).cell? ⟨w.heap.size, j, none⟩ = cs[j]? := fun j => World.cell?_alloc_mark w cs e (0, 0) j
  have hat : ∀ j (hj : j < l.length), cs[j]? = some (.int .u8 (l[j].toNat : Int)) := by
    intro j hj
    rw [← Array.getElem?_toList, hc, List.getElem?_map, List.getElem?_eq_getElem hj]
    rfl
  refine ⟨⟨some ⟨w.heap.size, 0, none⟩, l.length, rfl, Nat.le_refl _, ?_, ?_⟩, ?_⟩
  · intro h; cases h
  · intro ad had
    injection had with had
    subst had
    refine ⟨w.heap.size, 0, rfl, by simp, fun j hj => ?_⟩
    rw [Nat.zero_add, hcell, hat j hj]
  · intro ad n c hv
    injection hv with e1 e2 e3
    injection e1 with e1
    subst e1 e3
    refine ⟨hB, hm, fun j hj => ⟨?_, ?_⟩⟩
    · simp only [Nat.zero_add]
      rw [hcell, hat j hj]; rfl
    · simp only [Nat.zero_add]
      have e2 : (w.alloc (.cells cs e)).frozen? ⟨w.heap.size, j, none⟩ = (w.alloc (.cells cs e (0, 0))).frozen? ⟨w.heap.size, j, none⟩ := rfl
      rw [e2, World.frozen?_alloc_mark]
      simp
/-- string(v). -/
theorem run_byt_string (w : World) (src dst e : TypeId) (hs : P.underlying src = some (.slice e)) (he : P.underlying e = some (.int .u8)) (hd : P.underlying dst = some .string) {v : Value} {l : List UInt8} (h : Byt w v l) :
    (convert src dst v).run P w = .ok (.string ⟨l.toArray⟩) w := by
  obtain ⟨a, cap, rfl, h2, h3, h4⟩ := h
  cases a with
  | none =>
    have h0 := h3 rfl
    have : l = [] := List.eq_nil_of_length_eq_zero (by omega)
    subst this
    show (convert src dst (.slice none 0 cap)).run P w = _
    rw [run_convert_bytes_string w src dst e none 0 cap hs he hd]
    rfl
  | some ad =>
    obtain ⟨g, off, rfl, hg, hc⟩ := h4 _ rfl
    refine run_convert_bytes_back (P := P) w src dst e ⟨g, off, none⟩ cap l hs he hd ?_
    intro j hj
    rw [addr_plus, hc j hj]
end Go.Proofs.Ytleghofpabdkhaa
