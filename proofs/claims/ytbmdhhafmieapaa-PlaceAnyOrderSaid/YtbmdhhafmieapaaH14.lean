/- Place: seats, sorted by their users. -/
import Derived.Test.YtbmdhhafmieapaaH13
import Derived.Test.YtbmdhhafmieapaaShelf
namespace Go.Proofs.Ytbmdhhafmieapaa
open Go Go.RowKit Go.Sort

section
variable {α : Type} (f : α → List Value) (s : Nat)
theorem flat_len : ∀ l : List α, (∀ x ∈ l, (f x).length = s) → (l.flatMap f).length = l.length * s
  | [], _ => by simp
  | x :: t, h => by
    rw [List.flatMap_cons, List.length_append, flat_len t (fun y hy => h y (List.mem_cons_of_mem _ hy)), h x (List.mem_cons_self ..), List.length_cons, Nat.succ_mul]; omega
theorem flat_take : ∀ (l : List α) (i : Nat), (∀ x ∈ l, (f x).length = s) → (l.flatMap f).take (i * s) = (l.take i).flatMap f
  | [], i, _ => by simp
  | x :: t, 0, _ => by simp
  | x :: t, i + 1, h => by
    have hx := h x (List.mem_cons_self ..)
    rw [List.take_succ_cons, List.flatMap_cons, List.flatMap_cons, Nat.succ_mul, List.take_append, List.take_of_length_le (by omega), show i * s + s - (f x).length = i * s by omega, flat_take t i (fun y hy => h y (List.mem_cons_of_mem _ hy))]
theorem flat_drop : ∀ (l : List α) (i : Nat), (∀ x ∈ l, (f x).length = s) → (l.flatMap f).drop (i * s) = (l.drop i).flatMap f
  | [], i, _ => by simp
  | x :: t, 0, _ => by simp
  | x :: t, i + 1, h => by
    have hx := h x (List.mem_cons_self ..)
    rw [List.drop_succ_cons, List.flatMap_cons, Nat.succ_mul, List.drop_append, List.drop_eq_nil_of_le (by omega), show i * s + s - (f x).length = i * s by omega, List.nil_append, flat_drop t i (fun y hy => h y (List.mem_cons_of_mem _ hy))]
theorem flat_at (l : List α) (i : Nat) (h : ∀ x ∈ l, (f x).length = s) (x : α) (hi : l[i]? = some x) (j : Nat) (v : Value) (hj : (f x)[j]? = some v) : (l.flatMap f)[i * s + j]? = some v := by
  rw [← List.getElem?_drop, flat_drop f s l i h]
  obtain ⟨hlt, rfl⟩ := List.getElem?_eq_some_iff.1 hi
  rw [List.drop_eq_getElem_cons hlt, List.flatMap_cons, List.getElem?_append_left (List.getElem?_eq_some_iff.1 hj).1]
  exact hj
end
theorem flat_pairs (l : List (Known)) : flatK cells3 3 l.toArray = (l.flatMap cells3).toArray := by
  have hl : (l.flatMap cells3).length = l.length * 3 := flat_len cells3 3 l (fun _ _ => rfl)
  refine ext_get! (by simp [hl]) fun t ht => ?_
  have ht : t < l.length * 3 := by simpa using ht
  have hq : t / 3 < l.length := by omega
  rw [get_flatK _ _ _ _ (by simpa using ht)]
  have h := flat_at cells3 3 l (t / 3) (fun _ _ => rfl) _ (List.getElem?_eq_getElem hq) (t % 3) ((cells3 l[t / 3])[t % 3]'(by show t % 3 < 3; omega)) (List.getElem?_eq_getElem _)
  rw [show t / 3 * 3 + t % 3 = t by omega] at h
  have h2 : (l.flatMap cells3).toArray[t]! = (cells3 l[t / 3])[t % 3]'(by show t % 3 < 3; omega) := by
    rw [getElem!_pos _ t (by simp [hl]; omega)]
    obtain ⟨_, e⟩ := List.getElem?_eq_some_iff.1 h
    simpa using e
  rw [h2, getElem!_pos l.toArray (t / 3) (by simpa using hq)]
  simp only [List.getElem_toArray]
  rw [getElem!_pos]
theorem owns_holds {B : Nat} {w : World} {g cap : Nat} {l : List (Known)} (h : Mine B w (.slice (some ⟨g, 0, none⟩) l.length cap) l) : HoldsK cells3 3 w g 0 l.toArray := by
  unfold HoldsK
  rw [flat_pairs]
  intro j hj
  have hl : (l.flatMap cells3).length = l.length * 3 := flat_len cells3 3 l (fun _ _ => rfl)
  have hj' : j < (l.flatMap cells3).length := by simpa using hj
  have hc := World.ownsRow.cells h (g := g) rfl j _ (List.getElem?_eq_getElem hj')
  rw [addr_plus] at hc
  refine ⟨?_, ?_⟩
  · rw [hc, getElem!_pos _ j hj]; simp
  · rcases h.2 with ⟨h0, _⟩ | ⟨g', cap', cur, hv, hb, hg, _⟩
    · cases h0
    · cases hv
      exact frozen_of_row _ _ _ _ _ hg
theorem heap_sortP {w : World} {g n : Nat} {os : Array Obj} {cur : Array Value} {e : TypeId} {fr : Nat × Nat} (F : Array Value) (hb : w.heap[g]? = some (.cells cur e fr)) :
    (grow (putRow id (Sort.ahead w n) g 0 F) os).heap[g]? = some (.cells (putCells id 0 F cur) e fr) := by
  have hg : g < w.heap.size := (Array.getElem?_eq_some_iff.1 hb).1
  rw [heap_grow_old _ _ (by simpa using hg)]
  simp [putRow, mapBlock, Sort.ahead, Array.getElem?_modify, hb, onCells]
theorem grownBy_sortP {w : World} {g n : Nat} {os : Array Obj} (F : Array Value) : w.grownBy (grow (putRow id (Sort.ahead w n) g 0 F) os) (some g) := by
  refine ⟨rfl, rfl, rfl, by simp, fun k hk hne => ?_⟩
  rw [heap_grow_old _ _ (by simpa using hk)]
  have : g ≠ k := fun e => hne (by rw [e])
  simp [putRow, mapBlock, Sort.ahead, Array.getElem?_modify, this]
theorem take_putCellsP (cur : Array Value) (ts : List Value) (h : ts.length ≤ cur.size) : (putCells id 0 ts.toArray cur).toList.take ts.length = ts := by
  apply List.ext_getElem?
  intro j
  by_cases hj : j < ts.length
  · rw [List.getElem?_take_of_lt hj, Array.getElem?_toList]
    simp [putCells, hj, show j < cur.size by omega]
  · rw [List.getElem?_take_eq_none (by omega), List.getElem?_eq_none (by omega)]

theorem cmp_less : ∀ a b : List UInt8, decide (Lib.compareBytes a b < 0) = Op.bytesLess a b
  | [], [] => rfl
  | [], _ :: _ => rfl
  | _ :: _, [] => rfl
  | a :: x, b :: y => by
    unfold Lib.compareBytes Op.bytesLess
    by_cases h1 : a < b
    · simp [h1]
    · by_cases h2 : b < a
      · have hne : ¬ a = b := fun e => by rw [e] at h2; exact absurd h2 (UInt8.lt_irrefl b)
        simp [h1, h2, hne]
      · have he : a = b := by
          have q1 : ¬ a.toNat < b.toNat := h1
          have q2 : ¬ b.toNat < a.toNat := h2
          exact UInt8.toNat_inj.1 (by omega)
        subst he
        simpa [h1] using cmp_less x y
theorem cmp_lt (x y : Known) : ltOf (fun x y : Known => Lib.compareBytes x.1 y.1) x y = Op.bytesLess x.1 y.1 := cmp_less x.1 y.1
theorem cmp_swo : SWO (ltOf fun x y : Known => Lib.compareBytes x.1 y.1) where
  irrefl x := by rw [cmp_lt]; exact less_irrefl _
  trans x y z h1 h2 := by rw [cmp_lt] at *; exact less_trans h1 h2
  ntrans x y z h1 h2 := by
    rw [cmp_lt] at *
    cases h : Op.bytesLess x.1 z.1 with
    | false => rfl
    | true =>
      by_cases e : x.1 = y.1
      · rw [e] at h; rw [h] at h2; cases h2
      · have := less_total h1 e
        rw [less_trans this h] at h2; cases h2
set_option maxHeartbeats 1000000 in
set_option maxRecDepth 100000 in
theorem less_any (x y : Known) (W : World) : Calls Try.prog 28 #[.agg (cells3 x).toArray, .agg (cells3 y).toArray] W fun e w' => e = .returned (.int .i64 (Lib.compareBytes x.1 y.1)) ∧ ∃ q os', w' = grow (W.drewN q) os' := by
  have hcon := fun W' => Try.strings_Compare ⟨x.1.toArray⟩ ⟨y.1.toArray⟩ W'
  simp only [cells3]
  generalize Lib.compareBytes x.1 y.1 = r at hcon ⊢
  have HC := Lib.hid hcon
  clear hcon
  go_enter Try.func28, Try.ntmps28
  go_wp2_with fail
  refine (HC.out _).mono ?_
  rintro e w' ⟨rfl, rfl⟩
  go_wp2
  go_ret
  exact ⟨rfl, 0, _, by rw [alloc_eq_grow, alloc_eq_grow, grow_grow]; rfl⟩
/-- What the sort tells. -/
def SortR (D g cap : Nat) (w : World) (l : List (Known)) (e : Ending) (w' : World) : Prop :=
  e = .returned (.tuple #[]) ∧ ∃ l', l'.Perm l ∧ l'.Pairwise (fun x y => Op.bytesLess y.1 x.1 = false) ∧ Mine D w' (.slice (some ⟨g, 0, none⟩) l.length cap) l' ∧ w.grownBy w' (some g)
theorem sort_any (D g cap : Nat) (w : World) (l : List (Known)) (h : Mine D w (.slice (some ⟨g, 0, none⟩) l.length cap) l) (hn : l.length ≤ 1000) :
    Calls Try.prog 32 #[.slice (some ⟨g, 0, none⟩) l.length cap, .func (.func 28) #[] #[]] w (SortR D g cap w l) := by
  have eg : ∀ args w, (callFunc 28 args).run Try.prog w = .ok (.enter 28 args) w := enters_of Try.func28 (by kernel_rfl) rfl
  have hH := owns_holds h
  have hgl := (World.ownsRow.lt h g rfl)
  have hcon := Try.slices_SortFunc 3 Try.isAgg35 Try.sizeOf35 cells3 (fun _ => rfl) (fun x v hv => by simp [cells3] at hv; rcases hv with rfl | rfl | rfl <;> rfl) (fun x y : Known => Lib.compareBytes x.1 y.1) cmp_swo 28 #[] g 0 cap l.toArray w eg (fun _ _ _ _ x y => less_any x y _) hH hgl.2 (by simp; omega)
  have hsz : l.toArray.size = l.length := by simp
  rw [hsz] at hcon
  refine hcon.mono ?_
  rintro e w' ⟨rfl, d', n, os, hp, hs, rfl⟩
  obtain ⟨p1, p2, p3⟩ := hp
  have hdl : d'.toList.length = l.length := by rw [Array.length_toList]; simpa using p1
  have hperm : d'.toList.Perm l := by
    have a1 : (d'.extract 0 l.length).toList = d'.toList := by
      rw [Array.toList_extract]
      simp [List.extract, ← hdl]
      exact List.take_of_length_le (by simp)
    have a2 : (l.toArray.extract 0 l.length).toList = l := by
      rw [Array.toList_extract]
      simp [List.extract]
    rw [a1, a2] at p3
    exact p3
  refine ⟨rfl, d'.toList, hperm, ?_, ?_, ?_⟩
  · rw [List.pairwise_iff_getElem]
    intro i j hi hj hij
    have h1 := hs i j (Nat.zero_le _) hij (by omega)
    rw [cmp_lt, getElem!_pos d' j (by simpa using hj), getElem!_pos d' i (by simpa using hi)] at h1
    simp only [Array.getElem_toList]
    exact h1
  · have hf : flatK cells3 3 d' = (d'.toList.flatMap cells3).toArray := by
      have := flat_pairs d'.toList
      simpa using this
    have hfl : (d'.toList.flatMap cells3).length = l.length * 3 := by rw [flat_len cells3 3 _ (fun _ _ => rfl), hdl]
    unfold sortWorldK putRowK
    rw [hf]
    unfold Mine
    rw [hdl]
    refine ⟨hfl, Or.inr ?_⟩
    rcases h.2 with ⟨h0, _⟩ | ⟨g', cap', cur, hv, hb, hg, hnc, hcm, hcs, _⟩
    · cases h0
    · cases hv
      have hle : l.length * 3 ≤ cap * 3 := Nat.mul_le_mul_right _ hnc
      refine ⟨g, cap, _, rfl, hb, heap_sortP _ hg, hnc, hcm, by simp [putCells, hcs], ?_⟩
      rw [← hfl]
      exact take_putCellsP cur _ (by omega)
  · exact grownBy_sortP _
/-- Rising lists of the same elements are the same. -/
theorem rising_eq : ∀ l m : List Known, Rising l → Rising m → l.Perm m → l = m
  | [], m, _, _, h => (List.nil_perm.1 h).symm
  | x :: l, [], _, _, h => absurd (List.nil_perm.1 h.symm) (by simp)
  | x :: l, y :: m, h1, h2, h => by
    obtain ⟨a1, a2⟩ := List.pairwise_cons.mp h1
    obtain ⟨b1, b2⟩ := List.pairwise_cons.mp h2
    have hx : x ∈ y :: m := h.mem_iff.1 (List.mem_cons_self ..)
    have hy : y ∈ x :: l := h.mem_iff.2 (List.mem_cons_self ..)
    have e : x = y := by
      rcases List.mem_cons.1 hx with e | hx
      · exact e
      · rcases List.mem_cons.1 hy with e | hy
        · exact e.symm
        · have := less_asymm (a1 y hy)
          rw [b1 x hx] at this; cases this
    subst e
    rw [rising_eq l m a2 b2 (List.Perm.cons_inv h)]
/-- What is sorted, and a rising list's elements, is that list. -/
theorem sorted_eq {l m : List Known} (hm : Rising m) (hp : l.Perm m) (hs : l.Pairwise (fun x y => Op.bytesLess y.1 x.1 = false)) : l = m := by
  refine rising_eq l m ?_ hm hp
  have hn : l.Pairwise (fun x y => x.1 ≠ y.1) := by
    have h2 : (m.map (·.1)).Nodup := by
      rw [List.Nodup, List.pairwise_map]
      exact hm.imp (fun h => less_ne h)
    have h3 := ((hp.map (·.1)).nodup_iff).2 h2
    rw [List.Nodup, List.pairwise_map] at h3
    exact h3
  exact (hs.and hn).imp fun {x y} h => less_total h.1 (fun e => h.2 e.symm)
end Go.Proofs.Ytbmdhhafmieapaa
