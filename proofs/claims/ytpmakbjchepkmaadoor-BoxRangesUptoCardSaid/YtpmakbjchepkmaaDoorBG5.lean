/- Box: the ranges, sorted. -/
import Derived.Test.YtpmakbjchepkmaaDoorBG4
import Derived.Test.YtpmakbjchepkmaaDoorShelf
namespace Go.Proofs.YtpmakbjchepkmaaDoor
open Go Go.RowKit Go.Sort

theorem flat_pairs (l : List (Int × Int)) : flatK cells2 2 l.toArray = (l.flatMap cells2).toArray := by
  have hl : (l.flatMap cells2).length = l.length * 2 := flat_len cells2 2 l (fun _ _ => rfl)
  refine ext_get! (by simp [hl]) fun t ht => ?_
  have ht : t < l.length * 2 := by simpa using ht
  have hq : t / 2 < l.length := by omega
  rw [get_flatK _ _ _ _ (by simpa using ht)]
  have h := flat_at cells2 2 l (t / 2) (fun _ _ => rfl) _ (List.getElem?_eq_getElem hq) (t % 2) ((cells2 l[t / 2])[t % 2]'(by show t % 2 < 2; omega)) (List.getElem?_eq_getElem _)
  rw [show t / 2 * 2 + t % 2 = t by omega] at h
  have h2 : (l.flatMap cells2).toArray[t]! = (cells2 l[t / 2])[t % 2]'(by show t % 2 < 2; omega) := by
    rw [getElem!_pos _ t (by simp [hl]; omega)]
    obtain ⟨_, e⟩ := List.getElem?_eq_some_iff.1 h
    simpa using e
  rw [h2, getElem!_pos l.toArray (t / 2) (by simpa using hq)]
  simp only [List.getElem_toArray]
  rw [getElem!_pos]
theorem owns_holds {B : Nat} {w : World} {g cap : Nat} {l : List (Int × Int)} (h : OwnsP B w (.slice (some ⟨g, 0, none⟩) l.length cap) l) : HoldsK cells2 2 w g 0 l.toArray := by
  unfold HoldsK
  rw [flat_pairs]
  intro j hj
  have hl : (l.flatMap cells2).length = l.length * 2 := flat_len cells2 2 l (fun _ _ => rfl)
  have hj' : j < (l.flatMap cells2).length := by simpa using hj
  have hc := World.ownsRow.cells h (g := g) rfl j _ (List.getElem?_eq_getElem hj')
  rw [addr_plus] at hc
  refine ⟨?_, ?_⟩
  · rw [hc, getElem!_pos _ j hj]; simp
  · rcases h.2 with ⟨h0, _⟩ | ⟨g', cap', cur, hv, hb, hg, _⟩
    · cases h0
    · cases hv
      exact frozen_of_row _ _ _ _ _ hg
theorem heap_sortP {w : World} {g n : Nat} {os : Array Obj} {cur : Array Value} {e : TypeId} {fr : Nat × Nat} (F : Array Value) (hb : w.heap[g]? = some (.cells cur e fr)) :
    (grow (putRow id (Sort.ahead w n) g 0 F) os).heap[g]? = some (.cells (putCells id 0 F cur) e fr) := by
  have hg : g < w.heap.size := (Array.getElem?_eq_some_iff.1 hb).1
  rw [heap_grow_old _ _ (by simpa using hg)]
  simp [putRow, mapBlock, Sort.ahead, Array.getElem?_modify, hb, onCells]
theorem grownBy_sortP {w : World} {g n : Nat} {os : Array Obj} (F : Array Value) : w.grownBy (grow (putRow id (Sort.ahead w n) g 0 F) os) (some g) := by
  refine ⟨rfl, rfl, rfl, by simp, fun k hk hne => ?_⟩
  rw [heap_grow_old _ _ (by simpa using hk)]
  have : g ≠ k := fun e => hne (by rw [e])
  simp [putRow, mapBlock, Sort.ahead, Array.getElem?_modify, this]
theorem take_putCellsP (cur : Array Value) (ts : List Value) (h : ts.length ≤ cur.size) : (putCells id 0 ts.toArray cur).toList.take ts.length = ts := by
  apply List.ext_getElem?
  intro j
  by_cases hj : j < ts.length
  · rw [List.getElem?_take_of_lt hj, Array.getElem?_toList]
    simp [putCells, hj, show j < cur.size by omega]
  · rw [List.getElem?_take_eq_none (by omega), List.getElem?_eq_none (by omega)]

theorem cmp_lt (x y : Int × Int) : ltOf (fun x y : Int × Int => Lib.compareInt x.1 y.1) x y = decide (x.1 < y.1) := by
  unfold ltOf Lib.compareInt
  by_cases h1 : x.1 < y.1
  · simp [h1]
  · by_cases h2 : y.1 < x.1 <;> simp [h1, h2]
theorem cmp_swo : SWO (ltOf fun x y : Int × Int => Lib.compareInt x.1 y.1) where
  irrefl x := by rw [cmp_lt]; simp
  trans x y z h1 h2 := by rw [cmp_lt] at *; simp at *; omega
  ntrans x y z h1 h2 := by rw [cmp_lt] at *; simp at *; omega
set_option maxHeartbeats 1000000 in
set_option maxRecDepth 100000 in
theorem less_any (x y : Int × Int) (W : World) : Calls Tryd.prog 23 #[.agg #[.int .i64 x.1, .int .i64 x.2], .agg #[.int .i64 y.1, .int .i64 y.2]] W fun e w' => e = .returned (.int .i64 (Lib.compareInt x.1 y.1)) ∧ ∃ q os', w' = grow (W.drewN q) os' := by
  have hcon := fun W' => Tryd.cmp_Compare_int x.1 y.1 W'
  generalize Lib.compareInt x.1 y.1 = r at hcon ⊢
  have HC := Lib.hid hcon
  clear hcon
  go_enter Tryd.func23, Tryd.ntmps23
  go_wp2_with fail
  refine (HC.out _).mono ?_
  rintro e w' ⟨rfl, rfl⟩
  go_wp2
  go_ret
  exact ⟨rfl, 0, _, by rw [alloc_eq_grow, alloc_eq_grow, grow_grow]; rfl⟩
/-- What the sort tells. -/
def SortR (D g cap : Nat) (w : World) (l : List (Int × Int)) (e : Ending) (w' : World) : Prop :=
  e = .returned (.tuple #[]) ∧ ∃ l', l'.Perm l ∧ l'.Pairwise (fun x y => x.1 ≤ y.1) ∧ OwnsP (D + 1) w' (.slice (some ⟨g, 0, none⟩) l.length cap) l' ∧ w.grownBy w' (some g)
theorem sort_any (D g cap : Nat) (w : World) (l : List (Int × Int)) (h : OwnsP (D + 1) w (.slice (some ⟨g, 0, none⟩) l.length cap) l) (hn : l.length ≤ 1000) :
    Calls Tryd.prog 22 #[.slice (some ⟨g, 0, none⟩) l.length cap, .func (.func 23) #[] #[]] w (SortR D g cap w l) := by
  have eg : ∀ args w, (callFunc 23 args).run Tryd.prog w = .ok (.enter 23 args) w := enters_of Tryd.func23 (by kernel_rfl) rfl
  have hH := owns_holds h
  have hgl := (World.ownsRow.lt h g rfl)
  have hcon := Tryd.slices_SortFunc 2 Tryd.isAgg30 Tryd.sizeOf30 cells2 (fun _ => rfl) (fun x v hv => by simp [cells2] at hv; rcases hv with rfl | rfl <;> rfl) (fun x y : Int × Int => Lib.compareInt x.1 y.1) cmp_swo 23 #[] g 0 cap l.toArray w eg (fun _ _ _ _ x y => less_any x y _) hH hgl.2 (by simp; omega)
  have hsz : l.toArray.size = l.length := by simp
  rw [hsz] at hcon
  refine hcon.mono ?_
  rintro e w' ⟨rfl, d', n, os, hp, hs, rfl⟩
  obtain ⟨p1, p2, p3⟩ := hp
  have hdl : d'.toList.length = l.length := by rw [Array.length_toList]; simpa using p1
  have hperm : d'.toList.Perm l := by
    have a1 : (d'.extract 0 l.length).toList = d'.toList := by
      rw [Array.toList_extract]
      simp [List.extract, ← hdl]
      exact List.take_of_length_le (by simp)
    have a2 : (l.toArray.extract 0 l.length).toList = l := by
      rw [Array.toList_extract]
      simp [List.extract]
    rw [a1, a2] at p3
    exact p3
  refine ⟨rfl, d'.toList, hperm, ?_, ?_, ?_⟩
  · rw [List.pairwise_iff_getElem]
    intro i j hi hj hij
    have h1 := hs i j (Nat.zero_le _) hij (by omega)
    rw [cmp_lt, decide_eq_false_iff_not, getElem!_pos d' j (by simpa using hj), getElem!_pos d' i (by simpa using hi)] at h1
    simp only [Array.getElem_toList]
    omega
  · have hf : flatK cells2 2 d' = (d'.toList.flatMap cells2).toArray := by
      have := flat_pairs d'.toList
      simpa using this
    have hfl : (d'.toList.flatMap cells2).length = l.length * 2 := by rw [flat_len cells2 2 _ (fun _ _ => rfl), hdl]
    unfold sortWorldK putRowK
    rw [hf]
    unfold OwnsP
    rw [hdl]
    refine ⟨hfl, Or.inr ?_⟩
    rcases h.2 with ⟨h0, _⟩ | ⟨g', cap', cur, hv, hb, hg, hnc, hcm, hcs, _⟩
    · cases h0
    · cases hv
      have hle : l.length * 2 ≤ cap * 2 := Nat.mul_le_mul_right _ hnc
      refine ⟨g, cap, _, rfl, hb, heap_sortP _ hg, hnc, hcm, by simp [putCells, hcs], ?_⟩
      rw [← hfl]
      exact take_putCellsP cur _ (by omega)
  · exact grownBy_sortP _
end Go.Proofs.YtpmakbjchepkmaaDoor
