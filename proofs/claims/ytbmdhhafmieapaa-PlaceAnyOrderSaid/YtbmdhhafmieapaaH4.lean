/- Where a user is: the code's Seat. -/
import Derived.Test.YtbmdhhafmieapaaH3
import Derived.StringKeys
namespace Go.Proofs.Ytbmdhhafmieapaa
open Go Go.RowKit Go.Maps

def seatV (x : Known) : Value := .agg #[.string ⟨x.1.toArray⟩, .int .i64 x.2.1, .int .i64 x.2.2]
def zeroD : DataW Unit := .agg [.lit (.string []), .lit (.int .i64 0), .lit (.int .i64 0)]
theorem zero_seat (w : World) : (zeroValue 35).run Try.prog w = .ok (.agg #[.string ⟨#[]⟩, .int .i64 0, .int .i64 0]) w := by kernel_rfl
theorem zero_reads : seatElem (.agg #[.string ⟨#[]⟩, .int .i64 0, .int .i64 0]) = some (zeroD, []) := rfl
def atHome (u : ByteArray) (n : Int) : Known := (u.data.toList, (homeN u n).1, 1)
def seatOf (l : List Known) (u : ByteArray) (n : Int) : Known := (findK l u.data.toList).getD (atHome u n)
theorem has_mapD (l : List Known) (u : List UInt8) : has (mapD l) (.string u) = (findK l u).isSome := by
  unfold has mapD findK
  simp only
  induction l with
  | nil => rfl
  | cons x t ih =>
    simp only [List.map_cons, List.any_cons, List.find?_cons, same_str]
    cases x.1 == u with
    | true => rfl
    | false => simpa using ih

/-- Three cells of a struct of the call's own. -/
def Three (W : World) (g : Nat) (x y z : Value) : Prop :=
  (W.cell? ⟨g, 0, none⟩ = some x ∧ W.cell? ⟨g, 1, none⟩ = some y ∧ W.cell? ⟨g, 2, none⟩ = some z) ∧ W.frozen? ⟨g, 0, none⟩ = false ∧ W.frozen? ⟨g, 1, none⟩ = false ∧ W.frozen? ⟨g, 2, none⟩ = false
theorem Three.new (w : World) (t : TypeId) (x y z : Value) : Three (w.alloc (.cells #[x, y, z] t)) w.heap.size x y z :=
  ⟨⟨World.cell?_alloc_new _ _ _ _, World.cell?_alloc_new _ _ _ _, World.cell?_alloc_new _ _ _ _⟩, World.frozen?_alloc_new _ _ _ _, World.frozen?_alloc_new _ _ _ _, World.frozen?_alloc_new _ _ _ _⟩
theorem Three.below {B g : Nat} {w w' : World} {x y z : Value} (h : Three w g x y z) (hb : Below B w w') (hg : g < B) : Three w' g x y z :=
  ⟨⟨(hb.cell (p := ⟨g, 0, none⟩) hg).trans h.1.1, (hb.cell (p := ⟨g, 1, none⟩) hg).trans h.1.2.1, (hb.cell (p := ⟨g, 2, none⟩) hg).trans h.1.2.2⟩, (hb.frozen (p := ⟨g, 0, none⟩) hg).trans h.2.1, (hb.frozen (p := ⟨g, 1, none⟩) hg).trans h.2.2.1, (hb.frozen (p := ⟨g, 2, none⟩) hg).trans h.2.2.2⟩
theorem IsMap.below {w w' : World} {p b : Nat} {n : Int} {k : Nat} {D : DataW Unit} (h : IsMap w p b n k D) {B : Nat} (hb : Below B w w') (hp : p < B) : IsMap w' p b n k D := by
  refine ⟨(hb.cell (p := ⟨p, 0, none⟩) hp).trans h.c0, (hb.cell (p := ⟨p, 1, none⟩) hp).trans h.c1, ?_, h.ne⟩
  obtain ⟨es, clock, h1, h2⟩ := h.own
  exact ⟨es, clock, (hb.block b (by have := h.ne; omega)).trans h1, h2⟩
theorem IsMap.lt {w : World} {p b : Nat} {n : Int} {k : Nat} {D : DataW Unit} (h : IsMap w p b n k D) : p < w.heap.size := World.block_lt_of_cell? w _ h.c0

set_option maxHeartbeats 2000000 in
set_option maxRecDepth 100000 in
theorem seat_any (p b : Nat) (n : Int) (k : Nat) (l : List Known) (u : ByteArray) (w : World) (hu : u.size ≤ 140737488355000) (hn : 1 ≤ n ∧ n ≤ 4) (hm : IsMap w p b n k (mapD l)) (hl : ∀ x ∈ l, x.1.length ≤ 140737488355000) :
    Calls Try.prog 14 #[.pointer (some ⟨p, 0, none⟩), .string u] w fun e w' => e = .returned (.tuple #[seatV (seatOf l u n), .int .i64 0]) ∧ Below w.heap.size w w' := by
  have hkey : keyOf Try.prog 9 (.string u) = some (.string u.data.toList) := Go.WideMaps.keyOf_string_mk Try.underlying9 (by unfold maxLen; omega)
  have hH := fun W => home_any u n W (by omega)
  have hat := at_mapD l u.data.toList zeroD
  have hhs := has_mapD l u.data.toList
  have hmw := hm.below ((Below.refl w.heap.size w).alloc (Nat.le_refl _) (.cells #[.string ⟨#[]⟩, .int .i64 0, .int .i64 0] 35)) hm.lt
  have hown := hmw.own
  have c0 := hmw.c0
  have c1 := hmw.c1
  have hlt := hm.lt
  cases hf : findK l u.data.toList with
  | some x =>
    rw [hf] at hat hhs
    rw [show seatOf l u n = x by unfold seatOf; rw [hf]; rfl]
    have HAT := Lib.hid hat
    have HHS := Lib.hid hhs
    clear hf hat hhs hm hmw hl hH
    go_enter Try.func14, Try.ntmps14
    go_wp2_with (at_lookup; refine wpList_lookup_own_ok _ rfl _ _ 55 rfl 9 35 keyS Try.underlying55 seatElem (zero_seat _) zeroD [] zero_reads b k (mapD l) rfl hown _ _ rfl hkey ?_; intro v ps hv; rw [HAT.out] at hv; rw [HHS.out]; obtain rfl := seat_inv hv)
    exact bodyPost_ret (v := .tuple #[seatV x, .int .i64 0]) (by simp [results, Try.results14, go_sem, seatV]) rfl ⟨rfl, ((Below.refl _ w).alloc (Nat.le_refl _) _).alloc (by simp) _⟩
  | none =>
    rw [hf] at hat hhs
    rw [show seatOf l u n = atHome u n by unfold seatOf; rw [hf]; rfl]
    have hz : entD ([], 0, 0) = zeroD := rfl
    have HAT := Lib.hid (hat.trans hz.symm)
    have HHS := Lib.hid hhs
    have hh : homeN u n = ((homeN u n).1, 0) := by unfold homeN; rw [if_pos hn]
    rw [hh] at hH
    unfold atHome
    generalize (homeN u n).1 = hm1 at *
    clear hf hat hhs hm hmw hl hz hh
    go_enter Try.func14, Try.ntmps14
    go_wp2_with (first | (at_lookup; refine wpList_lookup_own_ok _ rfl _ _ 55 rfl 9 35 keyS Try.underlying55 seatElem (zero_seat _) zeroD [] zero_reads b k (mapD l) rfl hown _ _ rfl hkey ?_; intro v ps hv; rw [HAT.out] at hv; rw [HHS.out]; obtain rfl := seat_inv hv) | (go_at_call 8; refine (hH _).mono ?_; rintro e w' ⟨rfl, rfl⟩))
    exact bodyPost_ret (v := .tuple #[.agg #[.string u, .int .i64 hm1, .int .i64 1], .int .i64 0]) (by simp [results, Try.results14, go_sem]) rfl ⟨by unfold seatV; rw [Lib.mk_data], ((Below.refl _ w).alloc (Nat.le_refl _) _).alloc (by simp) _⟩
end Go.Proofs.Ytbmdhhafmieapaa
