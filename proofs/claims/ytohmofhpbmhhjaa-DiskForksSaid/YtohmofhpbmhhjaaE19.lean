/- Disk: slices.Clone of pages and of writes; Forks of both; a nil disk. -/
import Derived.Test.YtohmofhpbmhhjaaE18
namespace Go.Proofs.Ytohmofhpbmhhjaa
open Go Go.RowKit

section
variable {P : Program}
/-- append onto a new empty list, whatever is copied. -/
theorem app_any (w : World) (T e : TypeId) (i : TypeInfo) (z : Value) (size bytes : Nat) (ht : P.underlying T = some (.slice e)) (hi : P.info? e = some i) (hz : i.zero = some z) (hs : i.size = size) (hb : i.bytes = bytes) (hzs : z.cells.size = size) (h0 : 0 < size) (hb2 : bytes ≤ 100)
    (v : Value) (n : Nat) (xs : List Value) (hown : w.ownsRow 0 e size v n xs) (h1 : ∀ u ∈ xs, u.oneCell' = true) (hn : n ≤ 1000) :
    ∃ g c w', (∀ ty, (Builtin.append_ #[T, T] ty #[.slice (some ⟨w.heap.size, 0, none⟩) 0 0, v]).run P (w.alloc (.cells #[] e)) = .ok (.slice (some ⟨g, 0, none⟩) n c) w') ∧ w'.ownsRow 0 e size (.slice (some ⟨g, 0, none⟩) n c) n xs ∧ Below w.heap.size w w' ∧ w.heap.size ≤ g := by
  by_cases hv : n = 0 → v = .slice none 0 0
  · exact app_copy w T e i z size bytes ht hi hz hs hb hzs h0 hb2 v n xs hown hv h1 hn
  · have hn0 : n = 0 := Decidable.byContradiction fun h => hv (fun e => absurd e h)
    have hx : xs = [] := List.eq_nil_of_length_eq_zero (by rw [hown.1, hn0]; simp)
    rcases hown.2 with ⟨hv0, _⟩ | ⟨g, cap, cur, rfl, _⟩
    · exact absurd (fun _ => hv0) hv
    · subst hn0 hx
      have hb1 : Below w.heap.size w (w.alloc (.cells #[] e)) := (Below.refl _ w).alloc (Nat.le_refl _) _
      have hsrc : Go.Src P i.size T (.slice (some ⟨g, 0, none⟩) 0 cap) 0 [] (w.alloc (.cells #[] e)) := Go.Src.ofSlice _ ht ⟨g, 0, none⟩ 0 cap [] (by simp) (fun j u hj => by simp at hj) (fun u hu => by simp at hu)
      refine ⟨w.heap.size, 0, w.alloc (.cells #[] e), fun ty => ?_, ⟨by simp, Or.inr ⟨w.heap.size, 0, #[], rfl, Nat.zero_le _, heap_alloc_last w _, Nat.le_refl _, by unfold maxLen; omega, by simp, by simp⟩⟩, hb1, Nat.le_refl _⟩
      exact run_append_room_src (P := P) (w.alloc (.cells #[] e)) T T ty e i ht hi w.heap.size 0 0 0 _ 0 [] hsrc (Nat.le_refl _) (fun j hj => by simp at hj) (fun j hj => by simp at hj)
end
/-- What Clone tells. -/
def CloneR (w : World) (e : TypeId) (size : Nat) (v : Value) (n : Nat) (xs : List Value) (w' : World) (v' : Value) : Prop :=
  w'.ownsRow 0 e size v' n xs ∧ (∀ g, v'.ownBlock = some g → w.heap.size ≤ g) ∧ Below w.heap.size w w' ∧ ∀ g o c, v = .slice (some ⟨g, o, none⟩) n c → ∃ g' c', v' = .slice (some ⟨g', 0, none⟩) n c'
theorem CloneR.nil (w : World) (e : TypeId) (size : Nat) {v : Value} {xs : List Value} (hv : v = .slice none 0 0) (h : w.ownsRow 0 e size v 0 xs) : CloneR w e size v 0 xs w (.slice none 0 0) := by
  subst hv
  exact ⟨h, fun g hg => by simp [Value.ownBlock] at hg, Below.refl _ _, fun g o c h => by simp at h⟩
set_option maxHeartbeats 800000 in
theorem cloneP (v : Value) (n : Nat) (xs : List Value) (w : World) (hown : w.ownsRow 0 61 64 v n xs) (h1 : ∀ u ∈ xs, u.oneCell' = true) (hn : n ≤ 1000) :
    Calls Try.prog 29 #[v] w fun e w' => ∃ v', e = .returned v' ∧ CloneR w 61 64 v n xs w' v' := by
  obtain ⟨i0, hi, hz, hs, hb⟩ := info_parts infoP
  rcases hown.2 with ⟨hv0, hn0⟩ | ⟨g, cap, cur, rfl, _⟩
  · subst hv0 hn0
    have HR := Lib.hid (CloneR.nil w 61 64 rfl hown)
    clear hown h1 hn
    have he := Lib.run_eql_slice_nil (P := Try.prog) w 55 61 none 0 0 0 0 Try.underlying55
    go_enter Try.func29, Try.ntmps29
    go_wp2
    go_ret
    exact ⟨_, rfl, HR.out⟩
  · obtain ⟨g', c', w', hr, ho, hbel, hg'⟩ := app_any (P := Try.prog) w 55 61 i0 _ 64 64 Try.underlying55 hi hz hs hb (by decide) (by decide) (by decide) _ n xs hown h1 hn
    have HR := Lib.hid (show CloneR w 61 64 (.slice (some ⟨g, 0, none⟩) n cap) n xs w' (.slice (some ⟨g', 0, none⟩) n c') from ⟨ho, fun k hk => by simp [Value.ownBlock] at hk; omega, hbel, fun _ _ _ _ => ⟨g', c', rfl⟩⟩)
    have RUN := Lib.hid hr
    have he := Lib.run_eql_slice_nil (P := Try.prog) w 55 61 (some ⟨g, 0, none⟩) n cap 0 0 Try.underlying55
    clear hown h1 hn hr ho hbel hg'
    go_enter Try.func29, Try.ntmps29
    go_wp2_with (at_builtin; refine wpList_append_run _ rfl _ _ 55 55 rfl _ _ rfl rfl _ w' RUN.out ?_)
    go_ret
    exact ⟨_, rfl, HR.out⟩
set_option maxHeartbeats 800000 in
theorem cloneW (v : Value) (n : Nat) (xs : List Value) (w : World) (hown : w.ownsRow 0 63 65 v n xs) (h1 : ∀ u ∈ xs, u.oneCell' = true) (hn : n ≤ 1000) :
    Calls Try.prog 30 #[v] w fun e w' => ∃ v', e = .returned v' ∧ CloneR w 63 65 v n xs w' v' := by
  obtain ⟨i0, hi, hz, hs, hb⟩ := info_parts infoW
  rcases hown.2 with ⟨hv0, hn0⟩ | ⟨g, cap, cur, rfl, _⟩
  · subst hv0 hn0
    have HR := Lib.hid (CloneR.nil w 63 65 rfl hown)
    clear hown h1 hn
    have he := Lib.run_eql_slice_nil (P := Try.prog) w 56 63 none 0 0 0 0 Try.underlying56
    go_enter Try.func30, Try.ntmps30
    go_wp2
    go_ret
    exact ⟨_, rfl, HR.out⟩
  · obtain ⟨g', c', w', hr, ho, hbel, hg'⟩ := app_any (P := Try.prog) w 56 63 i0 _ 65 72 Try.underlying56 hi hz hs hb (by decide) (by decide) (by decide) _ n xs hown h1 hn
    have HR := Lib.hid (show CloneR w 63 65 (.slice (some ⟨g, 0, none⟩) n cap) n xs w' (.slice (some ⟨g', 0, none⟩) n c') from ⟨ho, fun k hk => by simp [Value.ownBlock] at hk; omega, hbel, fun _ _ _ _ => ⟨g', c', rfl⟩⟩)
    have RUN := Lib.hid hr
    have he := Lib.run_eql_slice_nil (P := Try.prog) w 56 63 (some ⟨g, 0, none⟩) n cap 0 0 Try.underlying56
    clear hown h1 hn hr ho hbel hg'
    go_enter Try.func30, Try.ntmps30
    go_wp2_with (at_builtin; refine wpList_append_run _ rfl _ _ 56 56 rfl _ _ rfl rfl _ w' RUN.out ?_)
    go_ret
    exact ⟨_, rfl, HR.out⟩
theorem ex_nilCheck {P : Program} {o : Oper} {a : Act} {w : World} (x : Operand) (ho : o.op = .nilCheck x) (p : Addr) (hx : a.eval x = .pointer (some p)) : (execOp a.eval o).run P w = .ok (.value (.pointer (some p))) w := by
  unfold execOp
  simp only [ho, hx]
  rfl
theorem wp_callsX {P : Program} {Q : Exit → Act → World → Prop} {o : Oper} {a : Act} {w : World} {K : Act → World → Prop} (d : Option Tmp) (hd : o.dst = d) (f : FuncId) (args : Array Value) (hr : (execOp a.eval o).run P w = .ok (.enter f args) w) (R : World → Value → Prop)
    (hc : Calls P f args w fun e w' => ∃ v, e = .returned v ∧ R w' v) (h : ∀ w' v, R w' v → K (a.put d v) w') : o.wp P a w K Q := by
  subst hd
  unfold Oper.wp
  rw [hr]
  refine hc.mono ?_
  rintro e w' ⟨v, rfl, hR⟩
  exact h w' v hR
end Go.Proofs.Ytohmofhpbmhhjaa
