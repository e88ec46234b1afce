/- Coord: slices.Delete of one transaction; remove, Drop, Vote, Ack, Ask. -/
import Derived.Test.YtleghofpabdkhaaY5
import Derived.Test.YtleghofpabdkhaaY6
import Derived.ArgAppend
import Derived.Laws.MakeOwn
namespace Go.Proofs.Ytleghofpabdkhaa
open Go Go.RowKit

theorem infoTn : (Try.prog.info? 78).map (fun i => (i.zero, i.size, i.bytes)) = some (some (.agg #[.int .i64 0, .int .i64 0, .int .i64 0, .bool false, .bool false, .bool false, .bool false, .bool false, .bool false, .bool false, .bool false, .bool false]), 12, 40) := by kernel_rfl
def zT : List Value := [.int .i64 0, .int .i64 0, .int .i64 0, .bool false, .bool false, .bool false, .bool false, .bool false, .bool false, .bool false, .bool false, .bool false]
theorem run_clear_one (w : World) (ty : TypeId) (g o c : Nat) (hc : ∀ j, j < 12 → (w.cell? ⟨g, o + j, none⟩).isSome = true) (hf : ∀ j, j < 12 → w.frozen? ⟨g, o + j, none⟩ = false) :
    (Builtin.clear_ #[70] ty #[.slice (some ⟨g, o, none⟩) 1 c]).run Try.prog w = .ok (.tuple #[]) (w.setCells g o zT) := by
  have hst := run_storeCells_cells (P := Try.prog) g o zT 0 w (by simpa [zT] using hc) (by simpa [zT] using hf) (by
    intro v hv
    simp only [zT, List.mem_cons, List.not_mem_nil, or_false] at hv
    rcases hv with rfl | rfl | rfl | rfl | rfl | rfl | rfl | rfl | rfl | rfl | rfl | rfl <;> rfl)
  simp only [Nat.add_zero] at hst
  have hz : (Builtin.zeroCells (Value.agg #[.int .i64 0, .int .i64 0, .int .i64 0, .bool false, .bool false, .bool false, .bool false, .bool false, .bool false, .bool false, .bool false, .bool false]).cells 1).toList = zT := by
    simp [Builtin.zeroCells, Value.cells, zT]
    rfl
  simp only [Builtin.clear_]
  simp [run_underlying Try.underlying70, hz, hst]
/-- What stays, laid in the first places; the last place is cleared. -/
theorem owns_cut {B : Nat} {w : World} {g c : Nat} {ps : List Trn} {i m : Nat} (h : w.ownsRow B 78 12 (.slice (some ⟨g, 0, none⟩) (m + 1) c) (m + 1) (ps.flatMap cellsT)) (hn : ps.length = m + 1) (hi : i ≤ m) :
    ((w.setCells g (i * 12) ((ps.drop (i + 1)).flatMap cellsT)).setCells g (m * 12) zT).ownsRow B 78 12 (.slice (some ⟨g, 0, none⟩) m c) m ((ps.eraseIdx i).flatMap cellsT) := by
  have hd : ((ps.drop (i + 1)).flatMap cellsT).length = (m - i) * 12 := by rw [flatT_len, List.length_drop, hn]; congr 1; omega
  have h1 := owns_set h (i * 12) ((ps.drop (i + 1)).flatMap cellsT) (by rw [hd, ← Nat.add_mul]; exact Nat.mul_le_mul_right _ (by omega))
  have he : over (ps.flatMap cellsT) (i * 12) ((ps.drop (i + 1)).flatMap cellsT) = (ps.eraseIdx i).flatMap cellsT ++ (ps.drop m).flatMap cellsT := by
    unfold over
    rw [hd, flat_take cellsT 12 ps i (fun _ _ => rfl), ← Nat.add_mul, show i + (m - i) = m by omega, flat_drop cellsT 12 ps m (fun _ _ => rfl), List.eraseIdx_eq_take_drop_succ, List.flatMap_append]
  rw [he] at h1
  have hel : (ps.eraseIdx i).length = m := by rw [List.length_eraseIdx, if_pos (by omega)]; omega
  have hml : ((ps.eraseIdx i).flatMap cellsT).length = m * 12 := by rw [flatT_len, hel]
  have h2 := owns_set h1 (m * 12) zT (by show m * 12 + 12 ≤ (m + 1) * 12; omega)
  have ho : (over ((ps.eraseIdx i).flatMap cellsT ++ (ps.drop m).flatMap cellsT) (m * 12) zT).take (m * 12) = (ps.eraseIdx i).flatMap cellsT := by
    unfold over
    rw [List.append_assoc, List.take_append, List.length_take, List.take_take, Nat.min_self, List.length_append, hml]
    rw [show m * 12 - min (m * 12) (m * 12 + ((ps.drop m).flatMap cellsT).length) = 0 by omega, List.take_zero, List.append_nil, List.take_left' hml]
  generalize (w.setCells g (i * 12) ((ps.drop (i + 1)).flatMap cellsT)).setCells g (m * 12) zT = W at *
  refine ⟨hml, Or.inr ?_⟩
  rcases h2.2 with ⟨e, _⟩ | ⟨g', cap, cur, e, hg, hh, hx1, hx2, hx3, hx4⟩
  · cases e
  · injection e with e1 _ e3
    injection e1 with e1
    injection e1 with e1
    subst e1 e3
    refine ⟨g, c, cur, rfl, hg, hh, by omega, hx2, hx3, ?_⟩
    rw [← ho, ← hx4, List.take_take]
    congr 1
    omega
theorem ex_slice {P : Program} {o : Oper} {a : Act} {w : World} (t : TypeId) (x : Operand) (l h m : Option Operand) (ho : o.op = .slice t x l h m) (xv : Value) (lv hv mv : Option Value) (hx : a.eval x = xv) (hl : l.map a.eval = lv) (hh : h.map a.eval = hv) (hm : m.map a.eval = mv) {e : TypeId} (hu : P.underlying t = some (.slice e)) {v : Value} (hr : (Instr.slice t xv lv hv mv).run P w = .ok v w) : (execOp a.eval o).run P w = .ok (.value v) w := by
  unfold execOp
  simp only [ho, hx, Instr.sliceAt, hl, hh, hm, Sem.run_bind, run_underlying hu, hr, Result.andThen_ok]
  rfl
def DelR (B : Nat) (w : World) (g m c : Nat) (ps : List Trn) (i : Nat) (e : Ending) (w' : World) : Prop :=
  e = .returned (.slice (some ⟨g, 0, none⟩) m c) ∧ TsAt B w' (.slice (some ⟨g, 0, none⟩) m c) (ps.eraseIdx i) ∧ Fr (· = g) w w'
set_option maxHeartbeats 4000000 in
set_option maxRecDepth 100000 in
theorem delete_any (B g c m : Nat) (ps : List Trn) (i : Nat) (w : World) (h : TsAt B w (.slice (some ⟨g, 0, none⟩) (m + 1) c) ps) (hn : ps.length = m + 1) (hi : i ≤ m) (hm : m ≤ 1000) :
    Calls Try.prog 60 #[.slice (some ⟨g, 0, none⟩) (m + 1) c, .int .i64 (i : Int), .int .i64 ((i : Int) + 1)] w (DelR B w g m c ps i) := by
  obtain ⟨i0, hi0, hz0, hz1, hz2⟩ := info_parts infoTn
  have hown : w.ownsRow B 78 12 (.slice (some ⟨g, 0, none⟩) (m + 1) c) ps.length (ps.flatMap cellsT) := h
  rw [hn] at hown
  have hcap : m + 1 ≤ c ∧ c ≤ maxLen := by
    rcases hown.2 with ⟨e, _⟩ | ⟨g', cap, cur, e, hg, hh, hx1, hx2, _, _⟩
    · cases e
    · injection e with _ _ e3
      subst e3
      exact ⟨hx1, hx2⟩
  obtain ⟨hc1, hc2⟩ := hcap
  unfold maxLen at hc2
  have hrd : ∀ j, j < (m + 1) * 12 → (w.drew.cell? ⟨g, 0 + j, none⟩).isSome = true ∧ w.drew.frozen? ⟨g, 0 + j, none⟩ = false := fun j hj => owns_there (n := m + 1) (size := 12) (xs := ps.flatMap cellsT) (base := B) (owns_frame hown (fun _ _ => rfl) : w.drew.ownsRow B 78 12 _ _ _) 0 ((m + 1) * 12) (by omega) j hj
  obtain ⟨A, hA⟩ : ∃ A : Addr, (if c = i + 1 then (⟨g, 0, none⟩ : Addr) else ⟨g, (i + 1) * 12, none⟩) = A := ⟨_, rfl⟩
  have hnews : ∀ j u, ((ps.drop (i + 1)).flatMap cellsT)[j]? = some u → w.drew.cell? (A.add j) = some u := fun j u hu => by
    by_cases hc : c = i + 1
    · have : ps.drop (i + 1) = [] := List.drop_of_length_le (by omega)
      rw [this] at hu
      cases hu
    · rw [if_neg hc] at hA
      rw [← hA, addr_plus]
      rw [← flat_drop cellsT 12 ps (i + 1) (fun _ _ => rfl), List.getElem?_drop] at hu
      have := World.ownsRow.cells hown (g := g) rfl _ u hu
      rwa [addr_plus, Nat.zero_add] at this
  have hnl : ((ps.drop (i + 1)).flatMap cellsT).length = (m - i) * 12 := by rw [flatT_len, List.length_drop, hn]; congr 1; omega
  have hap := fun ty => run_append_room_cells (P := Try.prog) w.drew 70 ty 78 i0 Try.underlying70 hi0 g 0 i c A (m - i) (c - (i + 1)) ((ps.drop (i + 1)).flatMap cellsT) (by rw [hnl, hz1]) hnews
    (fun u hu => by
      obtain ⟨p, _, hu⟩ := List.mem_flatMap.1 hu
      exact cellsT_cell p u hu) (by omega)
    (fun j hj => by rw [hnl] at hj; rw [hz1, Nat.zero_add]; have := (hrd (i * 12 + j) (by have : (m - i) * 12 = m * 12 - i * 12 := Nat.sub_mul ..; omega)).1; rwa [Nat.zero_add] at this)
    (fun j hj => by rw [hnl] at hj; rw [hz1, Nat.zero_add]; have := (hrd (i * 12 + j) (by have : (m - i) * 12 = m * 12 - i * 12 := Nat.sub_mul ..; omega)).2; rwa [Nat.zero_add] at this)
  rw [hz1, Nat.zero_add, show i + (m - i) = m by omega] at hap
  obtain ⟨W1, hW1⟩ : ∃ W1, w.drew.setCells g (i * 12) ((ps.drop (i + 1)).flatMap cellsT) = W1 := ⟨_, rfl⟩
  rw [hW1] at hap
  have hf1 : Fr (· = g) w W1 := by rw [← hW1]; exact ((Fr.refl (· = g) w).drew).setCells g _ (Or.inl rfl) _
  have hW1own : W1.ownsRow B 78 12 (.slice (some ⟨g, 0, none⟩) (m + 1) c) (m + 1) (over (ps.flatMap cellsT) (i * 12) ((ps.drop (i + 1)).flatMap cellsT)) := by
    rw [← hW1]
    exact owns_set (owns_frame hown (fun _ _ => rfl) : w.drew.ownsRow B 78 12 _ _ _) (i * 12) _ (by rw [hnl, ← Nat.add_mul]; exact Nat.mul_le_mul_right _ (by omega))
  have hth := owns_there (n := m + 1) (size := 12) (base := B) hW1own (m * 12) 12 (by omega)
  have hclr := fun ty => run_clear_one W1 ty g (m * 12) (c - m) (fun j hj => (hth j hj).1) (fun j hj => (hth j hj).2)
  have HEND : Hid (DelR B w g m c ps i (.returned (.slice (some ⟨g, 0, none⟩) m c)) (W1.setCells g (m * 12) zT)) := Lib.hid (by
    have hf2 : Fr (· = g) w (W1.setCells g (m * 12) zT) := hf1.setCells g _ (Or.inl rfl) _
    have hel : (ps.eraseIdx i).length = m := by rw [List.length_eraseIdx, if_pos (by omega)]; omega
    refine ⟨rfl, ?_, hf2⟩
    show World.ownsRow _ B 78 12 _ (ps.eraseIdx i).length _
    rw [hel, ← hW1]
    exact owns_cut (owns_frame hown (fun _ _ => rfl) : w.drew.ownsRow B 78 12 _ _ _) hn hi)
  have HAP := Lib.hid hap
  have e1 : ((i : Int) == (i : Int) + 1) = false := by rw [beq_eq_false_iff_ne]; omega
  have hA2 : (if c = i + 1 then some (⟨g, 0, none⟩ : Addr) else some ⟨g, (i + 1) * 12, none⟩) = some A := by rw [← hA]; split <;> rfl
  have hu : Try.prog.underlying 70 = some (.slice (Try.prog.elem 70)) := by simp [Program.elem, Try.underlying70]
  have hee : Try.prog.elem 70 = 78 := by simp [Program.elem, Try.underlying70]
  have hsz : ∀ W : World, (sizeOf 78).run Try.prog W = .ok 12 W := fun W => by simp [sizeOf, typeInfo, hi0, hz1]
  have hS1 : Hid (∀ W : World, (Instr.slice 70 (.slice (some ⟨g, 0, none⟩) (m + 1) c) none (some (.int .i64 (i : Int))) none).run Try.prog W = .ok (.slice (some ⟨g, 0, none⟩) i c) W) := Lib.hid (fun W => by
    rw [run_slice_h W 70 _ _ _ hu .i64 i (by omega) (by omega), hee, hsz]
    simp [Result.andThen, sliced, addr_plus])
  have hS2 : Hid (∀ W : World, (Instr.slice 70 (.slice (some ⟨g, 0, none⟩) (m + 1) c) (some (.int .i64 ((i : Int) + 1))) none none).run Try.prog W = .ok (.slice (some A) (m - i) (c - (i + 1))) W) := Lib.hid (fun W => by
    rw [run_slice_l W 70 _ _ _ hu .i64 ((i : Int) + 1) (by omega) (by omega), hee, hsz]
    simp only [Result.andThen, sliced, ← hA2]
    split <;> simp_all [addr_plus]
    try omega)
  clear hu hee hsz h hown hrd hnews hnl hap hW1 hf1 hW1own hth hA
  go_enter Try.func60, Try.ntmps60
  go_wp2_with fail
  refine wp_region_held_drew (S := fun _ => True) (by kernel_rfl) trivial (fun _ => ?_)
  refine hh_take 0 (some 20) (.slice (some ⟨g, 0, none⟩) (m + 1) c) rfl rfl (by kernel_rfl) (by kernel_rfl) (by kernel_rfl) (fun _ _ _ h => h) rfl (fun _ _ => rfl) trivial ?_
  simp only [Act.put, List.setIfInBounds_toArray, List.set_cons_zero, List.set_cons_succ]
  refine hh_take 1 (some 21) (.int .i64 (i : Int)) rfl rfl (by kernel_rfl) (by kernel_rfl) (by kernel_rfl) (fun _ _ _ h => h) rfl (fun _ _ => rfl) trivial ?_
  simp only [Act.put, List.setIfInBounds_toArray, List.set_cons_zero, List.set_cons_succ]
  refine hh_take 2 (some 22) (.slice (some ⟨g, 0, none⟩) i c) rfl rfl (by kernel_rfl) (by kernel_rfl) (by kernel_rfl) (fun _ _ _ h => h) rfl (fun W _ => ex_slice 70 (.tmp 20) none (some (.tmp 21)) none rfl (.slice (some ⟨g, 0, none⟩) (m + 1) c) none (some (.int .i64 (i : Int))) none rfl rfl rfl rfl Try.underlying70 (hS1.out W)) trivial ?_
  simp only [Act.put, List.setIfInBounds_toArray, List.set_cons_zero, List.set_cons_succ]
  refine hh_take 3 (some 23) (.slice (some ⟨g, 0, none⟩) (m + 1) c) rfl rfl (by kernel_rfl) (by kernel_rfl) (by kernel_rfl) (fun _ _ _ h => h) rfl (fun _ _ => rfl) trivial ?_
  simp only [Act.put, List.setIfInBounds_toArray, List.set_cons_zero, List.set_cons_succ]
  refine hh_take 4 (some 24) (.int .i64 ((i : Int) + 1)) rfl rfl (by kernel_rfl) (by kernel_rfl) (by kernel_rfl) (fun _ _ _ h => h) rfl (fun _ _ => rfl) trivial ?_
  simp only [Act.put, List.setIfInBounds_toArray, List.set_cons_zero, List.set_cons_succ]
  refine hh_take 5 (some 25) (.slice (some A) (m - i) (c - (i + 1))) rfl rfl (by kernel_rfl) (by kernel_rfl) (by kernel_rfl) (fun _ _ _ h => h) rfl (fun W _ => ex_slice 70 (.tmp 23) (some (.tmp 24)) none none rfl (.slice (some ⟨g, 0, none⟩) (m + 1) c) (some (.int .i64 ((i : Int) + 1))) none none rfl rfl rfl rfl Try.underlying70 (hS2.out W)) trivial ?_
  simp only [Act.put, List.setIfInBounds_toArray, List.set_cons_zero, List.set_cons_succ]
  refine hh_one 6 (by kernel_rfl) rfl rfl (fun K hK => wp_runsh (some 26) rfl (ex_append (.tmp 22) (.tmp 25) 70 70 rfl _ _ _ rfl rfl HAP.out) (hK _ _ trivial ?_))
  clear hK K
  simp only [Act.put, List.setIfInBounds_toArray, List.set_cons_zero, List.set_cons_succ]
  refine hh_take 7 (some 0) (.slice (some ⟨g, 0, none⟩) m c) rfl rfl (by kernel_rfl) (by kernel_rfl) (by kernel_rfl) (fun _ _ _ h => h) rfl (fun _ _ => rfl) trivial ?_
  simp only [Act.put, List.setIfInBounds_toArray, List.set_cons_zero, List.set_cons_succ]
  refine wpAnyH_done (by kernel_rfl) ?_ _
  clear hS1 hS2 HAP hA2
  go_wp2
  go_ret
  exact HEND.out
end Go.Proofs.Ytleghofpabdkhaa
