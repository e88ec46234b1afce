/- Bag: slices.Delete of one message, in place. -/
import Derived.Test.YtdcpdeiljabkaaaN1
import Derived.Test.YtdcpdeiljabkaaaHH
import Derived.ArgAppend
namespace Go.Proofs.Ytdcpdeiljabkaaa
open Go Go.RowKit

theorem infoUz : (Try.prog.info? 34).map (fun i => (i.zero, i.size)) = some (some (.agg #[.int .i64 0, .int .i64 0, .slice none 0 0]), 3) := by kernel_rfl
theorem flatU_len (l : List UV) : (l.flatMap cellsUV).length = l.length * 3 := flat_len cellsUV 3 l (fun _ _ => rfl)
def zU : List Value := [.int .i64 0, .int .i64 0, .slice none 0 0]
theorem run_clear_one (w : World) (ty : TypeId) (g o c : Nat) (hc : ∀ j, j < 3 → (w.cell? ⟨g, o + j, none⟩).isSome = true) (hf : ∀ j, j < 3 → w.frozen? ⟨g, o + j, none⟩ = false) :
    (Builtin.clear_ #[43] ty #[.slice (some ⟨g, o, none⟩) 1 c]).run Try.prog w = .ok (.tuple #[]) (w.setCells g o zU) := by
  have hst := run_storeCells_cells (P := Try.prog) g o zU 0 w (by simpa [zU] using hc) (by simpa [zU] using hf) (by
    intro v hv
    simp only [zU, List.mem_cons, List.not_mem_nil, or_false] at hv
    rcases hv with rfl | rfl | rfl <;> rfl)
  simp only [Nat.add_zero] at hst
  have hz : (Builtin.zeroCells (Value.agg #[.int .i64 0, .int .i64 0, .slice none 0 0]).cells 1).toList = zU := by
    simp [Builtin.zeroCells, Value.cells, zU]
    rfl
  simp only [Builtin.clear_]
  simp [run_underlying Try.underlying43, hz, hst]
/-- What stays, laid in the first places; the last place is cleared. -/
theorem owns_cut {B : Nat} {w : World} {g c : Nat} {ps : List UV} {i m : Nat} (h : w.ownsRow B 34 3 (.slice (some ⟨g, 0, none⟩) (m + 1) c) (m + 1) (ps.flatMap cellsUV)) (hn : ps.length = m + 1) (hi : i ≤ m) :
    ((w.setCells g (i * 3) ((ps.drop (i + 1)).flatMap cellsUV)).setCells g (m * 3) zU).ownsRow B 34 3 (.slice (some ⟨g, 0, none⟩) m c) m ((ps.eraseIdx i).flatMap cellsUV) := by
  have hd : ((ps.drop (i + 1)).flatMap cellsUV).length = (m - i) * 3 := by rw [flatU_len, List.length_drop, hn]; congr 1; omega
  have h1 := owns_set h (i * 3) ((ps.drop (i + 1)).flatMap cellsUV) (by rw [hd, ← Nat.add_mul]; exact Nat.mul_le_mul_right _ (by omega))
  have he : over (ps.flatMap cellsUV) (i * 3) ((ps.drop (i + 1)).flatMap cellsUV) = (ps.eraseIdx i).flatMap cellsUV ++ (ps.drop m).flatMap cellsUV := by
    unfold over
    rw [hd, flat_take cellsUV 3 ps i (fun _ _ => rfl), ← Nat.add_mul, show i + (m - i) = m by omega, flat_drop cellsUV 3 ps m (fun _ _ => rfl), List.eraseIdx_eq_take_drop_succ, List.flatMap_append]
  rw [he] at h1
  have hel : (ps.eraseIdx i).length = m := by rw [List.length_eraseIdx, if_pos (by omega)]; omega
  have hml : ((ps.eraseIdx i).flatMap cellsUV).length = m * 3 := by rw [flatU_len, hel]
  have h2 := owns_set h1 (m * 3) zU (by show m * 3 + 3 ≤ (m + 1) * 3; omega)
  have ho : (over ((ps.eraseIdx i).flatMap cellsUV ++ (ps.drop m).flatMap cellsUV) (m * 3) zU).take (m * 3) = (ps.eraseIdx i).flatMap cellsUV := by
    unfold over
    rw [List.append_assoc, List.take_append, List.length_take, List.take_take, Nat.min_self, List.length_append, hml]
    rw [show m * 3 - min (m * 3) (m * 3 + ((ps.drop m).flatMap cellsUV).length) = 0 by omega, List.take_zero, List.append_nil, List.take_left' hml]
  generalize (w.setCells g (i * 3) ((ps.drop (i + 1)).flatMap cellsUV)).setCells g (m * 3) zU = W at *
  refine ⟨hml, Or.inr ?_⟩
  rcases h2.2 with ⟨e, _⟩ | ⟨g', cap, cur, e, hg, hh, hx1, hx2, hx3, hx4⟩
  · cases e
  · injection e with e1 _ e3
    injection e1 with e1
    injection e1 with e1
    subst e1 e3
    refine ⟨g, c, cur, rfl, hg, hh, by omega, hx2, hx3, ?_⟩
    rw [← ho, ← hx4, List.take_take]
    congr 1
    omega
theorem ex_slice {P : Program} {o : Oper} {a : Act} {w : World} (t : TypeId) (x : Operand) (l h m : Option Operand) (ho : o.op = .slice t x l h m) (xv : Value) (lv hv mv : Option Value) (hx : a.eval x = xv) (hl : l.map a.eval = lv) (hh : h.map a.eval = hv) (hm : m.map a.eval = mv) {e : TypeId} (hu : P.underlying t = some (.slice e)) {v : Value} (hr : (Instr.slice t xv lv hv mv).run P w = .ok v w) : (execOp a.eval o).run P w = .ok (.value v) w := by
  unfold execOp
  simp only [ho, hx, Instr.sliceAt, hl, hh, hm, Sem.run_bind, run_underlying hu, hr, Result.andThen_ok]
  rfl
def DelR (B : Nat) (w : World) (g m c : Nat) (ps : List UV) (i : Nat) (e : Ending) (w' : World) : Prop :=
  e = .returned (.slice (some ⟨g, 0, none⟩) m c) ∧ UsAt B w' (.slice (some ⟨g, 0, none⟩) m c) (ps.eraseIdx i) ∧ Fr (· = g) w w'
set_option maxHeartbeats 4000000 in
set_option maxRecDepth 100000 in
theorem delete_any (B g c m : Nat) (ps : List UV) (i : Nat) (w : World) (h : UsAt B w (.slice (some ⟨g, 0, none⟩) (m + 1) c) ps) (hn : ps.length = m + 1) (hi : i ≤ m) (hm : m ≤ 1000) :
    Calls Try.prog 31 #[.slice (some ⟨g, 0, none⟩) (m + 1) c, .int .i64 (i : Int), .int .i64 ((i : Int) + 1)] w (DelR B w g m c ps i) := by
  obtain ⟨i0, hi0, hz0, hz1, hz2⟩ := info_parts infoUn
  have hown := h.own
  rw [hn] at hown
  have hcap : m + 1 ≤ c ∧ c ≤ maxLen := by
    rcases hown.2 with ⟨e, _⟩ | ⟨g', cap, cur, e, hg, hh, hx1, hx2, _, _⟩
    · cases e
    · injection e with _ _ e3
      subst e3
      exact ⟨hx1, hx2⟩
  obtain ⟨hc1, hc2⟩ := hcap
  unfold maxLen at hc2
  have hrd : ∀ j, j < (m + 1) * 3 → (w.drew.cell? ⟨g, 0 + j, none⟩).isSome = true ∧ w.drew.frozen? ⟨g, 0 + j, none⟩ = false := fun j hj => owns_there (n := m + 1) (size := 3) (xs := ps.flatMap cellsUV) (base := B) (owns_frame hown (fun _ _ => rfl) : w.drew.ownsRow B 34 3 _ _ _) 0 ((m + 1) * 3) (by omega) j hj
  obtain ⟨A, hA⟩ : ∃ A : Addr, (if c = i + 1 then (⟨g, 0, none⟩ : Addr) else ⟨g, (i + 1) * 3, none⟩) = A := ⟨_, rfl⟩
  have hnews : ∀ j u, ((ps.drop (i + 1)).flatMap cellsUV)[j]? = some u → w.drew.cell? (A.add j) = some u := fun j u hu => by
    by_cases hc : c = i + 1
    · have : ps.drop (i + 1) = [] := List.drop_of_length_le (by omega)
      rw [this] at hu
      cases hu
    · rw [if_neg hc] at hA
      rw [← hA, addr_plus]
      rw [← flat_drop cellsUV 3 ps (i + 1) (fun _ _ => rfl), List.getElem?_drop] at hu
      have := World.ownsRow.cells hown (g := g) rfl _ u hu
      rwa [addr_plus, Nat.zero_add] at this
  have hnl : ((ps.drop (i + 1)).flatMap cellsUV).length = (m - i) * 3 := by rw [flatU_len, List.length_drop, hn]; congr 1; omega
  have hap := fun ty => run_append_room_cells (P := Try.prog) w.drew 43 ty 34 i0 Try.underlying43 hi0 g 0 i c A (m - i) (c - (i + 1)) ((ps.drop (i + 1)).flatMap cellsUV) (by rw [hnl, hz1]) hnews
    (fun u hu => by
      obtain ⟨p, hp, hu⟩ := List.mem_flatMap.1 hu
      have hr := h.rows p (List.mem_of_mem_drop hp)
      obtain ⟨a, c', e, _⟩ := hr.1.shape
      exact cellsUn_cell p ⟨a, _, c', e⟩ u hu) (by omega)
    (fun j hj => by rw [hnl] at hj; rw [hz1, Nat.zero_add]; have := (hrd (i * 3 + j) (by have : (m - i) * 3 = m * 3 - i * 3 := Nat.sub_mul ..; omega)).1; rwa [Nat.zero_add] at this)
    (fun j hj => by rw [hnl] at hj; rw [hz1, Nat.zero_add]; have := (hrd (i * 3 + j) (by have : (m - i) * 3 = m * 3 - i * 3 := Nat.sub_mul ..; omega)).2; rwa [Nat.zero_add] at this)
  rw [hz1, Nat.zero_add, show i + (m - i) = m by omega] at hap
  obtain ⟨W1, hW1⟩ : ∃ W1, w.drew.setCells g (i * 3) ((ps.drop (i + 1)).flatMap cellsUV) = W1 := ⟨_, rfl⟩
  rw [hW1] at hap
  have hf1 : Fr (· = g) w W1 := by rw [← hW1]; exact ((Fr.refl (· = g) w).drew).setCells g _ (Or.inl rfl) _
  have hW1own : W1.ownsRow B 34 3 (.slice (some ⟨g, 0, none⟩) (m + 1) c) (m + 1) (over (ps.flatMap cellsUV) (i * 3) ((ps.drop (i + 1)).flatMap cellsUV)) := by
    rw [← hW1]
    exact owns_set (owns_frame hown (fun _ _ => rfl) : w.drew.ownsRow B 34 3 _ _ _) (i * 3) _ (by rw [hnl, ← Nat.add_mul]; exact Nat.mul_le_mul_right _ (by omega))
  have hth := owns_there (n := m + 1) (size := 3) (base := B) hW1own (m * 3) 3 (by omega)
  have hclr := fun ty => run_clear_one W1 ty g (m * 3) (c - m) (fun j hj => (hth j hj).1) (fun j hj => (hth j hj).2)
  have HEND : Hid (DelR B w g m c ps i (.returned (.slice (some ⟨g, 0, none⟩) m c)) (W1.setCells g (m * 3) zU)) := Lib.hid (by
    have hf2 : Fr (· = g) w (W1.setCells g (m * 3) zU) := hf1.setCells g _ (Or.inl rfl) _
    have hel : (ps.eraseIdx i).length = m := by rw [List.length_eraseIdx, if_pos (by omega)]; omega
    refine ⟨rfl, ⟨?_, fun p hp => ?_, fun p hp gg hg => ?_⟩, hf2⟩
    · rw [hel, ← hW1]
      exact owns_cut (owns_frame hown (fun _ _ => rfl) : w.drew.ownsRow B 34 3 _ _ _) hn hi
    · have hp' := List.mem_of_mem_eraseIdx hp
      exact (h.rows p hp').kept hf2.size (fun gg hg => hf2.block gg ((h.rows p hp').1.lt gg hg) (fun e => h.ne p hp' gg hg (by rw [e]; rfl)))
    · exact fun e => h.ne p (List.mem_of_mem_eraseIdx hp) gg hg (by simpa [Value.ownBlock] using e))
  have HAP := Lib.hid hap
  have e1 : ((i : Int) == (i : Int) + 1) = false := by rw [beq_eq_false_iff_ne]; omega
  have hA2 : (if c = i + 1 then some (⟨g, 0, none⟩ : Addr) else some ⟨g, (i + 1) * 3, none⟩) = some A := by rw [← hA]; split <;> rfl
  have hu : Try.prog.underlying 43 = some (.slice (Try.prog.elem 43)) := by simp [Program.elem, Try.underlying43]
  have hee : Try.prog.elem 43 = 34 := by simp [Program.elem, Try.underlying43]
  have hsz : ∀ W : World, (sizeOf 34).run Try.prog W = .ok 3 W := fun W => by simp [sizeOf, typeInfo, hi0, hz1]
  have hS1 : Hid (∀ W : World, (Instr.slice 43 (.slice (some ⟨g, 0, none⟩) (m + 1) c) none (some (.int .i64 (i : Int))) none).run Try.prog W = .ok (.slice (some ⟨g, 0, none⟩) i c) W) := Lib.hid (fun W => by
    rw [run_slice_h W 43 _ _ _ hu .i64 i (by omega) (by omega), hee, hsz]
    simp [Result.andThen, sliced, addr_plus])
  have hS2 : Hid (∀ W : World, (Instr.slice 43 (.slice (some ⟨g, 0, none⟩) (m + 1) c) (some (.int .i64 ((i : Int) + 1))) none none).run Try.prog W = .ok (.slice (some A) (m - i) (c - (i + 1))) W) := Lib.hid (fun W => by
    rw [run_slice_l W 43 _ _ _ hu .i64 ((i : Int) + 1) (by omega) (by omega), hee, hsz]
    simp only [Result.andThen, sliced, ← hA2]
    split <;> simp_all [addr_plus]
    try omega)
  clear hu hee hsz h hown hrd hnews hnl hap hW1 hf1 hW1own hth hA
  go_enter Try.func31, Try.ntmps31
  go_wp2_with fail
  refine wp_region_held_drew (S := fun _ => True) (by kernel_rfl) trivial (fun _ => ?_)
  refine hh_take 0 (some 20) (.slice (some ⟨g, 0, none⟩) (m + 1) c) rfl rfl (by kernel_rfl) (by kernel_rfl) (by kernel_rfl) (fun _ _ _ h => h) rfl (fun _ _ => rfl) trivial ?_
  simp only [Act.put, List.setIfInBounds_toArray, List.set_cons_zero, List.set_cons_succ]
  refine hh_take 1 (some 21) (.int .i64 (i : Int)) rfl rfl (by kernel_rfl) (by kernel_rfl) (by kernel_rfl) (fun _ _ _ h => h) rfl (fun _ _ => rfl) trivial ?_
  simp only [Act.put, List.setIfInBounds_toArray, List.set_cons_zero, List.set_cons_succ]
  refine hh_take 2 (some 22) (.slice (some ⟨g, 0, none⟩) i c) rfl rfl (by kernel_rfl) (by kernel_rfl) (by kernel_rfl) (fun _ _ _ h => h) rfl (fun W _ => ex_slice 43 (.tmp 20) none (some (.tmp 21)) none rfl (.slice (some ⟨g, 0, none⟩) (m + 1) c) none (some (.int .i64 (i : Int))) none rfl rfl rfl rfl Try.underlying43 (hS1.out W)) trivial ?_
  simp only [Act.put, List.setIfInBounds_toArray, List.set_cons_zero, List.set_cons_succ]
  refine hh_take 3 (some 23) (.slice (some ⟨g, 0, none⟩) (m + 1) c) rfl rfl (by kernel_rfl) (by kernel_rfl) (by kernel_rfl) (fun _ _ _ h => h) rfl (fun _ _ => rfl) trivial ?_
  simp only [Act.put, List.setIfInBounds_toArray, List.set_cons_zero, List.set_cons_succ]
  refine hh_take 4 (some 24) (.int .i64 ((i : Int) + 1)) rfl rfl (by kernel_rfl) (by kernel_rfl) (by kernel_rfl) (fun _ _ _ h => h) rfl (fun _ _ => rfl) trivial ?_
  simp only [Act.put, List.setIfInBounds_toArray, List.set_cons_zero, List.set_cons_succ]
  refine hh_take 5 (some 25) (.slice (some A) (m - i) (c - (i + 1))) rfl rfl (by kernel_rfl) (by kernel_rfl) (by kernel_rfl) (fun _ _ _ h => h) rfl (fun W _ => ex_slice 43 (.tmp 23) (some (.tmp 24)) none none rfl (.slice (some ⟨g, 0, none⟩) (m + 1) c) (some (.int .i64 ((i : Int) + 1))) none none rfl rfl rfl rfl Try.underlying43 (hS2.out W)) trivial ?_
  simp only [Act.put, List.setIfInBounds_toArray, List.set_cons_zero, List.set_cons_succ]
  refine hh_one 6 (by kernel_rfl) rfl rfl (fun K hK => wp_runsh (some 26) rfl (ex_append (.tmp 22) (.tmp 25) 43 43 rfl _ _ _ rfl rfl HAP.out) (hK _ _ trivial ?_))
  clear hK K
  simp only [Act.put, List.setIfInBounds_toArray, List.set_cons_zero, List.set_cons_succ]
  refine hh_take 7 (some 0) (.slice (some ⟨g, 0, none⟩) m c) rfl rfl (by kernel_rfl) (by kernel_rfl) (by kernel_rfl) (fun _ _ _ h => h) rfl (fun _ _ => rfl) trivial ?_
  simp only [Act.put, List.setIfInBounds_toArray, List.set_cons_zero, List.set_cons_succ]
  refine wpAnyH_done (by kernel_rfl) ?_ _
  clear hS1 hS2 HAP hA2
  go_wp2
  go_ret
  exact HEND.out
end Go.Proofs.Ytdcpdeiljabkaaa
