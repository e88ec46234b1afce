/- Box: the law's same; bounds of a set's parts. -/
import Derived.Test.YtpmakbjchepkmaaDoorCV
import Derived.Test.YtpmakbjchepkmaaDoorBL
namespace Go.Proofs.YtpmakbjchepkmaaDoor
open Go Go.RowKit

/-- The slice v reads as these ranges, or there are none. -/
def PrsN (w : World) (v : Value) (l : List Rg) : Prop := ∃ a c, v = .slice a l.length c ∧ ∀ i p, l[i]? = some p → ∃ g, a = some ⟨g, 0, none⟩ ∧ g < w.heap.size ∧ w.cell? ⟨g, i * 2, none⟩ = some (.int .i64 p.1) ∧ w.cell? ⟨g, i * 2 + 1, none⟩ = some (.int .i64 p.2)
theorem PrsN.nil (w : World) : PrsN w (.slice none 0 0) [] := ⟨none, 0, rfl, fun i p h => by simp at h⟩
theorem PrsN.of {w : World} {v : Value} {l : List Rg} (h : Prs w v l) : PrsN w v l := by
  obtain ⟨g, c, rfl, hg, hc⟩ := h
  refine ⟨_, c, rfl, fun i p hp => ⟨g, rfl, hg, ?_, ?_⟩⟩
  · have := hc (i * 2 + 0) _ (flat_at cells2 2 l i (fun _ _ => rfl) p hp 0 _ rfl)
    simpa using this
  · have := hc (i * 2 + 1) _ (flat_at cells2 2 l i (fun _ _ => rfl) p hp 1 _ rfl)
    simpa using this
theorem PrsN.below {w w' : World} {v : Value} {l : List Rg} (h : PrsN w v l) (hb : Below w.heap.size w w') : PrsN w' v l := by
  obtain ⟨a, c, rfl, h2⟩ := h
  refine ⟨a, c, rfl, fun i p hp => ?_⟩
  obtain ⟨g, q1, q2, q3, q4⟩ := h2 i p hp
  exact ⟨g, q1, Nat.lt_of_lt_of_le q2 hb.size, (hb.cell (p := ⟨g, i * 2, none⟩) q2).trans q3, (hb.cell (p := ⟨g, i * 2 + 1, none⟩) q2).trans q4⟩
theorem infoI : (Tryd.prog.info? 3).map (fun i => (i.zero, i.size, i.bytes)) = some (some (.int .i64 0), 1, 8) := by kernel_rfl
theorem cellsOne : Tryd.prog.cellsOf 3 = 1 := by kernel_rfl
theorem eq_int (d : Nat) (x : Int) (W : World) : (Op.equalIn (d + 1) 3 (.int .i64 x) (.int .i64 x)).run Tryd.prog W = .ok true W := by
  simp [Op.equalIn, Sem.run_bind, run_underlying Tryd.underlying3]
theorem eq_pair (x y : Int) (W : World) : (Op.equalIn 10000 30 (.agg #[.int .i64 x, .int .i64 y]) (.agg #[.int .i64 x, .int .i64 y])).run Tryd.prog W = .ok true W := by
  obtain ⟨i, hi, _, _, _⟩ := info_parts infoI
  rw [run_equalIn_array (P := Tryd.prog) W 9999 #[.int .i64 x, .int .i64 y] #[.int .i64 x, .int .i64 y] Tryd.underlying30 hi]
  have p0 : (part 3 #[.int .i64 x, .int .i64 y] (0 * Tryd.prog.cellsOf 3)).run Tryd.prog W = .ok (.int .i64 x) W := by kernel_rfl
  have p1 : (part 3 #[.int .i64 x, .int .i64 y] (1 * Tryd.prog.cellsOf 3)).run Tryd.prog W = .ok (.int .i64 y) W := by kernel_rfl
  have e0 : (Op.equalIn 9999 3 (.int .i64 x) (.int .i64 x)).run Tryd.prog W = .ok true W := eq_int 9998 x W
  have e1 : (Op.equalIn 9999 3 (.int .i64 y) (.int .i64 y)).run Tryd.prog W = .ok true W := eq_int 9998 y W
  rw [show List.range 2 = [0, 1] from rfl]
  simp only [Op.eqItems, Sem.run_bind, p0, Result.andThen_ok, e0, Bool.not_true, Bool.false_eq_true, if_false, p1, e1, Sem.run_pure]
set_option maxHeartbeats 2000000 in
theorem sameP_any (w : World) (u v : Value) (l : List Rg) (hu : PrsN w u l) (hv : PrsN w v l) (hl : l.length ≤ 1000000) :
    Calls Tryd.prog 8 #[u, v] w fun e w' => e = .returned (.bool true) ∧ Below w.heap.size w w' := by
  have HU := Lib.hid hu
  have HV := Lib.hid hv
  obtain ⟨ua, uc, rfl, _⟩ := hu
  obtain ⟨va, vc, rfl, _⟩ := hv
  have HB := Lib.hid (Below.refl w.heap.size w)
  go_enter Tryd.func8, Tryd.ntmps8
  go_wp2
  go_loopw [5] (fun iv wr => ∃ k : Nat, iv = .int .i64 (k : Int) ∧ k ≤ l.length ∧ Hid (Below w.heap.size w wr)) (fun iv _ => l.length - (intOf iv).toNat)
  case atStart => exact ⟨0, rfl, Nat.zero_le _, HB⟩
  case round =>
    obtain ⟨k, rfl, hk, hH⟩ := hrel
    by_cases hlt : k < l.length
    · obtain ⟨_, _, e1, h1⟩ := HU.out.below hH.out
      obtain ⟨_, _, e2, h2⟩ := HV.out.below hH.out
      cases e1
      cases e2
      obtain ⟨g1, rfl, _, a0, a1⟩ := h1 k _ (List.getElem?_eq_getElem hlt)
      obtain ⟨g2, rfl, _, b0, b1⟩ := h2 k _ (List.getElem?_eq_getElem hlt)
      have hlt' : (k : Int) < (l.length : Int) := by omega
      generalize l[k] = x at *
      clear h1 h2
      have q1 := eq_pair x.1 x.2
      go_wp2_with fail
      go_quiet (fail)
      have HN := Lib.hid (hH.out.trans (Below.mono (show Below wr.heap.size wr (wr.drewN nq) from ⟨rfl, rfl, rfl, Nat.le_refl _, fun _ _ => rfl⟩) hH.out.size))
      clear hH a0 a1 b0 b1
      go_wp2
      go_roundw
      case rel => exact ⟨k + 1, by go_num, by omega, HN⟩
      case measure => simp [intOf]; omega
    · have hlt' : ¬ (k : Int) < (l.length : Int) := by omega
      go_wp2
      go_ret
      exact ⟨rfl, hH.out⟩
/-- The bounds of a set's parts. -/
def Fine (p : Int × Int) : Prop := (-1 ≤ p.1 ∧ p.1 ≤ 4294967295) ∧ (-1 ≤ p.2 ∧ p.2 ≤ 4294967295)
theorem digs_fine : ∀ (t : List UInt8) (n i : Nat), n ≤ 4294967295 → 0 ≤ (digs t n i).1 ∧ (digs t n i).1 ≤ 4294967295
  | [], n, i, h => by unfold digs; simp only; omega
  | c :: t, n, i, h => by
    unfold digs
    split
    · split
      · simp
      · exact digs_fine t _ _ (by omega)
    · simp only; omega
theorem oneB_fine (t : List UInt8) (i : Nat) : -1 ≤ (oneB t i).1 ∧ (oneB t i).1 ≤ 4294967295 := by
  unfold oneB
  split
  · simp
  · have := digs_fine t 0 i (by omega)
    simp only
    omega
theorem pairB_fine (s : ByteArray) (i : Nat) : Fine ((pairB s i).1, (pairB s i).2.1) := by
  unfold pairB
  split
  · exact ⟨oneB_fine _ _, oneB_fine _ _⟩
  · exact ⟨oneB_fine _ _, oneB_fine _ _⟩
theorem parts_fine (s : ByteArray) : ∀ (f i : Nat) (acc : List (Int × Int)), (∀ p ∈ acc, Fine p) → ∀ p ∈ (partsF s f i acc).1, Fine p
  | 0, _, _, h => h
  | f + 1, i, acc, h => by
    have h2 : ∀ p ∈ acc ++ [((pairB s i).1, (pairB s i).2.1)], Fine p := by
      intro p hp
      rcases List.mem_append.1 hp with hp | hp
      · exact h p hp
      · rw [List.mem_singleton.1 hp]; exact pairB_fine s i
    unfold partsF
    split
    · intro p hp; cases hp
    · split
      · intro p hp; cases hp
      · split
        · exact h2
        · exact parts_fine s f _ _ h2
end Go.Proofs.YtpmakbjchepkmaaDoor
