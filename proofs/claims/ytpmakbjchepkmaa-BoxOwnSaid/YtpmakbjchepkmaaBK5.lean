/- Box: a letter taken out of a slice in its own memory: plain facts, clear. -/
import Derived.Test.YtpmakbjchepkmaaBK4
namespace Go.Proofs.Ytpmakbjchepkmaa
open Go Go.RowKit

/-- The letters that stay. -/
def stays (u : Int) (p : LV) : Bool := !(p.1.uid == u)
def Z0 : LV := (⟨0, 0, []⟩, .slice none 0 0)
theorem zeros_run (w : World) : (zeroValue 44).run Try.prog w = .ok (.agg #[.int .i64 0, .int .u8 0, .slice none 0 0]) w := Try.zeroValue44 w
theorem zeros_cells (n : Nat) : (Builtin.zeroCells (Value.agg #[.int .i64 0, .int .u8 0, .slice none 0 0]).cells n).toList = cellsP (List.replicate n Z0) := by
  apply List.ext_getElem?
  intro i
  by_cases h : i < n * 3
  · have hq : i / 3 < n := by omega
    have hz : (List.replicate n Z0)[i / 3]? = some Z0 := by rw [List.getElem?_replicate, if_pos hq]
    obtain ⟨a0, a1, a2⟩ := cellsP_at (List.replicate n Z0) (i / 3) Z0 hz
    have hl : (Builtin.zeroCells (Value.agg #[.int .i64 0, .int .u8 0, .slice none 0 0]).cells n).toList[i]? = some ((#[.int .i64 0, .int .u8 0, .slice none 0 0] : Array Value)[i % 3]!) := by
      simp [Builtin.zeroCells, Value.cells, h]
    rw [hl]
    rcases (show i % 3 = 0 ∨ i % 3 = 1 ∨ i % 3 = 2 by omega) with e | e | e
    · rw [e]; rw [show i / 3 * 3 = i by omega] at a0; rw [a0]; rfl
    · rw [e]; rw [show i / 3 * 3 + 1 = i by omega] at a1; rw [a1]; rfl
    · rw [e]; rw [show i / 3 * 3 + 2 = i by omega] at a2; rw [a2]; rfl
  · rw [List.getElem?_eq_none, List.getElem?_eq_none]
    · rw [cellsP_len, List.length_replicate]; omega
    · simp [Builtin.zeroCells, Value.cells]; omega
theorem run_clear_letters (w : World) (ty : TypeId) (g o n c : Nat) (hn : 0 < n) (hc : ∀ j, j < n * 3 → (w.cell? ⟨g, o + j, none⟩).isSome = true) (hf : ∀ j, j < n * 3 → w.frozen? ⟨g, o + j, none⟩ = false) :
    (Builtin.clear_ #[22] ty #[.slice (some ⟨g, o, none⟩) n c]).run Try.prog w = .ok (.tuple #[]) (w.setCells g o (cellsP (List.replicate n Z0))) := by
  have hlen : (cellsP (List.replicate n Z0)).length = n * 3 := by rw [cellsP_len, List.length_replicate]
  have hst := run_storeCells_cells (P := Try.prog) g o (cellsP (List.replicate n Z0)) 0 w (by rw [hlen]; simpa using hc) (by rw [hlen]; simpa using hf) (by
    intro v hv
    obtain ⟨p, hp, hv⟩ := List.mem_flatMap.1 hv
    rw [List.eq_of_mem_replicate hp] at hv
    simp only [cellsLV, Z0, List.mem_cons, List.not_mem_nil, or_false] at hv
    rcases hv with rfl | rfl | rfl <;> rfl)
  simp only [Nat.add_zero] at hst
  obtain ⟨m, rfl⟩ : ∃ m, n = m + 1 := ⟨n - 1, by omega⟩
  simp only [Builtin.clear_]
  simp [run_underlying Try.underlying22, zeros_cells, hst]
theorem owns_put {B : Nat} {w : World} {g c : Nat} {rs : List LV} {n : Nat} (h : Owns B w (.slice (some ⟨g, 0, none⟩) n c) rs) (hn : rs.length = n) (i : Nat) (hi : i < n) (p : LV) :
    Owns B (((w.setCell ⟨g, i * 3, none⟩ (.int .i64 p.1.uid)).setCell ⟨g, i * 3 + 1, none⟩ (.int .u8 (p.1.flags.toNat : Int))).setCell ⟨g, i * 3 + 2, none⟩ p.2) (.slice (some ⟨g, 0, none⟩) n c) (rs.set i p) := by
  subst hn
  have h2 := owns_set h (i * 3) (cellsLV p) (by rw [cellsLV_len]; omega)
  rw [show over (cellsP rs) (i * 3) (cellsLV p) = cellsP (rs.set i p) from flat_set cellsLV 3 rs i (fun _ _ => rfl) _ rfl hi] at h2
  unfold Owns
  rw [List.length_set]
  exact h2
theorem owns_trim {B : Nat} {w : World} {g c : Nat} {rs : List LV} {n : Nat} (h : Owns B w (.slice (some ⟨g, 0, none⟩) n c) rs) (hn : rs.length = n) (i : Nat) (hi : i ≤ n) : Owns B w (.slice (some ⟨g, 0, none⟩) i c) (rs.take i) := by
  subst hn
  have hl : (rs.take i).length = i := by rw [List.length_take]; omega
  have hc : cellsP (rs.take i) = (cellsP rs).take (i * 3) := (flat_take cellsLV 3 rs i (fun _ _ => rfl)).symm
  unfold Owns
  rw [hl]
  refine ⟨by rw [cellsP_len, hl], Or.inr ?_⟩
  rcases h.2 with ⟨e, _⟩ | ⟨g', cap, cur, e, hg, hh, h1, h2, h3, h4⟩
  · cases e
  · injection e with e1 _ e3
    injection e1 with e1
    injection e1 with e1
    subst e1 e3
    refine ⟨g, c, cur, rfl, hg, hh, by omega, h2, h3, ?_⟩
    rw [hc, ← h4, List.take_take]
    congr 1
    omega
theorem owns_clear {B : Nat} {w : World} {g c : Nat} {rs : List LV} {n : Nat} (h : Owns B w (.slice (some ⟨g, 0, none⟩) n c) rs) (hn : rs.length = n) (i : Nat) (hi : i ≤ n) :
    Owns B (w.setCells g (i * 3) (cellsP (List.replicate (n - i) Z0))) (.slice (some ⟨g, 0, none⟩) i c) (rs.take i) := by
  subst hn
  have h2 := owns_set h (i * 3) (cellsP (List.replicate (rs.length - i) Z0)) (by rw [cellsP_len, List.length_replicate]; omega)
  have ho : over (cellsP rs) (i * 3) (cellsP (List.replicate (rs.length - i) Z0)) = cellsP (rs.take i ++ List.replicate (rs.length - i) Z0) := by
    unfold over
    rw [show (cellsP rs).take (i * 3) = cellsP (rs.take i) from flat_take cellsLV 3 rs i (fun _ _ => rfl), List.drop_of_length_le (by rw [cellsP_len, cellsP_len, List.length_replicate]; omega), List.append_nil]
    unfold cellsP
    rw [List.flatMap_append]
  rw [ho] at h2
  have hl : (rs.take i ++ List.replicate (rs.length - i) Z0).length = rs.length := by rw [List.length_append, List.length_take, List.length_replicate]; omega
  have h3 : Owns B (w.setCells g (i * 3) (cellsP (List.replicate (rs.length - i) Z0))) (.slice (some ⟨g, 0, none⟩) rs.length c) (rs.take i ++ List.replicate (rs.length - i) Z0) := by unfold Owns; rw [hl]; exact h2
  have h4 := owns_trim h3 hl i hi
  rwa [List.take_left' (by rw [List.length_take]; omega)] at h4
/-- Where the loop stands: the first j letters looked at, i of them kept. -/
structure DelS (B : Nat) (w wr : World) (g c : Nat) (qs : List LV) (u : Int) (i j : Nat) : Prop where
  ex : ∃ rs : List LV, Owns B wr (.slice (some ⟨g, 0, none⟩) qs.length c) rs ∧ rs.length = qs.length ∧ rs.take i = (qs.take j).filter (stays u) ∧ rs.drop j = qs.drop j
  lt : i < j
  le : j ≤ qs.length
  fr : Fr (· = g) w wr
theorem DelS.keep {B : Nat} {w wr wn : World} {g c : Nat} {qs : List LV} {u : Int} {i j : Nat} (h : DelS B w wr g c qs u i j) (p : LV) (hp : qs[j]? = some p) (hk : stays u p = true) (hn : Below wr.heap.size wr wn) :
    DelS B w (((wn.setCell ⟨g, i * 3, none⟩ (.int .i64 p.1.uid)).setCell ⟨g, i * 3 + 1, none⟩ (.int .u8 (p.1.flags.toNat : Int))).setCell ⟨g, i * 3 + 2, none⟩ p.2) g c qs u (i + 1) (j + 1) := by
  obtain ⟨⟨rs, h1, h2, h3, h4⟩, lt, le, fr⟩ := h
  have hj := (List.getElem?_eq_some_iff.1 hp).1
  have hil : i = ((qs.take j).filter (stays u)).length := by rw [← h3, List.length_take]; omega
  have hown : Owns B wn (.slice (some ⟨g, 0, none⟩) qs.length c) rs := Owns.below h1 hn
  refine ⟨⟨rs.set i p, owns_put hown h2 i (by omega) p, by rw [List.length_set]; exact h2, ?_, ?_⟩, by omega, by omega, ?_⟩
  · have hjx := List.getElem?_eq_some_iff.1 hp
    rw [List.take_add_one (i := j), hp, List.filter_append, ← h3]
    simp only [Option.toList_some, List.filter_cons, hk, if_true, List.filter_nil]
    rw [List.take_add_one, List.getElem?_set_self (by omega), List.take_set_of_le (by omega)]
    rfl
  · have : (rs.set i p).drop (j + 1) = rs.drop (j + 1) := by rw [List.drop_set, if_pos (by omega)]
    rw [this, ← List.drop_drop, h4, List.drop_drop]
  · exact (((fr.trans (Fr.of_below (· = g) hn) (fun _ _ h => h) (fun _ _ h => h)).setCell ⟨g, i * 3, none⟩ (Or.inl rfl) _).setCell ⟨g, i * 3 + 1, none⟩ (Or.inl rfl) _).setCell ⟨g, i * 3 + 2, none⟩ (Or.inl rfl) _
theorem DelS.drop {B : Nat} {w wr wn : World} {g c : Nat} {qs : List LV} {u : Int} {i j : Nat} (h : DelS B w wr g c qs u i j) (p : LV) (hp : qs[j]? = some p) (hk : stays u p = false) (hn : Below wr.heap.size wr wn) :
    DelS B w wn g c qs u i (j + 1) := by
  obtain ⟨⟨rs, h1, h2, h3, h4⟩, lt, le, fr⟩ := h
  have hj := (List.getElem?_eq_some_iff.1 hp).1
  refine ⟨⟨rs, Owns.below h1 hn, h2, ?_, ?_⟩, by omega, by omega, fr.trans (Fr.of_below (· = g) hn) (fun _ _ h => h) (fun _ _ h => h)⟩
  · rw [List.take_add_one (i := j), hp, List.filter_append, ← h3]
    simp [hk]
  · rw [← List.drop_drop, h4, List.drop_drop]
end Go.Proofs.Ytpmakbjchepkmaa
