/- Box: a set's reader goes over the parts as the document does: plain facts. -/
import Derived.Test.YtpmakbjchepkmaaDoorCR
namespace Go.Proofs.YtpmakbjchepkmaaDoor
open Go Go.RowKit

def negP (p : Int × Int) : Bool := decide (p.1 < 0) || decide (p.2 < 0)
def mapP (most : Int) (p : Int × Int) : Int × Int := (min (starW most p.1) (starW most p.2), max (starW most p.1) (starW most p.2))
/-- Where a part is read, and right. -/
structure Part (s : ByteArray) (r : Rd) (i : Nat) (y : Int × Int × Nat × Bool) (r' : Rd) : Prop where
  lt : i < y.2.2.1
  le : y.2.2.1 ≤ s.size
  run : rdRun s (s.size - i) i r = rdRun s (s.size - y.2.2.1) y.2.2.1 r'
  far : r'.far ≠ 0
  most : r'.most = r.most
  parts : r'.fin.parts = r.parts ++ [mapP r.most (y.1, y.2.1)]
  starry : r'.starry = (r.starry || negP (y.1, y.2.1))
  comma : isAt s y.2.2.1 44 = true → r'.step s y.2.2.1 = ({ r'.fin with far := 0 }, true)
  other : y.2.2.1 < s.size → isAt s y.2.2.1 44 = false → (r'.step s y.2.2.1).2 = false
theorem isAt_get {s : ByteArray} {j : Nat} (hj : j < s.size) (d : UInt8) : isAt s j d = decide ((s.get! j).toNat = d.toNat) := by
  unfold isAt
  rw [get_of hj]
  by_cases h : s[j]'hj = d
  · rw [decide_eq_true ⟨hj, h⟩, decide_eq_true (by rw [h])]
  · rw [decide_eq_false (fun ⟨_, e⟩ => h e), decide_eq_false (fun e => h (UInt8.toNat_inj.1 e))]
theorem btw_comma {r : Rd} {s : ByteArray} {j : Nat} (h : isAt s j 44 = true) : r.btw (s.get! j) = ({ r.fin with far := 0 }, true) := by
  obtain ⟨hj, _⟩ := isAt_lt h
  rw [isAt_get hj] at h
  unfold Rd.btw
  exact if_pos (show (s.get! j).toNat = 44 from of_decide_eq_true h)
theorem btw_colon {r : Rd} {s : ByteArray} {j : Nat} (h : isAt s j 58 = true) (hs : r.second = false) : r.btw (s.get! j) = ({ r with second := true, far := 0 }, true) := by
  obtain ⟨hj, _⟩ := isAt_lt h
  rw [isAt_get hj] at h
  have h := of_decide_eq_true h
  have e : (58 : UInt8).toNat = 58 := rfl
  rw [e] at h
  unfold Rd.btw
  rw [if_neg (by omega), if_pos ⟨h, hs⟩]
theorem btw_other {r : Rd} {s : ByteArray} {j : Nat} (hj : j < s.size) (h : isAt s j 44 = false) (h2 : isAt s j 58 = false ∨ r.second = true) : (r.btw (s.get! j)).2 = false := by
  rw [isAt_get hj] at h h2
  unfold Rd.btw
  rw [if_neg (show ¬ (s.get! j).toNat = 44 from of_decide_eq_false h), if_neg]
  rintro ⟨e1, e2⟩
  rcases h2 with h2 | h2
  · exact of_decide_eq_false h2 e1
  · rw [e2] at h2; cases h2
theorem min_self' (x : Int) : min x x = x := by omega
theorem max_self' (x : Int) : max x x = x := by omega
theorem pair_run {s : ByteArray} {r : Rd} (h0 : r.far = 0) (hs : r.second = false) {i : Nat} (hi : i ≤ s.size) :
    ((pairB s i).2.2.2 = true → ∃ r', Part s r i (pairB s i) r') ∧
    ((pairB s i).2.2.2 = false → ((pairB s i).2.2.1 = s.size ∧ (rdRun s (s.size - i) i r).2 = none ∧ (rdRun s (s.size - i) i r).1.far = 0) ∨ ((pairB s i).2.2.1 < s.size ∧ (rdRun s (s.size - i) i r).2 = some (pairB s i).2.2.1)) := by
  obtain ⟨o1, o2⟩ := one_run h0 hi
  obtain ⟨x, hx⟩ : ∃ x, oneB (s.data.toList.drop i) i = x := ⟨_, rfl⟩
  rw [hx] at o1 o2
  obtain ⟨v, j, ok⟩ := x
  cases ok with
  | false =>
    rw [pair_one hx (Or.inl rfl)]
    refine ⟨(fun h => by cases h), fun _ => ?_⟩
    rcases o2 rfl with ⟨h1, h2⟩ | h
    · have h2 : j = s.size := h2
      subst h1
      exact Or.inl ⟨h2, by rw [run_end (Nat.lt_irrefl _)], by rw [run_end (Nat.lt_irrefl _)]; exact h0⟩
    · exact Or.inr h
  | true =>
    obtain ⟨p1, p2, f, hf, p3, p4⟩ := o1 rfl
    simp only at p1 p2 p3 p4
    have hfar : (r.at i f v).far ≠ 0 := by show f ≠ 0; omega
    cases h58 : isAt s j 58 with
    | false =>
      rw [pair_one hx (Or.inr h58)]
      refine ⟨fun _ => ⟨r.at i f v, p1, p2, p3, hfar, rfl, ?_, ?_, fun h => ?_, fun hj h => ?_⟩, (fun h => by cases h)⟩
      · show r.parts ++ [(min (if r.second = true then r.a else starW r.most v) (starW r.most v), max (if r.second = true then r.a else starW r.most v) (starW r.most v))] = _
        rw [hs]
        rfl
      · show (r.starry || decide (v < 0)) = (r.starry || (decide (v < 0) || decide (v < 0)))
        rw [Bool.or_self]
      · obtain ⟨hj, _⟩ := isAt_lt h
        exact (p4 hj).trans (btw_comma h)
      · have hj : j < s.size := hj
        rw [show (r.at i f v).step s j = _ from p4 hj]
        exact btw_other hj h (Or.inl h58)
    | true =>
      obtain ⟨hj, _⟩ := isAt_lt h58
      have hb := (p4 hj).trans (btw_colon h58 (show (r.at i f v).second = false from hs))
      obtain ⟨q1, q2⟩ := one_run (s := s) (r := { r.at i f v with second := true, far := 0 }) rfl (i := j + 1) hj
      have hrun : rdRun s (s.size - i) i r = rdRun s (s.size - (j + 1)) (j + 1) { r.at i f v with second := true, far := 0 } := by
        rw [p3, run_next hj (by rw [hb]), hb]
      obtain ⟨z, hz⟩ : ∃ z, oneB (s.data.toList.drop (j + 1)) (j + 1) = z := ⟨_, rfl⟩
      rw [hz] at q1 q2
      obtain ⟨v2, j2, ok2⟩ := z
      rw [pair_two hx h58 hz]
      cases ok2 with
      | false =>
        refine ⟨(fun h => by cases h), fun _ => ?_⟩
        rcases q2 rfl with ⟨h1, h2⟩ | h
        · have h2 : j2 = s.size := h2
          refine Or.inl ⟨h2, ?_, ?_⟩
          · rw [hrun, h1, run_end (Nat.lt_irrefl _)]
          · rw [hrun, h1, run_end (Nat.lt_irrefl _)]
        · exact Or.inr ⟨h.1, by rw [hrun]; exact h.2⟩
      | true =>
        obtain ⟨t1, t2, f2, hf2, t3, t4⟩ := q1 rfl
        simp only at t1 t2 t3 t4
        refine ⟨fun _ => ⟨Rd.at { r.at i f v with second := true, far := 0 } (j + 1) f2 v2, ?_, t2, by rw [hrun]; exact t3, by show f2 ≠ 0; omega, rfl, ?_, ?_, fun h => ?_, fun hj2 h => ?_⟩, (fun h => by cases h)⟩
        · show i < j2
          omega
        · show r.parts ++ [(min (if r.second = true then r.a else starW r.most v) (starW r.most v2), max (if r.second = true then r.a else starW r.most v) (starW r.most v2))] = _
          rw [hs]
          rfl
        · show ((r.starry || decide (v < 0)) || decide (v2 < 0)) = (r.starry || (decide (v < 0) || decide (v2 < 0)))
          rw [Bool.or_assoc]
        · obtain ⟨hj2, _⟩ := isAt_lt h
          exact (t4 hj2).trans (btw_comma h)
        · have hj2 : j2 < s.size := hj2
          rw [show Rd.step _ s j2 = _ from t4 hj2]
          exact btw_other hj2 h (Or.inr rfl)
/-- All parts. -/
theorem parts_run {s : ByteArray} {most : Int} : ∀ (f i : Nat) (acc : List (Int × Int)) (r : Rd), s.size < i + f → i ≤ s.size → r.far = 0 → r.second = false → r.most = most → r.parts = acc.map (mapP most) → r.starry = acc.any negP →
    ((partsF s f i acc).2.2 = 3 ∧ (partsF s f i acc).2.1 = s.size ∧ (rdRun s (s.size - i) i r).2 = none ∧ (rdRun s (s.size - i) i r).1.far = 0) ∨
    ((partsF s f i acc).2.2 = 4 ∧ (rdRun s (s.size - i) i r).2 = some (partsF s f i acc).2.1) ∨
    ((partsF s f i acc).2.2 = 0 ∧ (partsF s f i acc).2.1 = 0 ∧ (rdRun s (s.size - i) i r).2 = none ∧ (rdRun s (s.size - i) i r).1.far ≠ 0 ∧ (rdRun s (s.size - i) i r).1.fin.parts = (partsF s f i acc).1.map (mapP most) ∧ (rdRun s (s.size - i) i r).1.starry = (partsF s f i acc).1.any negP)
  | 0, i, acc, r, hf, hi, _, _, _, _, _ => by omega
  | f + 1, i, acc, r, hf, hi, h0, hs, hm, hp, hst => by
    obtain ⟨g1, g2⟩ := pair_run h0 hs hi
    obtain ⟨y, hy⟩ : ∃ y, pairB s i = y := ⟨_, rfl⟩
    rw [hy] at g1 g2
    obtain ⟨a, b, j, ok⟩ := y
    cases ok with
    | false =>
      rcases g2 rfl with ⟨h1, h2, h3⟩ | ⟨h1, h2⟩
      · have h1 : j = s.size := h1
        subst h1
        rw [parts_bad1 hy]
        exact Or.inl ⟨rfl, rfl, h2, h3⟩
      · have h1 : j < s.size := h1
        rw [parts_bad2 hy (by omega)]
        exact Or.inr (Or.inl ⟨rfl, h2⟩)
    | true =>
      obtain ⟨r', hr⟩ := g1 rfl
      have hlt : i < j := hr.lt
      have hle : j ≤ s.size := hr.le
      have hpar : r'.fin.parts = (acc ++ [(a, b)]).map (mapP most) := by
        rw [hr.parts, hp, hm, List.map_append]
        rfl
      have hsta : r'.starry = (acc ++ [(a, b)]).any negP := by
        rw [hr.starry, hst, List.any_append]
        simp
      by_cases hj : j = s.size
      · subst hj
        rw [parts_fin hy]
        have hrun : rdRun s (s.size - i) i r = (r', none) := hr.run.trans (run_end (Nat.lt_irrefl _))
        rw [hrun]
        exact Or.inr (Or.inr ⟨rfl, rfl, rfl, hr.far, hpar, hsta⟩)
      · have hj2 : j < s.size := by omega
        have hrun0 : rdRun s (s.size - i) i r = rdRun s (s.size - j) j r' := hr.run
        cases h44 : isAt s j 44 with
        | false =>
          rw [parts_bad3 hy hj2 h44]
          refine Or.inr (Or.inl ⟨rfl, ?_⟩)
          rw [hrun0, run_stop hj2 (hr.other hj2 h44)]
        | true =>
          rw [parts_next hy hj2 h44]
          have hc : r'.step s j = ({ r'.fin with far := 0 }, true) := hr.comma h44
          have hrun : rdRun s (s.size - i) i r = rdRun s (s.size - (j + 1)) (j + 1) { r'.fin with far := 0 } := by
            rw [hrun0, run_next hj2 (by rw [hc]), hc]
          rw [hrun]
          exact parts_run f (j + 1) (acc ++ [(a, b)]) { r'.fin with far := 0 } (by omega) hj2 rfl rfl (hr.most.trans hm) hpar hsta
end Go.Proofs.YtpmakbjchepkmaaDoor
