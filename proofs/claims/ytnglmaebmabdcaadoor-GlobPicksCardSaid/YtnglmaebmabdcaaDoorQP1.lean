/- Glob: names ahead of a / in others, rising, each once: plain words, no walk. -/
import Derived.Lib.SlicesCompact
namespace Go.Proofs.YtnglmaebmabdcaaDoor
namespace Gl
abbrev Nm := List UInt8

/-- Rising, each once. -/
def Asc (l : List Nm) : Prop := l.Pairwise (· < ·)
theorem Asc.ext : ∀ {a b : List Nm}, Asc a → Asc b → (∀ x, x ∈ a ↔ x ∈ b) → a = b
  | [], [], _, _, _ => rfl
  | [], y :: b, _, _, h => by have := (h y).2 (by simp); simp at this
  | x :: a, [], _, _, h => by have := (h x).1 (by simp); simp at this
  | x :: a, y :: b, ha, hb, h => by
    obtain ⟨h1, h2⟩ := List.pairwise_cons.1 ha
    obtain ⟨h3, h4⟩ := List.pairwise_cons.1 hb
    have hxy : x = y := by
      rcases List.mem_cons.1 ((h x).1 (by simp)) with e | hx
      · exact e
      · rcases List.mem_cons.1 ((h y).2 (by simp)) with e | hy
        · exact e.symm
        · exact absurd (List.lt_trans (h3 x hx) (h1 y hy)) (List.lt_irrefl _)
    subst hxy
    congr 1
    refine Asc.ext h2 h4 fun z => ?_
    constructor
    · intro hz
      rcases List.mem_cons.1 ((h z).1 (by simp [hz])) with e | hz2
      · subst e; exact absurd (h1 z hz) (List.lt_irrefl _)
      · exact hz2
    · intro hz
      rcases List.mem_cons.1 ((h z).2 (by simp [hz])) with e | hz2
      · subst e; exact absurd (h3 z hz) (List.lt_irrefl _)
      · exact hz2

theorem lt_or (a b : Nm) : a < b ∨ a = b ∨ b < a := by
  by_cases h1 : a < b
  · exact .inl h1
  · by_cases h2 : b < a
    · exact .inr (.inr h2)
    · exact .inr (.inl (List.le_antisymm (List.not_lt.1 h2) (List.not_lt.1 h1)))

/-- The document's lay: from a place on. -/
def lays : Bool → List Nm → Nm → List Nm
  | done, [], s => if done then [] else [s]
  | done, x :: l, s => if done = false ∧ s < x then s :: x :: lays true l s else x :: lays done l s
def lay (l : List Nm) (s : Nm) : List Nm := lays (decide (s ∈ l)) l s
theorem lays_true (s : Nm) : ∀ l, lays true l s = l
  | [] => rfl
  | x :: l => by rw [lays, if_neg (by simp), lays_true s l]
theorem lays_mem (s : Nm) : ∀ l x, x ∈ lays false l s ↔ x ∈ l ∨ x = s
  | [], x => by simp [lays]
  | y :: l, x => by
    rw [lays]
    by_cases h : s < y
    · rw [if_pos ⟨rfl, h⟩, lays_true]
      simp only [List.mem_cons]
      constructor <;> (intro h; rcases h with h | h | h <;> simp [h])
    · rw [if_neg (by simp [h])]
      simp only [List.mem_cons, lays_mem s l x, or_assoc]
theorem lays_asc (s : Nm) : ∀ l, Asc l → s ∉ l → Asc (lays false l s)
  | [], _, _ => by simp [lays, Asc]
  | y :: l, h, hs => by
    obtain ⟨h1, h2⟩ := List.pairwise_cons.1 h
    rw [lays]
    by_cases hy : s < y
    · rw [if_pos ⟨rfl, hy⟩, lays_true]
      refine List.pairwise_cons.2 ⟨fun z hz => ?_, h⟩
      rcases List.mem_cons.1 hz with e | hz
      · subst e; exact hy
      · exact List.lt_trans hy (h1 z hz)
    · rw [if_neg (by simp [hy])]
      have hsl : s ∉ l := fun h => hs (by simp [h])
      refine List.pairwise_cons.2 ⟨fun z hz => ?_, lays_asc s l h2 hsl⟩
      rcases (lays_mem s l z).1 hz with hz | e
      · exact h1 z hz
      · subst e
        rcases lt_or z y with h3 | h3 | h3
        · exact absurd h3 hy
        · exact absurd (by simp [h3]) hs
        · exact h3
theorem lay_mem (l : List Nm) (s x : Nm) : x ∈ lay l s ↔ x ∈ l ∨ x = s := by
  unfold lay
  by_cases h : s ∈ l
  · rw [decide_eq_true h, lays_true]
    exact ⟨.inl, fun h2 => h2.elim id fun e => e ▸ h⟩
  · rw [decide_eq_false h]
    exact lays_mem s l x
theorem lay_asc {l : List Nm} (s : Nm) (h : Asc l) : Asc (lay l s) := by
  unfold lay
  by_cases hs : s ∈ l
  · rw [decide_eq_true hs, lays_true]; exact h
  · rw [decide_eq_false hs]; exact lays_asc s l h hs
theorem lay_len (l : List Nm) (s : Nm) : (lay l s).length ≤ l.length + 1 := by
  unfold lay
  have : ∀ b l, (lays b l s).length ≤ List.length l + 1 := by
    intro b l
    induction l generalizing b with
    | nil => cases b <;> simp [lays]
    | cons x l ih =>
      rw [lays]
      split
      · rw [lays_true]; simp
      · have := ih b; simp; omega
  exact this _ _

/-- What the program does at the end: sorted, and each once. -/
def rise (l : List Nm) : List Nm := Lib.compact (l.mergeSort fun x y => decide (x ≤ y))
theorem sorted (l : List Nm) : (l.mergeSort fun x y => decide (x ≤ y)).Pairwise (· ≤ ·) := by
  have := List.pairwise_mergeSort (le := fun x y : Nm => decide (x ≤ y)) (fun a b c h1 h2 => decide_eq_true (List.le_trans (of_decide_eq_true h1) (of_decide_eq_true h2))) (fun a b => by
    rcases List.le_total a b with h | h <;> simp [h]) l
  exact this.imp fun h => of_decide_eq_true h
/-- One of each run. -/
def uniq : List Nm → List Nm
  | [] => []
  | [x] => [x]
  | x :: y :: l => if x = y then uniq (y :: l) else x :: uniq (y :: l)
theorem uniq_mem : ∀ l x, x ∈ uniq l ↔ x ∈ l
  | [], _ => Iff.rfl
  | [_], _ => Iff.rfl
  | a :: b :: l, x => by
    rw [uniq]
    split
    · rename_i e
      rw [uniq_mem (b :: l) x, e]; simp
    · rw [List.mem_cons, uniq_mem (b :: l) x, ← List.mem_cons]
theorem uniq_asc : ∀ l : List Nm, l.Pairwise (· ≤ ·) → Asc (uniq l)
  | [], _ => List.Pairwise.nil
  | [x], _ => by simp [uniq, Asc]
  | a :: b :: l, h => by
    obtain ⟨h1, h2⟩ := List.pairwise_cons.1 h
    rw [uniq]
    split
    · exact uniq_asc (b :: l) h2
    · rename_i e
      refine List.pairwise_cons.2 ⟨fun z hz => ?_, uniq_asc (b :: l) h2⟩
      rw [uniq_mem] at hz
      have hab : a < b := by
        rcases lt_or a b with h3 | h3 | h3
        · exact h3
        · exact absurd h3 e
        · exact absurd h3 (List.not_lt.2 (h1 b (by simp)))
      rcases List.mem_cons.1 hz with e2 | hz
      · subst e2; exact hab
      · have hbz := (List.pairwise_cons.1 h2).1 z hz
        rcases lt_or b z with h3 | h3 | h3
        · exact List.lt_trans hab h3
        · subst h3; exact hab
        · exact absurd h3 (List.not_lt.2 hbz)
end Gl
end Go.Proofs.YtnglmaebmabdcaaDoor
