/- Lines and dotted bodies over lists of bytes: the code's way (by lines) and the document's (by places), and that they are one. -/
import Derived.Lib.IndexMore
import Derived.Lib.IndexLaws
import Derived.Lib.Strings
namespace Go.Proofs.Ytbhkchdkknainaa
open Go

/-- The first line's length with its end, if there is one. -/
def lineLen : List UInt8 → Option Nat
  | [] => none
  | b :: t => if b = 13 ∧ t.head? = some 10 then some 2 else (lineLen t).map (· + 1)

theorem lineLen_le : ∀ (l : List UInt8) (n : Nat), lineLen l = some n → 2 ≤ n ∧ n ≤ l.length
  | [], n, h => by simp [lineLen] at h
  | b :: t, n, h => by
    unfold lineLen at h
    split at h
    · rename_i hc
      obtain rfl := Option.some.inj h
      cases t with
      | nil => simp at hc
      | cons c t => simp
    · obtain ⟨m, hm, rfl⟩ := Option.map_eq_some_iff.1 h
      have := lineLen_le t m hm
      simp only [List.length_cons]; omega

theorem lineLen_index : ∀ l : List UInt8, Lib.index l [13, 10] = match lineLen l with | none => -1 | some n => (n : Int) - 2
  | [] => rfl
  | b :: t => by
    unfold Lib.index lineLen
    rw [lineLen_index t]
    by_cases h : b = 13 ∧ t.head? = some 10
    · rw [if_pos h]
      have hp : ([13, 10] : List UInt8).isPrefixOf (b :: t) = true := by
        obtain ⟨rfl, h2⟩ := h
        cases t with
        | nil => simp at h2
        | cons c t => simp at h2; subst h2; simp [List.isPrefixOf]
      rw [if_pos hp]; rfl
    · rw [if_neg h]
      have hp : ¬ ([13, 10] : List UInt8).isPrefixOf (b :: t) = true := by
        intro hp
        apply h
        cases t with
        | nil => simp [List.isPrefixOf] at hp
        | cons c t =>
          simp [List.isPrefixOf] at hp
          exact ⟨hp.1.symm, by simp [hp.2]⟩
      rw [if_neg hp]
      cases hl : lineLen t with
      | none => rfl
      | some n =>
        have := lineLen_le t n hl
        simp only [Option.map_some]
        rw [if_neg (by rw [beq_iff_eq]; omega)]
        show (n : Int) - 2 + 1 = ((n + 1 : Nat) : Int) - 2
        omega

/-- A dotted body, line by line: by at most f lines. -/
def stuffF : Nat → List UInt8 → List UInt8
  | 0, _ => []
  | f + 1, l => if l = [] then [] else match lineLen l with
    | none => (if l.head? = some 46 then [46] else []) ++ l ++ [13, 10]
    | some n => (if l.head? = some 46 then [46] else []) ++ l.take n ++ stuffF f (l.drop n)
def stuffL (l : List UInt8) : List UInt8 := stuffF (l.length + 1) l ++ [46, 13, 10]

/-- A dotted body's body, line by line, and how many bytes of it were gone through. -/
def unstF : Nat → List UInt8 → List UInt8 → Nat → Option (List UInt8 × Nat)
  | 0, _, _, _ => none
  | f + 1, l, acc, at' => match lineLen l with
    | none => none
    | some n => if l.take n = [46, 13, 10] then some (acc, at' + n) else unstF f (l.drop n) (acc ++ (if l.head? = some 46 then (l.take n).drop 1 else l.take n)) (at' + n)
def unstL (l : List UInt8) : Option (List UInt8 × Nat) := unstF (l.length + 1) l [] 0

/-- The document's: by places. -/
def endsL (p : List UInt8) (i : Nat) : Bool := decide (i + 1 < p.length) && (p.getD i 0 == 13 && p.getD (i + 1) 0 == 10)
def beginsL (p : List UInt8) (i : Nat) : Bool := decide (i = 0) || (decide (2 ≤ i) && endsL p (i - 2))
/-- What stands at the places from i on, with the points. -/
def stuffR (p : List UInt8) : Nat → Nat → List UInt8
  | 0, _ => []
  | f + 1, i => if i < p.length then (if p.getD i 0 = 46 ∧ beginsL p i = true then [46] else []) ++ [p.getD i 0] ++ stuffR p f (i + 1) else []
def stuffD (p : List UInt8) : List UInt8 := stuffR p p.length 0 ++ (if beginsL p p.length = true then [] else [13, 10]) ++ [46, 13, 10]
end Go.Proofs.Ytbhkchdkknainaa
