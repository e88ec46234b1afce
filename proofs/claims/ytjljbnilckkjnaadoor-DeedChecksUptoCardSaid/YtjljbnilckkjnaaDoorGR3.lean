/- Deed: what the document's reader reads, in plain words, and what the program's reads: the same. -/
import Derived.Test.YtjljbnilckkjnaaDoorGR1
namespace Go.Proofs.YtjljbnilckkjnaaDoor
open Go Go.RowKit

def rText (s : RS) : List UInt8 × RS := rCut (rNum s 1).2 (rNum s 1).1
def rBody (s : RS) : List UInt8 × RS := rCut (rNum s 2).2 (rNum s 2).1
def rLet1 (s : RS) := rNum s 4
def rLet2 (s : RS) := rNum (rLet1 s).2 1
def rLet3 (s : RS) := rBody (rLet2 s).2
def rLet (s : RS) : Letr × RS := (⟨((rLet1 s).1 : Int), UInt8.ofNat (rLet2 s).1, (rLet3 s).1⟩, (rLet3 s).2)
def rLets : Nat → RS → List Letr → List Letr × RS
  | 0, s, acc => (acc, s)
  | n + 1, s, acc => if s.1 = true then (acc, s) else rLets n (rLet s).2 (acc ++ [(rLet s).1])
def rBox1 (s : RS) := rNum (rText s).2 4
def rBox2 (s : RS) := rNum (rBox1 s).2 4
def rBox3 (s : RS) := rNum (rBox2 s).2 1
def rBox4 (s : RS) := rLets (rBox3 s).1 (rBox3 s).2 []
def rBox (s : RS) : BxD × RS := (⟨⟨(rText s).1.toArray⟩, ((rBox1 s).1 : Int), ((rBox2 s).1 : Int), (rBox4 s).1⟩, (rBox4 s).2)
def rBoxs : Nat → RS → List BxD → List BxD × RS
  | 0, s, acc => (acc, s)
  | n + 1, s, acc => if s.1 = true then (acc, s) else rBoxs n (rBox s).2 (acc ++ [(rBox s).1])
def rUser1 (s : RS) := rNum (rText s).2 4
def rUser2 (s : RS) := rNum (rUser1 s).2 1
def rUser3 (s : RS) := rBoxs (rUser2 s).1 (rUser2 s).2 []
def rUser (s : RS) : UsD × RS := (⟨⟨(rText s).1.toArray⟩, ((rUser1 s).1 : Int), (rUser3 s).1⟩, (rUser3 s).2)

/-- A step of the document's reader does what a step of the program's does. -/
structure Fits {α β : Type} (r : RS → β × RS) (f : List UInt8 → Option (α × List UInt8)) (g : α → β) : Prop where
  ok : ∀ l x l', f l = some (x, l') → r (false, l) = (g x, (false, l'))
  no : ∀ l, f l = none → (r (false, l)).2.1 = true
  off : ∀ s : RS, s.1 = true → (r s).2.1 = true
theorem fits_cut (n : Nat) : Fits (rCut · n) (cutP n) id := by
  refine ⟨fun l x l' h => ?_, fun l h => ?_, fun s h => by rw [rCut_bad (Or.inl h)]⟩
  · unfold cutP at h
    split at h
    · simp only [Option.some.injEq, Prod.mk.injEq] at h
      obtain ⟨rfl, rfl⟩ := h
      exact rCut_good (s := (false, l)) (by rintro (h | h); · cases h
                                            · simp only at h; omega)
    · cases h
  · unfold cutP at h
    split at h
    · cases h
    · show (rCut (false, l) n).2.1 = true
      rw [rCut_bad (Or.inr (by simp only; omega))]
theorem fits_num (n : Nat) : Fits (rNum · n) (numP n) id := by
  refine ⟨fun l x l' h => ?_, fun l h => ?_, fun s h => by show (rCut s n).2.1 = true; rw [rCut_bad (Or.inl h)]⟩
  · unfold numP at h
    split at h
    · simp only [Option.some.injEq, Prod.mk.injEq] at h
      obtain ⟨rfl, rfl⟩ := h
      show rNum (false, l) n = _
      unfold rNum
      rw [rCut_good (s := (false, l)) (by rintro (h | h)
                                          · cases h
                                          · simp only at h; omega)]
      rfl
    · cases h
  · unfold numP at h
    split at h
    · cases h
    · show (rCut (false, l) n).2.1 = true
      rw [rCut_bad (Or.inr (by simp only; omega))]
theorem off_of {α β : Type} {r : RS → β × RS} {f : List UInt8 → Option (α × List UInt8)} {g : α → β} (h : Fits r f g) {s : RS} (hs : s.1 = true) : (r s).2.1 = true := h.off s hs
theorem state_eq (s : RS) (h : s.1 = false) : s = (false, s.2) := by obtain ⟨a, b⟩ := s; simp only at h; subst h; rfl
theorem fits_text : Fits rText textP id := by
  refine ⟨fun l x l' h => ?_, fun l h => ?_, fun s h => ?_⟩
  · unfold textP at h
    obtain ⟨⟨n, l1⟩, h1, h2⟩ := Option.bind_eq_some_iff.1 h
    have e1 := (fits_num 1).ok l n l1 h1
    unfold rText
    rw [e1]
    exact (fits_cut n).ok l1 x l' h2
  · unfold textP at h
    show (rCut (rNum (false, l) 1).2 (rNum (false, l) 1).1).2.1 = true
    cases hn : numP 1 l with
    | none => exact (fits_cut _).off _ ((fits_num 1).no l hn)
    | some y =>
      obtain ⟨n, l1⟩ := y
      rw [hn, Option.bind_some] at h
      have e1 := (fits_num 1).ok l n l1 hn
      rw [e1]
      exact (fits_cut n).no l1 h
  · exact (fits_cut _).off _ ((fits_num 1).off s h)
theorem fits_body : Fits rBody bodyP id := by
  refine ⟨fun l x l' h => ?_, fun l h => ?_, fun s h => ?_⟩
  · unfold bodyP at h
    obtain ⟨⟨n, l1⟩, h1, h2⟩ := Option.bind_eq_some_iff.1 h
    have e1 := (fits_num 2).ok l n l1 h1
    unfold rBody
    rw [e1]
    exact (fits_cut n).ok l1 x l' h2
  · unfold bodyP at h
    show (rCut (rNum (false, l) 2).2 (rNum (false, l) 2).1).2.1 = true
    cases hn : numP 2 l with
    | none => exact (fits_cut _).off _ ((fits_num 2).no l hn)
    | some y =>
      obtain ⟨n, l1⟩ := y
      rw [hn, Option.bind_some] at h
      have e1 := (fits_num 2).ok l n l1 hn
      rw [e1]
      exact (fits_cut n).no l1 h
  · exact (fits_cut _).off _ ((fits_num 2).off s h)
theorem fits_let : Fits rLet letP id := by
  refine ⟨fun l x l' h => ?_, fun l h => ?_, fun s h => ?_⟩
  · unfold letP at h
    simp only [Option.bind_eq_some_iff] at h
    obtain ⟨⟨a0, b0⟩, h0, ⟨a1, b1⟩, h1, ⟨a2, b2⟩, h2, h10⟩ := h
    simp only [Option.some.injEq, Prod.mk.injEq] at h10
    obtain ⟨rfl, rfl⟩ := h10
    have e0 : rLet1 (false, l) = (a0, (false, b0)) := (fits_num 4).ok l a0 b0 h0
    have e1 : rLet2 (false, l) = (a1, (false, b1)) := by unfold rLet2; rw [e0]; exact (fits_num 1).ok b0 a1 b1 h1
    have e2 : rLet3 (false, l) = (a2, (false, b2)) := by unfold rLet3; rw [e1]; exact fits_body.ok b1 a2 b2 h2
    unfold rLet
    rw [e0, e1, e2]
    rfl
  · unfold letP at h
    show (rLet3 (false, l)).2.1 = true
    cases h0 : numP 4 l with
    | none => exact fits_body.off _ ((fits_num 1).off _ ((fits_num 4).no l h0))
    | some y =>
      obtain ⟨a0, b0⟩ := y
      rw [h0, Option.bind_some] at h
      have e0 : rLet1 (false, l) = (a0, (false, b0)) := (fits_num 4).ok l a0 b0 h0
      dsimp only at h
      cases h1 : numP 1 b0 with
      | none => exact fits_body.off _ (by unfold rLet2; rw [e0]; exact (fits_num 1).no b0 h1)
      | some z =>
        obtain ⟨a1, b1⟩ := z
        rw [h1, Option.bind_some] at h
        have e1 : rLet2 (false, l) = (a1, (false, b1)) := by unfold rLet2; rw [e0]; exact (fits_num 1).ok b0 a1 b1 h1
        dsimp only at h
        cases h2 : bodyP b1 with
        | none => unfold rLet3; rw [e1]; exact fits_body.no b1 h2
        | some z2 => rw [h2, Option.bind_some] at h; cases h
  · exact fits_body.off _ ((fits_num 1).off _ ((fits_num 4).off s h))
theorem rLets_off (n : Nat) (s : RS) (acc : List Letr) (h : s.1 = true) : (rLets n s acc).2.1 = true := by
  cases n with
  | zero => exact h
  | succ n => unfold rLets; rw [if_pos h]; exact h
theorem rLets_ok : ∀ (n : Nat) (l l' : List UInt8) (acc x : List Letr), letsP n l acc = some (x, l') → rLets n (false, l) acc = (x, (false, l'))
  | 0, l, l', acc, x, h => by
    unfold letsP at h
    simp only [Option.some.injEq, Prod.mk.injEq] at h
    obtain ⟨rfl, rfl⟩ := h
    rfl
  | n + 1, l, l', acc, x, h => by
    unfold letsP at h
    obtain ⟨⟨y, l1⟩, h1, h2⟩ := Option.bind_eq_some_iff.1 h
    unfold rLets
    rw [if_neg (by simp), fits_let.ok l y l1 h1]
    exact rLets_ok n l1 l' _ x h2
theorem rLets_no : ∀ (n : Nat) (l : List UInt8) (acc : List Letr), letsP n l acc = none → (rLets n (false, l) acc).2.1 = true
  | 0, l, acc, h => by unfold letsP at h; cases h
  | n + 1, l, acc, h => by
    unfold letsP at h
    unfold rLets
    rw [if_neg (by simp)]
    cases h1 : letP l with
    | none => exact rLets_off n _ _ (fits_let.no l h1)
    | some y =>
      obtain ⟨y, l1⟩ := y
      rw [h1, Option.bind_some] at h
      rw [fits_let.ok l y l1 h1]
      exact rLets_no n l1 _ h
theorem fits_box : Fits rBox boxP id := by
  refine ⟨fun l x l' h => ?_, fun l h => ?_, fun s h => ?_⟩
  · unfold boxP at h
    simp only [Option.bind_eq_some_iff] at h
    obtain ⟨⟨a0, b0⟩, h0, ⟨a1, b1⟩, h1, ⟨a2, b2⟩, h2, ⟨a3, b3⟩, h3, ⟨a4, b4⟩, h4, h10⟩ := h
    simp only [Option.some.injEq, Prod.mk.injEq] at h10
    obtain ⟨rfl, rfl⟩ := h10
    have e0 : rText (false, l) = (a0, (false, b0)) := fits_text.ok l a0 b0 h0
    have e1 : rBox1 (false, l) = (a1, (false, b1)) := by unfold rBox1; rw [e0]; exact (fits_num 4).ok b0 a1 b1 h1
    have e2 : rBox2 (false, l) = (a2, (false, b2)) := by unfold rBox2; rw [e1]; exact (fits_num 4).ok b1 a2 b2 h2
    have e3 : rBox3 (false, l) = (a3, (false, b3)) := by unfold rBox3; rw [e2]; exact (fits_num 1).ok b2 a3 b3 h3
    have e4 : rBox4 (false, l) = (a4, (false, b4)) := by unfold rBox4; rw [e3]; exact rLets_ok a3 b3 b4 [] a4 h4
    unfold rBox
    rw [e0, e1, e2, e4]
    rfl
  · unfold boxP at h
    show (rBox4 (false, l)).2.1 = true
    unfold rBox4
    cases h0 : textP l with
    | none => exact rLets_off _ _ _ ((fits_num 1).off _ ((fits_num 4).off _ ((fits_num 4).off _ (fits_text.no l h0))))
    | some y =>
      obtain ⟨a0, b0⟩ := y
      rw [h0, Option.bind_some] at h
      dsimp only at h
      have e0 : rText (false, l) = (a0, (false, b0)) := fits_text.ok l a0 b0 h0
      cases h1 : numP 4 b0 with
      | none => exact rLets_off _ _ _ ((fits_num 1).off _ ((fits_num 4).off _ (by unfold rBox1; rw [e0]; exact (fits_num 4).no b0 h1)))
      | some y =>
        obtain ⟨a1, b1⟩ := y
        rw [h1, Option.bind_some] at h
        dsimp only at h
        have e1 : rBox1 (false, l) = (a1, (false, b1)) := by unfold rBox1; rw [e0]; exact (fits_num 4).ok b0 a1 b1 h1
        cases h2 : numP 4 b1 with
        | none => exact rLets_off _ _ _ ((fits_num 1).off _ (by unfold rBox2; rw [e1]; exact (fits_num 4).no b1 h2))
        | some y =>
          obtain ⟨a2, b2⟩ := y
          rw [h2, Option.bind_some] at h
          dsimp only at h
          have e2 : rBox2 (false, l) = (a2, (false, b2)) := by unfold rBox2; rw [e1]; exact (fits_num 4).ok b1 a2 b2 h2
          cases h3 : numP 1 b2 with
          | none => exact rLets_off _ _ _ (by unfold rBox3; rw [e2]; exact (fits_num 1).no b2 h3)
          | some y =>
            obtain ⟨a3, b3⟩ := y
            rw [h3, Option.bind_some] at h
            dsimp only at h
            have e3 : rBox3 (false, l) = (a3, (false, b3)) := by unfold rBox3; rw [e2]; exact (fits_num 1).ok b2 a3 b3 h3
            rw [e3]
            cases h4 : letsP a3 b3 [] with
            | none => exact rLets_no a3 b3 [] h4
            | some z => rw [h4, Option.bind_some] at h; cases h
  · exact rLets_off _ _ _ ((fits_num 1).off _ ((fits_num 4).off _ ((fits_num 4).off _ (fits_text.off s h))))
theorem rBoxs_off (n : Nat) (s : RS) (acc : List BxD) (h : s.1 = true) : (rBoxs n s acc).2.1 = true := by
  cases n with
  | zero => exact h
  | succ n => unfold rBoxs; rw [if_pos h]; exact h
theorem rBoxs_ok : ∀ (n : Nat) (l l' : List UInt8) (acc x : List BxD), boxsP n l acc = some (x, l') → rBoxs n (false, l) acc = (x, (false, l'))
  | 0, l, l', acc, x, h => by
    unfold boxsP at h
    simp only [Option.some.injEq, Prod.mk.injEq] at h
    obtain ⟨rfl, rfl⟩ := h
    rfl
  | n + 1, l, l', acc, x, h => by
    unfold boxsP at h
    obtain ⟨⟨y, l1⟩, h1, h2⟩ := Option.bind_eq_some_iff.1 h
    unfold rBoxs
    rw [if_neg (by simp), fits_box.ok l y l1 h1]
    exact rBoxs_ok n l1 l' _ x h2
theorem rBoxs_no : ∀ (n : Nat) (l : List UInt8) (acc : List BxD), boxsP n l acc = none → (rBoxs n (false, l) acc).2.1 = true
  | 0, l, acc, h => by unfold boxsP at h; cases h
  | n + 1, l, acc, h => by
    unfold boxsP at h
    unfold rBoxs
    rw [if_neg (by simp)]
    cases h1 : boxP l with
    | none => exact rBoxs_off n _ _ (fits_box.no l h1)
    | some y =>
      obtain ⟨y, l1⟩ := y
      rw [h1, Option.bind_some] at h
      rw [fits_box.ok l y l1 h1]
      exact rBoxs_no n l1 _ h
theorem fits_user : Fits rUser userP id := by
  refine ⟨fun l x l' h => ?_, fun l h => ?_, fun s h => ?_⟩
  · unfold userP at h
    simp only [Option.bind_eq_some_iff] at h
    obtain ⟨⟨a0, b0⟩, h0, ⟨a1, b1⟩, h1, ⟨a3, b3⟩, h3, ⟨a4, b4⟩, h4, h10⟩ := h
    simp only [Option.some.injEq, Prod.mk.injEq] at h10
    obtain ⟨rfl, rfl⟩ := h10
    have e0 : rText (false, l) = (a0, (false, b0)) := fits_text.ok l a0 b0 h0
    have e1 : rUser1 (false, l) = (a1, (false, b1)) := by unfold rUser1; rw [e0]; exact (fits_num 4).ok b0 a1 b1 h1
    have e3 : rUser2 (false, l) = (a3, (false, b3)) := by unfold rUser2; rw [e1]; exact (fits_num 1).ok b1 a3 b3 h3
    have e4 : rUser3 (false, l) = (a4, (false, b4)) := by unfold rUser3; rw [e3]; exact rBoxs_ok a3 b3 b4 [] a4 h4
    unfold rUser
    rw [e0, e1, e4]
    rfl
  · unfold userP at h
    show (rUser3 (false, l)).2.1 = true
    unfold rUser3
    cases h0 : textP l with
    | none => exact rBoxs_off _ _ _ ((fits_num 1).off _ ((fits_num 4).off _ (fits_text.no l h0)))
    | some y =>
      obtain ⟨a0, b0⟩ := y
      rw [h0, Option.bind_some] at h
      dsimp only at h
      have e0 : rText (false, l) = (a0, (false, b0)) := fits_text.ok l a0 b0 h0
      cases h1 : numP 4 b0 with
      | none => exact rBoxs_off _ _ _ ((fits_num 1).off _ (by unfold rUser1; rw [e0]; exact (fits_num 4).no b0 h1))
      | some y =>
        obtain ⟨a1, b1⟩ := y
        rw [h1, Option.bind_some] at h
        dsimp only at h
        have e1 : rUser1 (false, l) = (a1, (false, b1)) := by unfold rUser1; rw [e0]; exact (fits_num 4).ok b0 a1 b1 h1
        cases h3 : numP 1 b1 with
        | none => exact rBoxs_off _ _ _ (by unfold rUser2; rw [e1]; exact (fits_num 1).no b1 h3)
        | some y =>
          obtain ⟨a3, b3⟩ := y
          rw [h3, Option.bind_some] at h
          dsimp only at h
          have e3 : rUser2 (false, l) = (a3, (false, b3)) := by unfold rUser2; rw [e1]; exact (fits_num 1).ok b1 a3 b3 h3
          rw [e3]
          cases h4 : boxsP a3 b3 [] with
          | none => exact rBoxs_no a3 b3 [] h4
          | some z => rw [h4, Option.bind_some] at h; cases h
  · exact rBoxs_off _ _ _ ((fits_num 1).off _ ((fits_num 4).off _ (fits_text.off s h)))
/-- What is read of a user's bytes, as the document's reader says it. -/
theorem takeU_ref (l : List UInt8) : takeU l = if (rUser (false, l)).2.1 = true then .error 3 else if (rUser (false, l)).2.2 = [] then .ok (rUser (false, l)).1 else .error 4 := by
  cases h : userP l with
  | none => rw [takeU_none h, if_pos (fits_user.no l h)]
  | some y =>
    obtain ⟨u, r⟩ := y
    rw [takeU_some h, fits_user.ok l u r h]
    simp
end Go.Proofs.YtjljbnilckkjnaaDoor
