/- Deed: what the document's reader reads, in plain words; its states -/
import Derived.Test.YtjljbnilckkjnaaDoorGR1
import Derived.Test.YtjljbnilckkjnaaDoorGR2
namespace Go.Proofs.YtjljbnilckkjnaaDoor
open Go Go.RowKit

def rText (s : RS) : List UInt8 × RS := rCut (rNum s 1).2 (rNum s 1).1
def rBody (s : RS) : List UInt8 × RS := rCut (rNum s 2).2 (rNum s 2).1
def rLet1 (s : RS) := rNum s 4
def rLet2 (s : RS) := rNum (rLet1 s).2 1
def rLet3 (s : RS) := rBody (rLet2 s).2
def rLet (s : RS) : Letr × RS := (⟨((rLet1 s).1 : Int), UInt8.ofNat (rLet2 s).1, (rLet3 s).1⟩, (rLet3 s).2)
def rLets : Nat → RS → List Letr → List Letr × RS
  | 0, s, acc => (acc, s)
  | n + 1, s, acc => if s.1 = true then (acc, s) else rLets n (rLet s).2 (acc ++ [(rLet s).1])
def rBox1 (s : RS) := rNum (rText s).2 4
def rBox2 (s : RS) := rNum (rBox1 s).2 4
def rBox3 (s : RS) := rNum (rBox2 s).2 1
def rBox4 (s : RS) := rLets (rBox3 s).1 (rBox3 s).2 []
def rBox (s : RS) : BxD × RS := (⟨⟨(rText s).1.toArray⟩, ((rBox1 s).1 : Int), ((rBox2 s).1 : Int), (rBox4 s).1⟩, (rBox4 s).2)
def rBoxs : Nat → RS → List BxD → List BxD × RS
  | 0, s, acc => (acc, s)
  | n + 1, s, acc => if s.1 = true then (acc, s) else rBoxs n (rBox s).2 (acc ++ [(rBox s).1])
def rUser1 (s : RS) := rNum (rText s).2 4
def rUser2 (s : RS) := rNum (rUser1 s).2 1
def rUser3 (s : RS) := rBoxs (rUser2 s).1 (rUser2 s).2 []
def rUser (s : RS) : UsD × RS := (⟨⟨(rText s).1.toArray⟩, ((rUser1 s).1 : Int), (rUser3 s).1⟩, (rUser3 s).2)

/-- A step of the document's reader does what a step of the program's does. -/
structure Fits {α β : Type} (r : RS → β × RS) (f : List UInt8 → Option (α × List UInt8)) (g : α → β) : Prop where
  ok : ∀ l x l', f l = some (x, l') → r (false, l) = (g x, (false, l'))
  no : ∀ l, f l = none → (r (false, l)).2.1 = true
  off : ∀ s : RS, s.1 = true → (r s).2.1 = true
theorem fits_cut (n : Nat) : Fits (rCut · n) (cutP n) id := by
  refine ⟨fun l x l' h => ?_, fun l h => ?_, fun s h => by rw [rCut_bad (Or.inl h)]⟩
  · unfold cutP at h
    split at h
    · simp only [Option.some.injEq, Prod.mk.injEq] at h
      obtain ⟨rfl, rfl⟩ := h
      exact rCut_good (s := (false, l)) (by rintro (h | h); · cases h
                                            · simp only at h; omega)
    · cases h
  · unfold cutP at h
    split at h
    · cases h
    · show (rCut (false, l) n).2.1 = true
      rw [rCut_bad (Or.inr (by simp only; omega))]
theorem fits_num (n : Nat) : Fits (rNum · n) (numP n) id := by
  refine ⟨fun l x l' h => ?_, fun l h => ?_, fun s h => by show (rCut s n).2.1 = true; rw [rCut_bad (Or.inl h)]⟩
  · unfold numP at h
    split at h
    · simp only [Option.some.injEq, Prod.mk.injEq] at h
      obtain ⟨rfl, rfl⟩ := h
      show rNum (false, l) n = _
      unfold rNum
      rw [rCut_good (s := (false, l)) (by rintro (h | h)
                                          · cases h
                                          · simp only at h; omega)]
      rfl
    · cases h
  · unfold numP at h
    split at h
    · cases h
    · show (rCut (false, l) n).2.1 = true
      rw [rCut_bad (Or.inr (by simp only; omega))]
theorem off_of {α β : Type} {r : RS → β × RS} {f : List UInt8 → Option (α × List UInt8)} {g : α → β} (h : Fits r f g) {s : RS} (hs : s.1 = true) : (r s).2.1 = true := h.off s hs
theorem state_eq (s : RS) (h : s.1 = false) : s = (false, s.2) := by obtain ⟨a, b⟩ := s; simp only at h; subst h; rfl
theorem fits_text : Fits rText textP id := by
  refine ⟨fun l x l' h => ?_, fun l h => ?_, fun s h => ?_⟩
  · unfold textP at h
    obtain ⟨⟨n, l1⟩, h1, h2⟩ := Option.bind_eq_some_iff.1 h
    have e1 := (fits_num 1).ok l n l1 h1
    unfold rText
    rw [e1]
    exact (fits_cut n).ok l1 x l' h2
  · unfold textP at h
    show (rCut (rNum (false, l) 1).2 (rNum (false, l) 1).1).2.1 = true
    cases hn : numP 1 l with
    | none => exact (fits_cut _).off _ ((fits_num 1).no l hn)
    | some y =>
      obtain ⟨n, l1⟩ := y
      rw [hn, Option.bind_some] at h
      have e1 := (fits_num 1).ok l n l1 hn
      rw [e1]
      exact (fits_cut n).no l1 h
  · exact (fits_cut _).off _ ((fits_num 1).off s h)
theorem fits_body : Fits rBody bodyP id := by
  refine ⟨fun l x l' h => ?_, fun l h => ?_, fun s h => ?_⟩
  · unfold bodyP at h
    obtain ⟨⟨n, l1⟩, h1, h2⟩ := Option.bind_eq_some_iff.1 h
    have e1 := (fits_num 2).ok l n l1 h1
    unfold rBody
    rw [e1]
    exact (fits_cut n).ok l1 x l' h2
  · unfold bodyP at h
    show (rCut (rNum (false, l) 2).2 (rNum (false, l) 2).1).2.1 = true
    cases hn : numP 2 l with
    | none => exact (fits_cut _).off _ ((fits_num 2).no l hn)
    | some y =>
      obtain ⟨n, l1⟩ := y
      rw [hn, Option.bind_some] at h
      have e1 := (fits_num 2).ok l n l1 hn
      rw [e1]
      exact (fits_cut n).no l1 h
  · exact (fits_cut _).off _ ((fits_num 2).off s h)
theorem fits_let : Fits rLet letP id := by
  refine ⟨fun l x l' h => ?_, fun l h => ?_, fun s h => ?_⟩
  · unfold letP at h
    simp only [Option.bind_eq_some_iff] at h
    obtain ⟨⟨a0, b0⟩, h0, ⟨a1, b1⟩, h1, ⟨a2, b2⟩, h2, h10⟩ := h
    simp only [Option.some.injEq, Prod.mk.injEq] at h10
    obtain ⟨rfl, rfl⟩ := h10
    have e0 : rLet1 (false, l) = (a0, (false, b0)) := (fits_num 4).ok l a0 b0 h0
    have e1 : rLet2 (false, l) = (a1, (false, b1)) := by unfold rLet2; rw [e0]; exact (fits_num 1).ok b0 a1 b1 h1
    have e2 : rLet3 (false, l) = (a2, (false, b2)) := by unfold rLet3; rw [e1]; exact fits_body.ok b1 a2 b2 h2
    unfold rLet
    rw [e0, e1, e2]
    rfl
  · unfold letP at h
    show (rLet3 (false, l)).2.1 = true
    cases h0 : numP 4 l with
    | none => exact fits_body.off _ ((fits_num 1).off _ ((fits_num 4).no l h0))
    | some y =>
      obtain ⟨a0, b0⟩ := y
      rw [h0, Option.bind_some] at h
      have e0 : rLet1 (false, l) = (a0, (false, b0)) := (fits_num 4).ok l a0 b0 h0
      dsimp only at h
      cases h1 : numP 1 b0 with
      | none => exact fits_body.off _ (by unfold rLet2; rw [e0]; exact (fits_num 1).no b0 h1)
      | some z =>
        obtain ⟨a1, b1⟩ := z
        rw [h1, Option.bind_some] at h
        have e1 : rLet2 (false, l) = (a1, (false, b1)) := by unfold rLet2; rw [e0]; exact (fits_num 1).ok b0 a1 b1 h1
        dsimp only at h
        cases h2 : bodyP b1 with
        | none => unfold rLet3; rw [e1]; exact fits_body.no b1 h2
        | some z2 => rw [h2, Option.bind_some] at h; cases h
  · exact fits_body.off _ ((fits_num 1).off _ ((fits_num 4).off s h))
theorem rLets_off (n : Nat) (s : RS) (acc : List Letr) (h : s.1 = true) : (rLets n s acc).2.1 = true := by
  cases n with
  | zero => exact h
  | succ n => unfold rLets; rw [if_pos h]; exact h
theorem rLets_ok : ∀ (n : Nat) (l l' : List UInt8) (acc x : List Letr), letsP n l acc = some (x, l') → rLets n (false, l) acc = (x, (false, l'))
  | 0, l, l', acc, x, h => by
    unfold letsP at h
    simp only [Option.some.injEq, Prod.mk.injEq] at h
    obtain ⟨rfl, rfl⟩ := h
    rfl
  | n + 1, l, l', acc, x, h => by
    unfold letsP at h
    obtain ⟨⟨y, l1⟩, h1, h2⟩ := Option.bind_eq_some_iff.1 h
    unfold rLets
    rw [if_neg (by simp), fits_let.ok l y l1 h1]
    exact rLets_ok n l1 l' _ x h2
theorem rLets_no : ∀ (n : Nat) (l : List UInt8) (acc : List Letr), letsP n l acc = none → (rLets n (false, l) acc).2.1 = true
  | 0, l, acc, h => by unfold letsP at h; cases h
  | n + 1, l, acc, h => by
    unfold letsP at h
    unfold rLets
    rw [if_neg (by simp)]
    cases h1 : letP l with
    | none => exact rLets_off n _ _ (fits_let.no l h1)
    | some y =>
      obtain ⟨y, l1⟩ := y
      rw [h1, Option.bind_some] at h
      rw [fits_let.ok l y l1 h1]
      exact rLets_no n l1 _ h
theorem fits_box : Fits rBox boxP id := by
  refine ⟨fun l x l' h => ?_, fun l h => ?_, fun s h => ?_⟩
  · unfold boxP at h
    simp only [Option.bind_eq_some_iff] at h
    obtain ⟨⟨a0, b0⟩, h0, ⟨a1, b1⟩, h1, ⟨a2, b2⟩, h2, ⟨a3, b3⟩, h3, ⟨a4, b4⟩, h4, h10⟩ := h
    simp only [Option.some.injEq, Prod.mk.injEq] at h10
    obtain ⟨rfl, rfl⟩ := h10
    have e0 : rText (false, l) = (a0, (false, b0)) := fits_text.ok l a0 b0 h0
    have e1 : rBox1 (false, l) = (a1, (false, b1)) := by unfold rBox1; rw [e0]; exact (fits_num 4).ok b0 a1 b1 h1
    have e2 : rBox2 (false, l) = (a2, (false, b2)) := by unfold rBox2; rw [e1]; exact (fits_num 4).ok b1 a2 b2 h2
    have e3 : rBox3 (false, l) = (a3, (false, b3)) := by unfold rBox3; rw [e2]; exact (fits_num 1).ok b2 a3 b3 h3
    have e4 : rBox4 (false, l) = (a4, (false, b4)) := by unfold rBox4; rw [e3]; exact rLets_ok a3 b3 b4 [] a4 h4
    unfold rBox
    rw [e0, e1, e2, e4]
    rfl
  · unfold boxP at h
    show (rBox4 (false, l)).2.1 = true
    unfold rBox4
    cases h0 : textP l with
    | none => exact rLets_off _ _ _ ((fits_num 1).off _ ((fits_num 4).off _ ((fits_num 4).off _ (fits_text.no l h0))))
    | some y =>
      obtain ⟨a0, b0⟩ := y
      rw [h0, Option.bind_some] at h
      dsimp only at h
      have e0 : rText (false, l) = (a0, (false, b0)) := fits_text.ok l a0 b0 h0
      cases h1 : numP 4 b0 with
      | none => exact rLets_off _ _ _ ((fits_num 1).off _ ((fits_num 4).off _ (by unfold rBox1; rw [e0]; exact (fits_num 4).no b0 h1)))
      | some y =>
        obtain ⟨a1, b1⟩ := y
        rw [h1, Option.bind_some] at h
        dsimp only at h
        have e1 : rBox1 (false, l) = (a1, (false, b1)) := by unfold rBox1; rw [e0]; exact (fits_num 4).ok b0 a1 b1 h1
        cases h2 : numP 4 b1 with
        | none => exact rLets_off _ _ _ ((fits_num 1).off _ (by unfold rBox2; rw [e1]; exact (fits_num 4).no b1 h2))
        | some y =>
          obtain ⟨a2, b2⟩ := y
          rw [h2, Option.bind_some] at h
          dsimp only at h
          have e2 : rBox2 (false, l) = (a2, (false, b2)) := by unfold rBox2; rw [e1]; exact (fits_num 4).ok b1 a2 b2 h2
          cases h3 : numP 1 b2 with
          | none => exact rLets_off _ _ _ (by unfold rBox3; rw [e2]; exact (fits_num 1).no b2 h3)
          | some y =>
            obtain ⟨a3, b3⟩ := y
            rw [h3, Option.bind_some] at h
            dsimp only at h
            have e3 : rBox3 (false, l) = (a3, (false, b3)) := by unfold rBox3; rw [e2]; exact (fits_num 1).ok b2 a3 b3 h3
            rw [e3]
            cases h4 : letsP a3 b3 [] with
            | none => exact rLets_no a3 b3 [] h4
            | some z => rw [h4, Option.bind_some] at h; cases h
  · exact rLets_off _ _ _ ((fits_num 1).off _ ((fits_num 4).off _ ((fits_num 4).off _ (fits_text.off s h))))
theorem rBoxs_off (n : Nat) (s : RS) (acc : List BxD) (h : s.1 = true) : (rBoxs n s acc).2.1 = true := by
  cases n with
  | zero => exact h
  | succ n => unfold rBoxs; rw [if_pos h]; exact h
theorem rBoxs_ok : ∀ (n : Nat) (l l' : List UInt8) (acc x : List BxD), boxsP n l acc = some (x, l') → rBoxs n (false, l) acc = (x, (false, l'))
  | 0, l, l', acc, x, h => by
    unfold boxsP at h
    simp only [Option.some.injEq, Prod.mk.injEq] at h
    obtain ⟨rfl, rfl⟩ := h
    rfl
  | n + 1, l, l', acc, x, h => by
    unfold boxsP at h
    obtain ⟨⟨y, l1⟩, h1, h2⟩ := Option.bind_eq_some_iff.1 h
    unfold rBoxs
    rw [if_neg (by simp), fits_box.ok l y l1 h1]
    exact rBoxs_ok n l1 l' _ x h2
theorem rBoxs_no : ∀ (n : Nat) (l : List UInt8) (acc : List BxD), boxsP n l acc = none → (rBoxs n (false, l) acc).2.1 = true
  | 0, l, acc, h => by unfold boxsP at h; cases h
  | n + 1, l, acc, h => by
    unfold boxsP at h
    unfold rBoxs
    rw [if_neg (by simp)]
    cases h1 : boxP l with
    | none => exact rBoxs_off n _ _ (fits_box.no l h1)
    | some y =>
      obtain ⟨y, l1⟩ := y
      rw [h1, Option.bind_some] at h
      rw [fits_box.ok l y l1 h1]
      exact rBoxs_no n l1 _ h
theorem fits_user : Fits rUser userP id := by
  refine ⟨fun l x l' h => ?_, fun l h => ?_, fun s h => ?_⟩
  · unfold userP at h
    simp only [Option.bind_eq_some_iff] at h
    obtain ⟨⟨a0, b0⟩, h0, ⟨a1, b1⟩, h1, ⟨a3, b3⟩, h3, ⟨a4, b4⟩, h4, h10⟩ := h
    simp only [Option.some.injEq, Prod.mk.injEq] at h10
    obtain ⟨rfl, rfl⟩ := h10
    have e0 : rText (false, l) = (a0, (false, b0)) := fits_text.ok l a0 b0 h0
    have e1 : rUser1 (false, l) = (a1, (false, b1)) := by unfold rUser1; rw [e0]; exact (fits_num 4).ok b0 a1 b1 h1
    have e3 : rUser2 (false, l) = (a3, (false, b3)) := by unfold rUser2; rw [e1]; exact (fits_num 1).ok b1 a3 b3 h3
    have e4 : rUser3 (false, l) = (a4, (false, b4)) := by unfold rUser3; rw [e3]; exact rBoxs_ok a3 b3 b4 [] a4 h4
    unfold rUser
    rw [e0, e1, e4]
    rfl
  · unfold userP at h
    show (rUser3 (false, l)).2.1 = true
    unfold rUser3
    cases h0 : textP l with
    | none => exact rBoxs_off _ _ _ ((fits_num 1).off _ ((fits_num 4).off _ (fits_text.no l h0)))
    | some y =>
      obtain ⟨a0, b0⟩ := y
      rw [h0, Option.bind_some] at h
      dsimp only at h
      have e0 : rText (false, l) = (a0, (false, b0)) := fits_text.ok l a0 b0 h0
      cases h1 : numP 4 b0 with
      | none => exact rBoxs_off _ _ _ ((fits_num 1).off _ (by unfold rUser1; rw [e0]; exact (fits_num 4).no b0 h1))
      | some y =>
        obtain ⟨a1, b1⟩ := y
        rw [h1, Option.bind_some] at h
        dsimp only at h
        have e1 : rUser1 (false, l) = (a1, (false, b1)) := by unfold rUser1; rw [e0]; exact (fits_num 4).ok b0 a1 b1 h1
        cases h3 : numP 1 b1 with
        | none => exact rBoxs_off _ _ _ (by unfold rUser2; rw [e1]; exact (fits_num 1).no b1 h3)
        | some y =>
          obtain ⟨a3, b3⟩ := y
          rw [h3, Option.bind_some] at h
          dsimp only at h
          have e3 : rUser2 (false, l) = (a3, (false, b3)) := by unfold rUser2; rw [e1]; exact (fits_num 1).ok b1 a3 b3 h3
          rw [e3]
          cases h4 : boxsP a3 b3 [] with
          | none => exact rBoxs_no a3 b3 [] h4
          | some z => rw [h4, Option.bind_some] at h; cases h
  · exact rBoxs_off _ _ _ ((fits_num 1).off _ ((fits_num 4).off _ (fits_text.off s h)))
/-- What is read of a user's bytes, as the document's reader says it. -/
theorem takeU_ref (l : List UInt8) : takeU l = if (rUser (false, l)).2.1 = true then .error 3 else if (rUser (false, l)).2.2 = [] then .ok (rUser (false, l)).1 else .error 4 := by
  cases h : userP l with
  | none => rw [takeU_none h, if_pos (fits_user.no l h)]
  | some y =>
    obtain ⟨u, r⟩ := y
    rw [takeU_some h, fits_user.ok l u r h]
    simp
end Go.Proofs.YtjljbnilckkjnaaDoor
namespace Go.Proofs.YtjljbnilckkjnaaDoor
open Go Go.RowKit

def rD0 (s : RS) := rNum s 1
def rD1 (s : RS) := rText (rD0 s).2
def rD2 (s : RS) := rText (rD1 s).2
def rD3 (s : RS) := rText (rD2 s).2
def rD4 (s : RS) := rNum (rD3 s).2 4
def rD5 (s : RS) := rNum (rD4 s).2 1
def rD6 (s : RS) := rNum (rD5 s).2 1
def rD7 (s : RS) := rNum (rD6 s).2 1
def rD8 (s : RS) := rNum (rD7 s).2 4
def rD9 (s : RS) := rBody (rD8 s).2
def rDeed (s : RS) : Dd × RS := (⟨(rD0 s).1, ⟨(rD1 s).1.toArray⟩, ⟨(rD2 s).1.toArray⟩, ⟨(rD3 s).1.toArray⟩, (rD4 s).1, (rD5 s).1, UInt8.ofNat (rD6 s).1, (rD7 s).1, (rD8 s).1, (rD9 s).1⟩, (rD9 s).2)
theorem offD9 {s : RS} (h : (rD9 s).2.1 = true) : (rD9 s).2.1 = true := h
theorem offD8 {s : RS} (h : (rD8 s).2.1 = true) : (rD9 s).2.1 = true := offD9 (fits_body.off _ h)
theorem offD7 {s : RS} (h : (rD7 s).2.1 = true) : (rD9 s).2.1 = true := offD8 ((fits_num 4).off _ h)
theorem offD6 {s : RS} (h : (rD6 s).2.1 = true) : (rD9 s).2.1 = true := offD7 ((fits_num 1).off _ h)
theorem offD5 {s : RS} (h : (rD5 s).2.1 = true) : (rD9 s).2.1 = true := offD6 ((fits_num 1).off _ h)
theorem offD4 {s : RS} (h : (rD4 s).2.1 = true) : (rD9 s).2.1 = true := offD5 ((fits_num 1).off _ h)
theorem offD3 {s : RS} (h : (rD3 s).2.1 = true) : (rD9 s).2.1 = true := offD4 ((fits_num 4).off _ h)
theorem offD2 {s : RS} (h : (rD2 s).2.1 = true) : (rD9 s).2.1 = true := offD3 (fits_text.off _ h)
theorem offD1 {s : RS} (h : (rD1 s).2.1 = true) : (rD9 s).2.1 = true := offD2 (fits_text.off _ h)
theorem offD0 {s : RS} (h : (rD0 s).2.1 = true) : (rD9 s).2.1 = true := offD1 (fits_text.off _ h)
theorem fits_deed : Fits rDeed deedP id := by
  refine ⟨fun l x l' h => ?_, fun l h => ?_, fun s h => offD0 ((fits_num 1).off s h)⟩
  · unfold deedP at h
    simp only [Option.bind_eq_some_iff] at h
    obtain ⟨⟨a0, b0⟩, h0, ⟨a1, b1⟩, h1, ⟨a2, b2⟩, h2, ⟨a3, b3⟩, h3, ⟨a4, b4⟩, h4, ⟨a5, b5⟩, h5, ⟨a6, b6⟩, h6, ⟨a7, b7⟩, h7, ⟨a8, b8⟩, h8, ⟨a9, b9⟩, h9, h10⟩ := h
    simp only [Option.some.injEq, Prod.mk.injEq] at h10
    obtain ⟨rfl, rfl⟩ := h10
    have e0 : rD0 (false, l) = (a0, (false, b0)) := (fits_num 1).ok l a0 b0 h0
    have e1 : rD1 (false, l) = (a1, (false, b1)) := by unfold rD1; rw [e0]; exact fits_text.ok b0 a1 b1 h1
    have e2 : rD2 (false, l) = (a2, (false, b2)) := by unfold rD2; rw [e1]; exact fits_text.ok b1 a2 b2 h2
    have e3 : rD3 (false, l) = (a3, (false, b3)) := by unfold rD3; rw [e2]; exact fits_text.ok b2 a3 b3 h3
    have e4 : rD4 (false, l) = (a4, (false, b4)) := by unfold rD4; rw [e3]; exact (fits_num 4).ok b3 a4 b4 h4
    have e5 : rD5 (false, l) = (a5, (false, b5)) := by unfold rD5; rw [e4]; exact (fits_num 1).ok b4 a5 b5 h5
    have e6 : rD6 (false, l) = (a6, (false, b6)) := by unfold rD6; rw [e5]; exact (fits_num 1).ok b5 a6 b6 h6
    have e7 : rD7 (false, l) = (a7, (false, b7)) := by unfold rD7; rw [e6]; exact (fits_num 1).ok b6 a7 b7 h7
    have e8 : rD8 (false, l) = (a8, (false, b8)) := by unfold rD8; rw [e7]; exact (fits_num 4).ok b7 a8 b8 h8
    have e9 : rD9 (false, l) = (a9, (false, b9)) := by unfold rD9; rw [e8]; exact fits_body.ok b8 a9 b9 h9
    unfold rDeed
    rw [e0, e1, e2, e3, e4, e5, e6, e7, e8, e9]
    rfl
  · unfold deedP at h
    show (rD9 (false, l)).2.1 = true
    cases h0 : numP 1 l with
    | none => exact offD0 ((fits_num 1).no l h0)
    | some y =>
      obtain ⟨a0, b0⟩ := y
      rw [h0, Option.bind_some] at h
      dsimp only at h
      have e0 : rD0 (false, l) = (a0, (false, b0)) := (fits_num 1).ok l a0 b0 h0
      cases h1 : textP b0 with
      | none => exact offD1 (by unfold rD1; rw [e0]; exact fits_text.no b0 h1)
      | some y =>
        obtain ⟨a1, b1⟩ := y
        rw [h1, Option.bind_some] at h
        dsimp only at h
        have e1 : rD1 (false, l) = (a1, (false, b1)) := by unfold rD1; rw [e0]; exact fits_text.ok b0 a1 b1 h1
        cases h2 : textP b1 with
        | none => exact offD2 (by unfold rD2; rw [e1]; exact fits_text.no b1 h2)
        | some y =>
          obtain ⟨a2, b2⟩ := y
          rw [h2, Option.bind_some] at h
          dsimp only at h
          have e2 : rD2 (false, l) = (a2, (false, b2)) := by unfold rD2; rw [e1]; exact fits_text.ok b1 a2 b2 h2
          cases h3 : textP b2 with
          | none => exact offD3 (by unfold rD3; rw [e2]; exact fits_text.no b2 h3)
          | some y =>
            obtain ⟨a3, b3⟩ := y
            rw [h3, Option.bind_some] at h
            dsimp only at h
            have e3 : rD3 (false, l) = (a3, (false, b3)) := by unfold rD3; rw [e2]; exact fits_text.ok b2 a3 b3 h3
            cases h4 : numP 4 b3 with
            | none => exact offD4 (by unfold rD4; rw [e3]; exact (fits_num 4).no b3 h4)
            | some y =>
              obtain ⟨a4, b4⟩ := y
              rw [h4, Option.bind_some] at h
              dsimp only at h
              have e4 : rD4 (false, l) = (a4, (false, b4)) := by unfold rD4; rw [e3]; exact (fits_num 4).ok b3 a4 b4 h4
              cases h5 : numP 1 b4 with
              | none => exact offD5 (by unfold rD5; rw [e4]; exact (fits_num 1).no b4 h5)
              | some y =>
                obtain ⟨a5, b5⟩ := y
                rw [h5, Option.bind_some] at h
                dsimp only at h
                have e5 : rD5 (false, l) = (a5, (false, b5)) := by unfold rD5; rw [e4]; exact (fits_num 1).ok b4 a5 b5 h5
                cases h6 : numP 1 b5 with
                | none => exact offD6 (by unfold rD6; rw [e5]; exact (fits_num 1).no b5 h6)
                | some y =>
                  obtain ⟨a6, b6⟩ := y
                  rw [h6, Option.bind_some] at h
                  dsimp only at h
                  have e6 : rD6 (false, l) = (a6, (false, b6)) := by unfold rD6; rw [e5]; exact (fits_num 1).ok b5 a6 b6 h6
                  cases h7 : numP 1 b6 with
                  | none => exact offD7 (by unfold rD7; rw [e6]; exact (fits_num 1).no b6 h7)
                  | some y =>
                    obtain ⟨a7, b7⟩ := y
                    rw [h7, Option.bind_some] at h
                    dsimp only at h
                    have e7 : rD7 (false, l) = (a7, (false, b7)) := by unfold rD7; rw [e6]; exact (fits_num 1).ok b6 a7 b7 h7
                    cases h8 : numP 4 b7 with
                    | none => exact offD8 (by unfold rD8; rw [e7]; exact (fits_num 4).no b7 h8)
                    | some y =>
                      obtain ⟨a8, b8⟩ := y
                      rw [h8, Option.bind_some] at h
                      dsimp only at h
                      have e8 : rD8 (false, l) = (a8, (false, b8)) := by unfold rD8; rw [e7]; exact (fits_num 4).ok b7 a8 b8 h8
                      cases h9 : bodyP b8 with
                      | none => exact offD9 (by unfold rD9; rw [e8]; exact fits_body.no b8 h9)
                      | some y =>
                        rw [h9, Option.bind_some] at h; cases h
end Go.Proofs.YtjljbnilckkjnaaDoor
namespace Go.Proofs.YtjljbnilckkjnaaDoor
open Go Go.RowKit

/-- A reader, what it reads lies below N. -/
structure RdS (w : World) (N D : Nat) (sv : Value) (s : RS) : Prop where
  rd : Rd w D sv s
  ob : ∀ g, sv.ownBlock = some g → s.2 ≠ [] → g < N
  len : s.2.length ≤ 9223372036854775807
theorem RdS.fr {o : Nat → Prop} {w w' : World} {N D : Nat} {sv : Value} {s : RS} (h : RdS w N D sv s) (hf : Fr o w w') (ho : ∀ k, k < w.heap.size → o k → N ≤ k ∧ k ≠ D) : RdS w' N D sv s :=
  ⟨h.rd.fr hf (fun e => (ho D h.rd.lt e).2 rfl) (fun g hg hn e => by have h1 := h.ob g hg hn; have h2 := (ho g (h.rd.byz.lt g hg hn) e).1; omega), h.ob, h.len⟩
theorem RdS.below {w w' : World} {N D : Nat} {sv : Value} {s : RS} (h : RdS w N D sv s) (hb : Below w.heap.size w w') : RdS w' N D sv s :=
  ⟨⟨(hb.block D h.rd.lt).trans h.rd.blk, h.rd.byz.below hb, h.rd.ne⟩, h.ob, h.len⟩
def RsN (w : World) (N D : Nat) (s : RS) (n : Nat) (e : Ending) (w' : World) : Prop := ∃ sv', e = .returned (.int .i64 ((rNum s n).1 : Int)) ∧ RdS w' N D sv' (rNum s n).2 ∧ Fr (· = D) w w'
def RsC (w : World) (N D : Nat) (s : RS) (n : Nat) (e : Ending) (w' : World) : Prop := ∃ pv sv', e = .returned pv ∧ Row w.heap.size w' pv (rCut s n).1 ∧ RdS w' N D sv' (rCut s n).2 ∧ Fr (· = D) w w'
theorem ob_next {N : Nat} {sv sv' : Value} {s : RS} {n : Nat} (h : ∀ g, sv.ownBlock = some g → s.2 ≠ [] → g < N) (ho : sv'.ownBlock = sv.ownBlock) : ∀ g, sv'.ownBlock = some g → (rCut s n).2.2 ≠ [] → g < N := fun g hg hn =>
  h g (by rw [← ho]; exact hg) (fun e => hn (List.eq_nil_of_length_eq_zero (by have := (rCut_len s n).2; rw [e] at this; simpa using this)))
theorem rs_num (w : World) (N D : Nat) (sv : Value) (s : RS) (n : Nat) (h : RdS w N D sv s) (hn4 : n ≤ 4) :
    Calls Tryd.prog 49 #[.pointer (some ⟨D, 0, none⟩), .int .i64 (n : Int)] w (RsN w N D s n) := by
  refine (rnum_any w D sv s n h.rd h.len hn4).mono fun e w' ⟨sv', he, hr, ho, hf⟩ => ⟨sv', he, ⟨hr, ob_next h.ob ho, ?_⟩, hf⟩
  have := (rCut_len s n).2
  have h1 := h.len
  show (rCut s n).2.2.length ≤ _
  omega
theorem rs_cut (w : World) (N D : Nat) (sv : Value) (s : RS) (n : Nat) (h : RdS w N D sv s) (hn5 : n ≤ 100000) :
    Calls Tryd.prog 50 #[.pointer (some ⟨D, 0, none⟩), .int .i64 (n : Int)] w (RsC w N D s n) := by
  refine (rcut_any w D sv s n h.rd h.len hn5).mono fun e w' ⟨pv, sv', he, hp, hr, ho, hf⟩ => ⟨pv, sv', he, hp, ⟨hr, ob_next h.ob ho, ?_⟩, hf⟩
  have := (rCut_len s n).2
  have h1 := h.len
  omega
theorem rLets_stop (n : Nat) (s : RS) (acc : List Letr) (h : n = 0 ∨ s.1 = true) : rLets n s acc = (acc, s) := by
  rcases h with rfl | h
  · rfl
  · cases n with
    | zero => rfl
    | succ n => unfold rLets; rw [if_pos h]
theorem rLets_go (n : Nat) (s : RS) (acc : List Letr) (h : s.1 = false) : rLets (n + 1) s acc = rLets n (rLet s).2 (acc ++ [(rLet s).1]) := by
  rw [rLets, if_neg (by rw [h]; simp)]
theorem rBoxs_stop (n : Nat) (s : RS) (acc : List BxD) (h : n = 0 ∨ s.1 = true) : rBoxs n s acc = (acc, s) := by
  rcases h with rfl | h
  · rfl
  · cases n with
    | zero => rfl
    | succ n => unfold rBoxs; rw [if_pos h]
theorem rBoxs_go (n : Nat) (s : RS) (acc : List BxD) (h : s.1 = false) : rBoxs (n + 1) s acc = rBoxs n (rBox s).2 (acc ++ [(rBox s).1]) := by
  rw [rBoxs, if_neg (by rw [h]; simp)]
theorem u8_wrap (x : Nat) (h : x < 256) : IntKind.u8.wrap (x : Int) = ((UInt8.ofNat x).toNat : Int) := by
  have : (UInt8.ofNat x).toNat = x := by simp only [UInt8.toNat_ofNat']; omega
  rw [this]
  show ((x : Int) % 256) = (x : Int)
  omega
def zUs : Array Value := #[.string ⟨#[]⟩, .int .i64 0, .slice none 0 0]
/-- The state of the outer loop. -/
structure OutS (w0 wr : World) (D V : Nat) (sv : Value) (s : RS) (name : ByteArray) (valid : Int) (lv : Value) (bs : List Bx) : Prop where
  rd : RdS wr w0.heap.size D sv s
  var : wr.heap[V]? = some (.cells #[.string name, .int .i64 valid, lv] 43 (0, 0))
  bsat : BsAt (V + 1) wr lv bs
  res : wr.heap[w0.heap.size]? = some (.cells #[.string ⟨#[]⟩, .int .i64 0, .slice none 0 0] 43 (0, 0))
  below : Below w0.heap.size w0 wr
/-- The state of the inner loop. -/
structure InS (w0 wX wr : World) (D X : Nat) (sv : Value) (s : RS) (bn : ByteArray) (bv bx : Int) (lv : Value) (ls : List LV) : Prop where
  rd : RdS wr w0.heap.size D sv s
  box : wr.heap[X]? = some (.cells #[.string bn, .int .i64 bv, .int .i64 bx, lv] 52 (0, 0))
  lsat : LsAt (X + 1) wr lv ls
  fr : Fr (fun k => k = D ∨ X ≤ k) wX wr
theorem InS.read {w0 wX wr w' : World} {D X : Nat} {sv sv' : Value} {s s' : RS} {bn : ByteArray} {bv bx : Int} {lv : Value} {ls : List LV} (h : InS w0 wX wr D X sv s bn bv bx lv ls) (hD : D < X) (hr : RdS w' w0.heap.size D sv' s') (hf : Fr (· = D) wr w') : InS w0 wX w' D X sv' s' bn bv bx lv ls :=
  ⟨hr, (hf.block X (Array.getElem?_eq_some_iff.1 h.box).1 (by omega)).trans h.box, h.lsat.fr hf (fun g e => Or.inl (by omega)), h.fr.trans hf (fun _ _ h => h) (fun _ _ h => Or.inl h)⟩
theorem InS.new {w0 wX wr w' : World} {D X : Nat} {sv : Value} {s : RS} {bn : ByteArray} {bv bx : Int} {lv : Value} {ls : List LV} (h : InS w0 wX wr D X sv s bn bv bx lv ls) (hb : Below wr.heap.size wr w') : InS w0 wX w' D X sv s bn bv bx lv ls :=
  ⟨h.rd.below hb, (hb.block X (Array.getElem?_eq_some_iff.1 h.box).1).trans h.box, h.lsat.fr (Fr.of_below (fun _ => False) hb) (fun _ e => e.elim), h.fr.trans (Fr.of_below (fun _ => False) hb) (fun _ _ h => h) (fun _ _ h => h.elim)⟩
/-- A cell of a block that is nobody's is laid. -/
theorem InS.put {w0 wX wr : World} {D X Y : Nat} {sv : Value} {s : RS} {bn : ByteArray} {bv bx : Int} {lv : Value} {ls : List LV} (h : InS w0 wX wr D X sv s bn bv bx lv ls) (hN : w0.heap.size ≤ X) (hD : D < X) (hY : X < Y) (hls : ∀ g, (lv.ownBlock = some g ∨ ∃ p ∈ ls, p.2.ownBlock = some g) → g ≠ Y) (j : Nat) (u : Value) : InS w0 wX (wr.setCell ⟨Y, j, none⟩ u) D X sv s bn bv bx lv ls := by
  have hf : Fr (· = Y) wr (wr.setCell ⟨Y, j, none⟩ u) := (Fr.refl (· = Y) wr).setCell ⟨Y, j, none⟩ (Or.inl rfl) u
  refine ⟨h.rd.fr hf (fun k _ e => by omega), (hf.block X (Array.getElem?_eq_some_iff.1 h.box).1 (by omega)).trans h.box, ?_, h.fr.trans hf (fun _ _ h => h) (fun k _ e => Or.inr (by omega))⟩
  have hk : ∀ g, g < wr.heap.size → g ≠ Y → (wr.setCell ⟨Y, j, none⟩ u).heap[g]? = wr.heap[g]? := fun g hg hn => hf.block g hg hn
  exact ⟨owns_frame h.lsat.own (fun g hg => hk g (World.ownsRow.lt h.lsat.own g hg).2 (hls g (Or.inl hg))), fun p hp => (h.lsat.rows p hp).kept hf.size (fun g hg => hk g ((h.lsat.rows p hp).1.lt g hg) (hls g (Or.inr ⟨p, hp, hg⟩))), h.lsat.ne⟩
theorem OutS.read {w0 wr w' : World} {D V : Nat} {sv sv' : Value} {s s' : RS} {name : ByteArray} {valid : Int} {lv : Value} {bs : List Bx} (h : OutS w0 wr D V sv s name valid lv bs) (hD : w0.heap.size < D ∧ D < V) (hr : RdS w' w0.heap.size D sv' s') (hf : Fr (· = D) wr w') : OutS w0 w' D V sv' s' name valid lv bs :=
  ⟨hr, (hf.block V (Array.getElem?_eq_some_iff.1 h.var).1 (by omega)).trans h.var, h.bsat.fr hf (fun g e => Or.inl (by omega)), (hf.block _ (Array.getElem?_eq_some_iff.1 h.res).1 (by omega)).trans h.res, h.below.trans (hf.below h.below.size (fun k e => by omega))⟩
end Go.Proofs.YtjljbnilckkjnaaDoor
