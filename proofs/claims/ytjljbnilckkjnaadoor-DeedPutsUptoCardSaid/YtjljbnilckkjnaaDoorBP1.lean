/- Boxes: what Check, Size, Add, Flag, Cut tell, in plain words. No program, no walk. -/
import Derived.Test.YtjljbnilckkjnaaDoorBZ
namespace Go.Proofs.YtjljbnilckkjnaaDoor
open Go Go.RowKit

/-- Check, letter by letter. -/
def chkL (next : Int) : Int → List Letr → Int
  | _, [] => 0
  | last, x :: t => if x.uid ≤ last ∨ next ≤ x.uid then 4 else if 32 ≤ x.flags.toNat then 2 else if 600 < x.bytes.length then 6 else chkL next x.uid t
def badN (n : Int) : Prop := n < 1 ∨ 4294967295 < n
instance (n : Int) : Decidable (badN n) := by unfold badN; infer_instance
def chk (valid next : Int) (l : List Letr) : Int := if badN valid ∨ badN next then 2 else if 32 < l.length then 8 else chkL next 0 l
/-- How many bytes the letters have, as a sum of the machine's. -/
def szF (n : Int) (l : List Letr) : Int := l.foldl (fun n x => wrap64 (n + (x.bytes.length : Int))) n
theorem szF_snoc (n : Int) (l : List Letr) (x : Letr) : szF n (l ++ [x]) = wrap64 (szF n l + (x.bytes.length : Int)) := by simp [szF]

/-- What is right of a box that Check calls right. -/
structure Right (next : Int) (last : Int) (l : List Letr) : Prop where
  uid : ∀ x ∈ l, last < x.uid ∧ x.uid < next
  flags : ∀ x ∈ l, x.flags.toNat < 32
  bytes : ∀ x ∈ l, x.bytes.length ≤ 600
  rise : l.Pairwise fun x y => x.uid < y.uid
theorem chkL_right (next : Int) : ∀ (l : List Letr) (last : Int), chkL next last l = 0 → Right next last l
  | [], last, _ => ⟨fun _ h => by simp at h, fun _ h => by simp at h, fun _ h => by simp at h, List.Pairwise.nil⟩
  | x :: t, last, h => by
    unfold chkL at h
    split at h
    · cases h
    · rename_i h1
      split at h
      · cases h
      · rename_i h2
        split at h
        · cases h
        · rename_i h3
          have ih := chkL_right next t x.uid h
          refine ⟨fun y hy => ?_, fun y hy => ?_, fun y hy => ?_, List.pairwise_cons.2 ⟨fun y hy => (ih.uid y hy).1, ih.rise⟩⟩
          · rcases List.mem_cons.1 hy with rfl | hy
            · omega
            · have := ih.uid y hy; omega
          · rcases List.mem_cons.1 hy with rfl | hy
            · omega
            · exact ih.flags y hy
          · rcases List.mem_cons.1 hy with rfl | hy
            · omega
            · exact ih.bytes y hy
theorem right_chkL (next : Int) : ∀ (l : List Letr) (last : Int), Right next last l → chkL next last l = 0
  | [], _, _ => rfl
  | x :: t, last, h => by
    have h1 := h.uid x (List.mem_cons_self ..)
    have h2 := h.flags x (List.mem_cons_self ..)
    have h3 := h.bytes x (List.mem_cons_self ..)
    have hp := List.pairwise_cons.1 h.rise
    unfold chkL
    rw [if_neg (by omega), if_neg (by omega), if_neg (by omega)]
    exact right_chkL next t x.uid ⟨fun y hy => ⟨hp.1 y hy, (h.uid y (List.mem_cons_of_mem _ hy)).2⟩, fun y hy => h.flags y (List.mem_cons_of_mem _ hy), fun y hy => h.bytes y (List.mem_cons_of_mem _ hy), hp.2⟩
/-- Check's answer is 0, or an error. -/
theorem chkL_vals (next : Int) : ∀ (l : List Letr) (last : Int), chkL next last l = 0 ∨ chkL next last l = 4 ∨ chkL next last l = 2 ∨ chkL next last l = 6
  | [], _ => Or.inl rfl
  | x :: t, last => by
    unfold chkL
    split
    · exact Or.inr (Or.inl rfl)
    · split
      · exact Or.inr (Or.inr (Or.inl rfl))
      · split
        · exact Or.inr (Or.inr (Or.inr rfl))
        · exact chkL_vals next t x.uid
theorem chk_ok {valid next : Int} {l : List Letr} (h : chk valid next l = 0) : (1 ≤ valid ∧ valid ≤ 4294967295) ∧ (1 ≤ next ∧ next ≤ 4294967295) ∧ l.length ≤ 32 ∧ Right next 0 l := by
  unfold chk at h
  split at h
  · cases h
  · rename_i h1
    unfold badN at h1
    split at h
    · cases h
    · exact ⟨by omega, by omega, by omega, chkL_right next l 0 h⟩
theorem ok_chk {valid next : Int} {l : List Letr} (h1 : 1 ≤ valid ∧ valid ≤ 4294967295) (h2 : 1 ≤ next ∧ next ≤ 4294967295) (h3 : l.length ≤ 32) (h4 : Right next 0 l) : chk valid next l = 0 := by
  unfold chk badN
  rw [if_neg (by omega), if_neg (by omega)]
  exact right_chkL next l 0 h4

/-- Add's error. -/
def addE (valid next : Int) (l : List Letr) (flags : UInt8) (n : Nat) : Int :=
  if chk valid next l ≠ 0 then chk valid next l else if 32 ≤ flags.toNat then 2 else if 600 < n then 6 else if l.length = 32 ∨ next = 4294967295 then 8 else 0
theorem add_right {valid next : Int} {l : List Letr} {flags : UInt8} {p : List UInt8} (h : addE valid next l flags p.length = 0) : chk valid (next + 1) (l ++ [⟨next, flags, p⟩]) = 0 := by
  unfold addE at h
  split at h
  · rename_i h0; exact absurd h h0
  · rename_i h0
    have h0 : chk valid next l = 0 := by simpa using h0
    split at h
    · cases h
    · split at h
      · cases h
      · split at h
        · cases h
        · obtain ⟨a, b, c, d⟩ := chk_ok h0
          refine ok_chk a (by omega) (by simp; omega) ⟨fun x hx => ?_, fun x hx => ?_, fun x hx => ?_, ?_⟩
          · rcases List.mem_append.1 hx with hx | hx
            · have := d.uid x hx; omega
            · rw [List.mem_singleton] at hx; subst hx; simp only; omega
          · rcases List.mem_append.1 hx with hx | hx
            · exact d.flags x hx
            · rw [List.mem_singleton] at hx; subst hx; simp only; omega
          · rcases List.mem_append.1 hx with hx | hx
            · exact d.bytes x hx
            · rw [List.mem_singleton] at hx; subst hx; simp only; omega
          · rw [List.pairwise_append]
            refine ⟨d.rise, by simp, fun x hx y hy => ?_⟩
            rw [List.mem_singleton] at hy; subst hy
            exact (d.uid x hx).2

/-- Which letter has a UID. -/
def findU (l : List Letr) (u : Int) : Nat := l.findIdx fun x => x.uid == u
/-- Flags as they are laid. -/
def layF (how : Int) (was named : UInt8) : UInt8 := if how = 0 then named else if how = 1 then was ||| named else was &&& (named ^^^ 255)
def flagE (valid next : Int) (l : List Letr) (u how : Int) (flags : UInt8) : Int :=
  if chk valid next l ≠ 0 then chk valid next l else if how < 0 ∨ 2 < how ∨ 32 ≤ flags.toNat then 2 else if findU l u = l.length then 9 else 0
def flagL (l : List Letr) (u how : Int) (flags : UInt8) : List Letr := l.modify (findU l u) fun x => { x with flags := layF how x.flags flags }
def cutE (valid next : Int) (l : List Letr) (u : Int) : Int :=
  if chk valid next l ≠ 0 then chk valid next l else if findU l u = l.length then 9 else 0
def cutL (l : List Letr) (u : Int) : List Letr := l.filter fun x => x.uid != u
end Go.Proofs.YtjljbnilckkjnaaDoor
