/- Date: the document's patterns over bytes, and where the code's reader stands: plain. -/
import Derived.Test.YtkkmjadkagpihaaDoorJ18
import Derived.Test.YtkkmjadkagpihaaDoorJ36
namespace Go.Proofs.YtkkmjadkagpihaaDoor
open Go Go.RowKit

instance isA_dec : DecidablePred isA := fun y => by unfold isA; infer_instance
def nb (bs : List UInt8) (i : Nat) : UInt8 := bs.getD i 0
theorem nb_lt {bs : List UInt8} {i : Nat} (h : i < bs.length) : nb bs i = bs[i] := by unfold nb; rw [List.getD_eq_getElem?_getD, List.getElem?_eq_getElem h]; rfl
theorem nb_get {t : ByteArray} {p : Nat} (h : p < t.data.toList.length) : t.get! p = nb t.data.toList p := by
  have hs : p < t.size := by rw [show t.size = t.data.toList.length from by simp]; exact h
  rw [nb_lt h, get_lt t p hs]; simp; rfl
theorem nb_left (a b : List UInt8) (i : Nat) (h : i < a.length) : nb (a ++ b) i = nb a i := by
  rw [nb_lt h, nb_lt (by rw [List.length_append]; omega), List.getElem_append_left h]
theorem nb_at (a : List UInt8) (c : UInt8) (b : List UInt8) : nb (a ++ c :: b) a.length = c := by
  rw [nb_lt (by simp), List.getElem_append_right (Nat.le_refl _)]; simp
theorem size_toList (t : ByteArray) : t.size = t.data.toList.length := by simp

def digB (c : UInt8) (k : Nat) : Bool := decide (48 ≤ c.toNat ∧ c.toNat < 48 + k)
/-- Where a name begins that has a letter at a place. -/
def bckF (bs : List UInt8) (i : Nat) : Nat :=
  if 1 ≤ i ∧ isA (nb bs (i - 1)) then (if 2 ≤ i ∧ isA (nb bs (i - 2)) then i - 2 else i - 1) else i
/-- Does a byte stand for a sign of a pattern? -/
def fitB (bs : List UInt8) (i : Nat) (s : UInt8) : Bool :=
  if s = 57 then digB (nb bs i) 10
  else if s = 50 then digB (nb bs i) 3
  else if s = 53 then digB (nb bs i) 6
  else if s = 51 then (if nb bs (i - 1) = 50 then digB (nb bs i) 4 else digB (nb bs i) 10)
  else if s = 77 then hitR monthsL 12 (low ((bs.drop (bckF bs i)).take (i + 1 - bckF bs i)))
  else if s = 87 then hitR weeksL 7 (low ((bs.drop (bckF bs i)).take (i + 1 - bckF bs i)))
  else if s = 71 then decide (lowB (nb bs i) = 103)
  else if s = 109 then decide (lowB (nb bs i) = 109)
  else if s = 84 then decide (lowB (nb bs i) = 116)
  else if s = 85 then decide (lowB (nb bs i) = 117)
  else decide (nb bs i = s)

structure At (bs pat : List UInt8) (p : Nat) : Prop where
  pl : p ≤ pat.length
  bl : p ≤ bs.length
  fit : ∀ j, j < p → fitB bs j (nb pat j) = true
  stop : p < pat.length → p < bs.length → fitB bs p (nb pat p) = false
theorem At.uniq {bs pat : List UInt8} {p q : Nat} (h : At bs pat p) (k : At bs pat q) : p = q := by
  have key : ∀ {a b : Nat}, At bs pat a → At bs pat b → ¬ a < b := by
    intro a b ha hb hlt
    have h1 := ha.stop (by have := hb.pl; omega) (by have := hb.bl; omega)
    rw [hb.fit a hlt] at h1
    exact Bool.noConfusion h1
  have a := key h k
  have b := key k h
  omega
def mB (bs pat : List UInt8) : Nat → Nat → Nat
  | 0, i => i
  | f + 1, i => if i < pat.length ∧ i < bs.length ∧ fitB bs i (nb pat i) = true then mB bs pat f (i + 1) else i
theorem mB_at (bs pat : List UInt8) : ∀ f i, i ≤ pat.length → i ≤ bs.length → pat.length - i ≤ f → (∀ j, j < i → fitB bs j (nb pat j) = true) → At bs pat (mB bs pat f i)
  | 0, i, h1, h2, h3, h4 => ⟨h1, h2, h4, fun h => by unfold mB at h; omega⟩
  | f + 1, i, h1, h2, h3, h4 => by
    unfold mB
    split
    · next h =>
      exact mB_at bs pat f (i + 1) (by omega) (by omega) (by omega) (fun j hj => if e : j < i then h4 j e else by rw [show j = i by omega]; exact h.2.2)
    · next h =>
      refine ⟨h1, h2, h4, fun a b => ?_⟩
      cases hf : fitB bs i (nb pat i)
      · rfl
      · exact absurd ⟨a, b, hf⟩ h
def mF (bs pat : List UInt8) : Nat := mB bs pat pat.length 0
theorem mF_at (bs pat : List UInt8) : At bs pat (mF bs pat) := mB_at bs pat _ 0 (Nat.zero_le _) (Nat.zero_le _) (by omega) (fun j h => absurd h (Nat.not_lt_zero j))

/-- Where patterns part, the sign ahead decides. -/
theorem At.fork {bs P Q : List UInt8} {p q : Nat} (hP : At bs P p) (hQ : At bs Q q) (j : Nat) (hj : j ≤ P.length) (hpre : ∀ i, i < j → nb P i = nb Q i) (hne : (∀ i, i < j → fitB bs i (nb P i) = true) → j < bs.length → fitB bs j (nb Q j) = false) : q ≤ j ∧ q ≤ p := by
  have h1 : ¬ j < q := fun hlt => by
    have a := hne (fun i hi => by rw [hpre i hi]; exact hQ.fit i (by omega)) (by have := hQ.bl; omega)
    rw [hQ.fit j hlt] at a
    exact Bool.noConfusion a
  have h2 : ¬ p < q := fun hlt => by
    have a := hP.stop (by omega) (by have := hQ.bl; omega)
    rw [hpre p (by omega), hQ.fit p hlt] at a
    exact Bool.noConfusion a
  omega

/-- Where the code's reader stands behind a pattern's beginning. -/
structure Run (bs pre : List UInt8) (p : Nat) (st : Int) : Prop where
  at_ : At bs pre p
  st_ : st = if p = pre.length then 0 else if p < bs.length then 4 else 3
theorem Run.nil (bs : List UInt8) : Run bs [] 0 0 := ⟨⟨Nat.le_refl _, Nat.zero_le _, fun j h => absurd h (Nat.not_lt_zero j), fun h => absurd h (Nat.not_lt_zero _)⟩, rfl⟩
theorem Run.part {bs pre : List UInt8} {p : Nat} {st : Int} (h : Run bs pre p st) (hp : p ≠ pre.length) (X : List UInt8) : Run bs (pre ++ X) p st := by
  have hpl := h.at_.pl
  have hlt : p < pre.length := by omega
  refine ⟨⟨by rw [List.length_append]; omega, h.at_.bl, fun j hj => ?_, fun _ hb => ?_⟩, ?_⟩
  · rw [nb_left _ _ _ (by omega)]; exact h.at_.fit j hj
  · rw [nb_left _ _ _ hlt]; exact h.at_.stop hlt hb
  · rw [h.st_, if_neg hp, if_neg (show ¬ p = (pre ++ X).length by rw [List.length_append]; omega)]

theorem Run.miss {bs pre : List UInt8} {p : Nat} {st : Int} (h : Run bs pre p st) (s : UInt8) (hf : p = pre.length → p < bs.length → fitB bs p s = false) : At bs (pre ++ [s]) p := by
  have hpl := h.at_.pl
  refine ⟨by simp; omega, h.at_.bl, fun j hj => ?_, fun _ hb => ?_⟩
  · rw [nb_left _ _ _ (by omega)]; exact h.at_.fit j hj
  · by_cases e : p = pre.length
    · rw [e, nb_at, ← e]; exact hf e hb
    · rw [nb_left _ _ _ (by omega)]; exact h.at_.stop (by omega) hb
theorem Run.one {t : ByteArray} {bs pre : List UInt8} {p : Nat} {st : Int} (hbs : t.data.toList = bs) (h : Run bs pre p st) (these : List UInt8) (s : UInt8)
    (hf : p = pre.length → p < bs.length → decide (0 ≤ Lib.indexByte (low these) (lowB (nb bs p))) = fitB bs p s) :
    Run bs (pre ++ [s]) (oneR t these p st).2.1 (oneR t these p st).2.2 ∧
      ((oneR t these p st).2.1 = pre.length + 1 → p = pre.length ∧ p < bs.length ∧ fitB bs p s = true ∧ 0 ≤ Lib.indexByte (low these) (lowB (nb bs p)) ∧ (oneR t these p st).1 = (these.drop (Lib.indexByte (low these) (lowB (nb bs p))).toNat).take 1) := by
  subst hbs
  have hsz := size_toList t
  have hpl := h.at_.pl
  have hst := h.st_
  unfold oneR
  by_cases hp : p < t.size
  · have hb : p < t.data.toList.length := by rw [← hsz]; exact hp
    rw [if_pos hp, nb_get hb]
    by_cases he : p = pre.length
    · rw [if_pos he] at hst
      rw [if_pos hst]
      have hf := hf he hb
      by_cases hi : 0 ≤ Lib.indexByte (low these) (lowB (nb t.data.toList p))
      · rw [if_pos hi]
        have hfit : fitB t.data.toList p s = true := by rw [← hf]; simp [hi]
        refine ⟨⟨⟨by simp; omega, by show p + 1 ≤ _; omega, fun j hj => ?_, fun a _ => ?_⟩, ?_⟩, fun _ => ⟨he, hb, hfit, hi, rfl⟩⟩
        · have hj' : j < p + 1 := hj
          by_cases e : j < p
          · rw [nb_left _ _ _ (by omega)]; exact h.at_.fit j e
          · have : j = pre.length := by omega
            subst this
            rw [nb_at, ← he]; exact hfit
        · have a' : p + 1 < (pre ++ [s]).length := a
          simp at a'; omega
        · show (0 : Int) = _
          rw [if_pos (by simp; omega)]
      · rw [if_neg hi]
        have hfit : fitB t.data.toList p s = false := by rw [← hf]; simp; omega
        refine ⟨⟨h.miss s fun _ _ => hfit, ?_⟩, fun a => ?_⟩
        · show (4 : Int) = _
          rw [if_neg (by simp; omega), if_pos hb]
        · have a' : p = pre.length + 1 := a
          omega
    · rw [if_neg he, if_pos hb] at hst
      rw [if_neg (by rw [hst]; decide)]
      refine ⟨⟨h.miss s fun e => absurd e he, ?_⟩, fun a => ?_⟩
      · show st = _
        rw [if_neg (by simp; omega), if_pos hb, hst]
      · have a' : p = pre.length + 1 := a
        omega
  · rw [if_neg hp]
    have hb : ¬ p < t.data.toList.length := by rw [← hsz]; exact hp
    refine ⟨⟨h.miss s fun _ e => absurd e hb, ?_⟩, fun a => ?_⟩
    · show (3 : Int) = _
      rw [if_neg (by simp; omega), if_neg hb]
    · have a' : p = pre.length + 1 := a
      omega
theorem dig_tab : ∀ k, k < 11 → ∀ c, c < 256 → decide (0 ≤ Lib.indexByte (low (figL.take k)) (lowB (UInt8.ofNat c))) = decide (48 ≤ c ∧ c < 48 + k) ∧ (48 ≤ c ∧ c < 48 + k → Lib.index figL (((figL.take k).drop (Lib.indexByte (low (figL.take k)) (lowB (UInt8.ofNat c))).toNat).take 1) = (c : Int) - 48) := by decide +kernel
theorem dig_tab' (k : Nat) (hk : k ≤ 10) (c : UInt8) : decide (0 ≤ Lib.indexByte (low (figL.take k)) (lowB c)) = digB c k ∧ (digB c k = true → Lib.index figL (((figL.take k).drop (Lib.indexByte (low (figL.take k)) (lowB c)).toNat).take 1) = (c.toNat : Int) - 48) := by
  have h := dig_tab k (by omega) c.toNat c.toNat_lt
  rw [UInt8.ofNat_toNat] at h
  exact ⟨h.1, fun e => h.2 (of_decide_eq_true e)⟩
/-- A digit of a pattern. -/
theorem Run.dig {t : ByteArray} {bs pre : List UInt8} {p : Nat} {st : Int} (hbs : t.data.toList = bs) (h : Run bs pre p st) (k : Nat) (hk : k ≤ 10) (s : UInt8) (hs : p = pre.length → fitB bs p s = digB (nb bs p) k) :
    Run bs (pre ++ [s]) (digR t (figL.take k) p st).2.1 (digR t (figL.take k) p st).2.2 ∧
      ((digR t (figL.take k) p st).2.1 = pre.length + 1 → p = pre.length ∧ p < bs.length ∧ digB (nb bs p) k = true ∧ (digR t (figL.take k) p st).1 = ((nb bs p).toNat : Int) - 48) := by
  have H := h.one hbs (figL.take k) s (fun e _ => by rw [hs e]; exact (dig_tab' k hk _).1)
  refine ⟨H.1, fun e => ?_⟩
  obtain ⟨h1, h2, h3, h4, h5⟩ := H.2 e
  have hd : digB (nb bs p) k = true := by rw [← hs h1]; exact h3
  refine ⟨h1, h2, hd, ?_⟩
  show Lib.index figL (oneR t (figL.take k) p st).1 = _
  rw [h5]
  exact (dig_tab' k hk _).2 hd

theorem take_one {bs : List UInt8} {p : Nat} (h : p < bs.length) (k : Nat) : (bs.drop p).take (k + 1) = nb bs p :: (bs.drop (p + 1)).take k := by
  rw [List.drop_eq_getElem_cons h, List.take_succ_cons, nb_lt h]
theorem take_snoc {bs : List UInt8} {p j : Nat} (h : p + j < bs.length) : (bs.drop p).take (j + 1) = (bs.drop p).take j ++ [nb bs (p + j)] := by
  rw [nb_lt h, List.take_succ_eq_append_getElem (by rw [List.length_drop]; omega), List.getElem_drop]

theorem Run.num {t : ByteArray} {bs : List UInt8} (hbs : t.data.toList = bs) : ∀ (k : Nat) {pre : List UInt8} {p : Nat} {st : Int} (n : Int), Run bs pre p st →
    Run bs (pre ++ List.replicate k 57) (numR t k n p st).2.1 (numR t k n p st).2.2 ∧
      ((numR t k n p st).2.1 = pre.length + k → p = pre.length ∧ Dig bs p k ∧ (numR t k n p st).1 = valF n ((bs.drop p).take k))
  | 0, pre, p, st, n, h => by
    refine ⟨by simpa [numR] using h, fun e => ⟨by simpa [numR] using e, ⟨h.at_.bl, fun j _ a b => by omega⟩, by simp [numR, valF]⟩⟩
  | k + 1, pre, p, st, n, h => by
    have H := h.dig hbs 10 (Nat.le_refl _) 57 (fun _ => by unfold fitB; rfl)
    rw [show figL.take 10 = figL from rfl] at H
    have K := Run.num hbs k (10 * n + (digR t figL p st).1) H.1
    rw [List.append_assoc, List.singleton_append, ← List.replicate_succ, List.length_append, List.length_singleton] at K
    refine ⟨K.1, fun e => ?_⟩
    obtain ⟨a1, a2, a3⟩ := K.2 (by show (numR t (k + 1) n p st).2.1 = _; rw [e]; omega)
    obtain ⟨b1, b2, b3, b4⟩ := H.2 a1
    have b5 := of_decide_eq_true b3
    refine ⟨b1, ⟨by have := a2.1; omega, fun j hj ha hb => ?_⟩, ?_⟩
    · by_cases ej : j = p
      · subst ej; rw [← nb_lt hj]; omega
      · exact a2.2 j hj (by omega) (by omega)
    · rw [take_one b2]
      show (numR t k (10 * n + (digR t figL p st).1) (digR t figL p st).2.1 (digR t figL p st).2.2).1 = valF (10 * n + ((nb bs p).toNat : Int) - 48) _
      rw [a3, b4, show p + 1 = (digR t figL p st).2.1 by omega]
      congr 1
      omega

theorem dig_two {bs : List UInt8} {p j k : Nat} (h1 : p + 1 < bs.length) (hj : digB (nb bs p) j = true) (hk : digB (nb bs (p + 1)) k = true) (h10 : j ≤ 10) (k10 : k ≤ 10) : Dig bs p 2 ∧ valR bs p 2 = 10 * (((nb bs p).toNat : Int) - 48) + (((nb bs (p + 1)).toNat : Int) - 48) ∧ 0 ≤ ((nb bs p).toNat : Int) - 48 ∧ ((nb bs p).toNat : Int) - 48 < j ∧ 0 ≤ ((nb bs (p + 1)).toNat : Int) - 48 ∧ ((nb bs (p + 1)).toNat : Int) - 48 < k := by
  have a := of_decide_eq_true hj
  have b := of_decide_eq_true hk
  refine ⟨⟨by omega, fun i hi ha hb => ?_⟩, ?_, by omega, by omega, by omega, by omega⟩
  · rw [← nb_lt hi]
    rcases (show i = p ∨ i = p + 1 by omega) with rfl | rfl
    · omega
    · omega
  · unfold valR
    rw [take_one (by omega), take_one (by omega), List.take_zero]
    simp only [valF, List.foldl]
    omega

theorem Run.b24 {t : ByteArray} {bs pre : List UInt8} {p : Nat} {st : Int} (hbs : t.data.toList = bs) (h : Run bs pre p st) :
    Run bs (pre ++ [50, 51]) (b24R t p st).2.1 (b24R t p st).2.2 ∧ ((b24R t p st).2.1 = pre.length + 2 → p = pre.length ∧ Dig bs p 2 ∧ (b24R t p st).1 = valR bs p 2 ∧ 0 ≤ valR bs p 2 ∧ valR bs p 2 ≤ 23) := by
  have H := h.dig hbs 3 (by omega) 50 (fun _ => by unfold fitB; rfl)
  unfold b24R
  obtain ⟨d, hd⟩ : ∃ d, digR t (figL.take 3) p st = d := ⟨_, rfl⟩
  rw [hd] at H ⊢
  simp only
  have hl : (pre ++ [50]).length = pre.length + 1 := by simp
  have hsp : pre ++ [50, 51] = pre ++ [50] ++ [51] := by simp
  rw [hsp]
  have hfit : ∀ q, q = pre.length + 1 → d.2.1 = q → fitB bs q 51 = if d.1 = 2 then digB (nb bs q) 4 else digB (nb bs q) 10 := by
    intro q hq he
    obtain ⟨a1, a2, a3, a4⟩ := H.2 (by omega)
    have a5 : fitB bs q 51 = if nb bs (q - 1) = 50 then digB (nb bs q) 4 else digB (nb bs q) 10 := by unfold fitB; rfl
    rw [a5, show q - 1 = p by omega]
    have : (nb bs p = 50) ↔ d.1 = 2 := by
      rw [a4]
      constructor
      · intro e; rw [e]; decide
      · intro e
        apply UInt8.toNat_inj.1
        show _ = 50
        omega
    by_cases e : d.1 = 2
    · rw [if_pos (this.2 e), if_pos e]
    · rw [if_neg (fun x => e (this.1 x)), if_neg e]
  by_cases e : d.1 = 2
  · rw [if_pos e]
    have K := H.1.dig hbs 4 (by omega) 51 (fun x => by rw [hfit _ (by rw [x, hl]) rfl, if_pos e])
    refine ⟨K.1, fun x => ?_⟩
    obtain ⟨c1, c2, c3, c4⟩ := K.2 (by rw [hl]; omega)
    rw [hl] at c1
    obtain ⟨a1, a2, a3, a4⟩ := H.2 c1
    have ep : d.2.1 = p + 1 := by omega
    rw [ep] at c2 c3 c4
    obtain ⟨e1, e2, e3, e4, e5, e6⟩ := dig_two c2 a3 c3 (by omega) (by omega)
    refine ⟨a1, e1, ?_, by omega, by omega⟩
    rw [ep, c4, e2, a4]
  · rw [if_neg e]
    have K := H.1.dig hbs 10 (by omega) 51 (fun x => by rw [hfit _ (by rw [x, hl]) rfl, if_neg e])
    rw [show figL.take 10 = figL from rfl] at K
    refine ⟨K.1, fun x => ?_⟩
    obtain ⟨c1, c2, c3, c4⟩ := K.2 (by rw [hl]; omega)
    rw [hl] at c1
    obtain ⟨a1, a2, a3, a4⟩ := H.2 c1
    have ep : d.2.1 = p + 1 := by omega
    rw [ep] at c2 c3 c4
    obtain ⟨e1, e2, e3, e4, e5, e6⟩ := dig_two c2 a3 c3 (by omega) (by omega)
    refine ⟨a1, e1, ?_, by omega, by omega⟩
    rw [ep, c4, e2, a4]

theorem fig_bd6 : ∀ i, i < 7 → Lib.index figL (((figL.take 6).drop i).take 1) ≤ 5 := by decide +kernel
theorem digR_bd' (t : ByteArray) (p : Nat) (st : Int) : (digR t (figL.take 6) p st).1 ≤ 5 := by
  unfold digR oneR
  split
  · split
    · split
      · show Lib.index figL _ ≤ 5
        simp only
        generalize (Lib.indexByte (low (figL.take 6)) (lowB (t.get! p))).toNat = i
        by_cases hi : i < 7
        · exact fig_bd6 i hi
        · rw [List.drop_eq_nil_of_le (by show 6 ≤ i; omega)]
          decide +kernel
      · exact (show Lib.index figL [] ≤ 5 by decide +kernel)
    · exact (show Lib.index figL [] ≤ 5 by decide +kernel)
  · exact (show Lib.index figL [] ≤ 5 by decide +kernel)
theorem Run.b60 {t : ByteArray} {bs pre : List UInt8} {p : Nat} {st : Int} (hbs : t.data.toList = bs) (h : Run bs pre p st) :
    Run bs (pre ++ [53, 57]) (b60R t p st).2.1 (b60R t p st).2.2 ∧ ((b60R t p st).2.1 = pre.length + 2 → p = pre.length ∧ Dig bs p 2 ∧ (b60R t p st).1 = valR bs p 2 ∧ 0 ≤ valR bs p 2 ∧ valR bs p 2 ≤ 59) := by
  have H := h.dig hbs 6 (by omega) 53 (fun _ => by unfold fitB; rfl)
  have hb := digR_bd' t p st
  unfold b60R
  obtain ⟨d, hd⟩ : ∃ d, digR t (figL.take 6) p st = d := ⟨_, rfl⟩
  rw [hd] at H hb ⊢
  simp only
  have hl : (pre ++ [53]).length = pre.length + 1 := by simp
  have hsp : pre ++ [53, 57] = pre ++ [53] ++ [57] := by simp
  rw [hsp, if_neg (show ¬ d.1 = 6 by omega)]
  have K := H.1.dig hbs 10 (by omega) 57 (fun x => by unfold fitB; rfl)
  rw [show figL.take 10 = figL from rfl] at K
  refine ⟨K.1, fun x => ?_⟩
  obtain ⟨c1, c2, c3, c4⟩ := K.2 (by rw [hl]; omega)
  rw [hl] at c1
  obtain ⟨a1, a2, a3, a4⟩ := H.2 c1
  have ep : d.2.1 = p + 1 := by omega
  rw [ep] at c2 c3 c4
  obtain ⟨e1, e2, e3, e4, e5, e6⟩ := dig_two c2 a3 c3 (by omega) (by omega)
  refine ⟨a1, e1, ?_, by omega, by omega⟩
  rw [ep, c4, e2, a4]
def begs (words : List UInt8) (n k : Nat) : List (List UInt8) := (List.range n).map fun j => (nthL words j).take k
def wordI (words : List UInt8) (n : Nat) (beg : List UInt8) (c : UInt8) : Int := Lib.indexByte (low (behindL n words beg)) (lowB c)
def wordN (words : List UInt8) (n : Nat) (beg : List UInt8) (c : UInt8) : List UInt8 := ((behindL n words beg).drop (wordI words n beg c).toNat).take 1
def wordB (words : List UInt8) (n k : Nat) (beg : List UInt8) (c : UInt8) : Bool :=
  (decide (0 ≤ wordI words n beg c) == hitR words n (low beg ++ [lowB c])) &&
  (! hitR words n (low beg ++ [lowB c]) || (decide (isA c) && (decide (beg ++ wordN words n beg c ∈ begs words n (k + 1)) && decide (low (wordN words n beg c) = [lowB c]))))
theorem mon_tab : ∀ k, k < 3 → ∀ j, j < 12 → ∀ c, c < 256 → wordB monthsL 12 k ((nthL monthsL j).take k) (UInt8.ofNat c) = true := by decide +kernel
theorem wee_tab : ∀ k, k < 3 → ∀ j, j < 7 → ∀ c, c < 256 → wordB weeksL 7 k ((nthL weeksL j).take k) (UInt8.ofNat c) = true := by decide +kernel
def lastB (words : List UInt8) (n : Nat) (beg : List UInt8) : Bool := decide (idxF words (low beg) 0 n = (Lib.index words beg).tdiv 3) && (decide (0 ≤ (Lib.index words beg).tdiv 3) && decide ((Lib.index words beg).tdiv 3 < n))
theorem mon_last : ∀ j, j < 12 → lastB monthsL 12 ((nthL monthsL j).take 3) = true := by decide +kernel
theorem wee_last : ∀ j, j < 7 → lastB weeksL 7 ((nthL weeksL j).take 3) = true := by decide +kernel
/-- The words of a table, read letter by letter, are the words of the document. -/
structure Words (words : List UInt8) (n : Nat) (s : UInt8) : Prop where
  tab : ∀ k, k < 3 → ∀ beg, beg ∈ begs words n k → ∀ c, wordB words n k beg c = true
  last : ∀ beg, beg ∈ begs words n 3 → lastB words n beg = true
  fit : ∀ bs i, fitB bs i s = hitR words n (low ((bs.drop (bckF bs i)).take (i + 1 - bckF bs i)))
  pos : [] ∈ begs words n 0
theorem mon_words : Words monthsL 12 77 := by
  refine ⟨fun k hk beg hb c => ?_, fun beg hb => ?_, fun bs i => rfl, by decide⟩
  · obtain ⟨j, hj, rfl⟩ := List.mem_map.1 hb
    have := mon_tab k hk j (List.mem_range.1 hj) c.toNat c.toNat_lt
    rwa [UInt8.ofNat_toNat] at this
  · obtain ⟨j, hj, rfl⟩ := List.mem_map.1 hb
    exact mon_last j (List.mem_range.1 hj)
theorem wee_words : Words weeksL 7 87 := by
  refine ⟨fun k hk beg hb c => ?_, fun beg hb => ?_, fun bs i => rfl, by decide⟩
  · obtain ⟨j, hj, rfl⟩ := List.mem_map.1 hb
    have := wee_tab k hk j (List.mem_range.1 hj) c.toNat c.toNat_lt
    rwa [UInt8.ofNat_toNat] at this
  · obtain ⟨j, hj, rfl⟩ := List.mem_map.1 hb
    exact wee_last j (List.mem_range.1 hj)

structure Wrd (bs words : List UInt8) (n : Nat) (s : UInt8) (pre : List UInt8) (j : Nat) (beg : List UInt8) (p : Nat) (st : Int) : Prop where
  run : Run bs (pre ++ List.replicate j s) p st
  beg_ : p = pre.length + j → beg ∈ begs words n j ∧ low beg = low ((bs.drop pre.length).take j) ∧ (∀ i, i < j → isA (nb bs (pre.length + i))) ∧ p ≤ bs.length
theorem bck_word {bs : List UInt8} {q j : Nat} (hj : j < 3) (h0 : q = 0 ∨ ¬ isA (nb bs (q - 1))) (hA : ∀ i, i < j → isA (nb bs (q + i))) : bckF bs (q + j) = q := by
  unfold bckF
  rcases (show j = 0 ∨ j = 1 ∨ j = 2 by omega) with rfl | rfl | rfl
  · rw [if_neg]
    · rfl
    · rintro ⟨h1, h2⟩
      rcases h0 with rfl | h0
      · omega
      · exact h0 h2
  · have a := hA 0 (by omega)
    rw [if_pos ⟨by omega, by rw [show q + 1 - 1 = q + 0 by omega]; exact a⟩, if_neg]
    · omega
    · rintro ⟨h1, h2⟩
      rcases h0 with rfl | h0
      · omega
      · rw [show q + 1 - 2 = q - 1 by omega] at h2; exact h0 h2
  · have a := hA 0 (by omega)
    have b := hA 1 (by omega)
    rw [if_pos ⟨by omega, by rw [show q + 2 - 1 = q + 1 by omega]; exact b⟩, if_pos ⟨by omega, by rw [show q + 2 - 2 = q + 0 by omega]; exact a⟩]
    omega
theorem Wrd.step {t : ByteArray} {bs words pre : List UInt8} {n j p : Nat} {s : UInt8} {beg : List UInt8} {st : Int} (hbs : t.data.toList = bs) (hW : Words words n s) (hj : j < 3)
    (h : Wrd bs words n s pre j beg p st) (h0 : p = pre.length + j → pre.length = 0 ∨ ¬ isA (nb bs (pre.length - 1))) :
    Wrd bs words n s pre (j + 1) (beg ++ (oneR t (behindL n words beg) p st).1) (oneR t (behindL n words beg) p st).2.1 (oneR t (behindL n words beg) p st).2.2 ∧ ((oneR t (behindL n words beg) p st).2.1 = pre.length + (j + 1) → p = pre.length + j) := by
  have hl : (pre ++ List.replicate j s).length = pre.length + j := by simp
  have hkey : p = pre.length + j → p < bs.length → fitB bs p s = hitR words n (low beg ++ [lowB (nb bs p)]) := by
    intro he hb
    obtain ⟨b1, b2, b3, b4⟩ := h.beg_ he
    rw [hW.fit, he, bck_word hj (h0 he) b3, show pre.length + j + 1 - pre.length = j + 1 by omega, take_snoc (by omega), low_append, ← b2]
    rfl
  have H := h.run.one hbs (behindL n words beg) s (fun he hb => by
    rw [hl] at he
    obtain ⟨b1, b2, b3, b4⟩ := h.beg_ he
    have ht := hW.tab j hj beg b1 (nb bs p)
    unfold wordB at ht
    rw [Bool.and_eq_true] at ht
    rw [hkey he hb]
    exact eq_of_beq ht.1)
  rw [hl] at H
  refine ⟨⟨?_, fun e => ?_⟩, fun e => (H.2 (by omega)).1⟩
  · rw [List.replicate_succ', ← List.append_assoc]; exact H.1
  · obtain ⟨c1, c2, c3, c4, c5⟩ := H.2 (by omega)
    obtain ⟨b1, b2, b3, b4⟩ := h.beg_ c1
    have ht := hW.tab j hj beg b1 (nb bs p)
    unfold wordB at ht
    rw [← hkey c1 c2, c3] at ht
    simp only [Bool.and_eq_true, Bool.not_true, Bool.false_or, decide_eq_true_eq] at ht
    obtain ⟨t1, t2, t3, t4⟩ := ht
    have e5 : (oneR t (behindL n words beg) p st).1 = wordN words n beg (nb bs p) := c5
    refine ⟨by rw [e5]; exact t3, ?_, fun i hi => ?_, by omega⟩
    · rw [low_append, e5, t4, take_snoc (by omega), low_append, b2, c1]; rfl
    · by_cases ei : i < j
      · exact b3 i ei
      · rw [show pre.length + i = p by omega]; exact t2
theorem Run.word {t : ByteArray} {bs words pre : List UInt8} {n p : Nat} {s : UInt8} {st : Int} (hbs : t.data.toList = bs) (hW : Words words n s)
    (h : Run bs pre p st) (h0 : p = pre.length → pre.length = 0 ∨ ¬ isA (nb bs (pre.length - 1))) :
    Run bs (pre ++ [s, s, s]) (wordR t n words 3 [] p st).2.1 (wordR t n words 3 [] p st).2.2 ∧
      ((wordR t n words 3 [] p st).2.1 = pre.length + 3 → p = pre.length ∧ p + 3 ≤ bs.length ∧ idxF words (low [nb bs p, nb bs (p + 1), nb bs (p + 2)]) 0 n = (Lib.index words (wordR t n words 3 [] p st).1).tdiv 3 ∧ 0 ≤ (Lib.index words (wordR t n words 3 [] p st).1).tdiv 3 ∧ (Lib.index words (wordR t n words 3 [] p st).1).tdiv 3 < n) := by
  have w0 : Wrd bs words n s pre 0 [] p st := ⟨by simpa using h, fun e => ⟨hW.pos, rfl, fun i hi => absurd hi (Nat.not_lt_zero i), h.at_.bl⟩⟩
  have w1 := w0.step hbs hW (by omega) h0
  have w2 := w1.1.step hbs hW (by omega) (fun e => h0 (w1.2 e))
  have w3 := w2.1.step hbs hW (by omega) (fun e => h0 (w1.2 (w2.2 e)))
  refine ⟨w3.1.run, fun e => ?_⟩
  have hp := w1.2 (w2.2 (w3.2 e))
  obtain ⟨b1, b2, b3, b4⟩ := w3.1.beg_ e
  have hl := hW.last _ b1
  unfold lastB at hl
  simp only [Bool.and_eq_true, decide_eq_true_eq] at hl
  have hbl : p + 3 ≤ bs.length := by
    have b4' : (wordR t n words 3 [] p st).2.1 ≤ bs.length := b4
    omega
  refine ⟨hp, hbl, ?_, hl.2.1, hl.2.2⟩
  rw [b2, ← show p = pre.length from hp, take_one (by omega), take_one (by omega), take_one (by omega), List.take_zero] at hl
  exact hl.1
end Go.Proofs.YtkkmjadkagpihaaDoor
