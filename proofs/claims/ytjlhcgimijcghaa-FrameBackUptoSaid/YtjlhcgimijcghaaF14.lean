/- Frame, plain facts: what One tells of a frame that stands in a row; rows of which a window is turned. -/
import Derived.Test.YtjlhcgimijcghaaF11
namespace Go.Proofs.Ytjlhcgimijcghaa

theorem numF_rowL2 (n : Nat) (h : n < 65536) : numF (rowL n 2) 0 = n := by
  rw [rowL_two]; simp [numF, UInt8.toNat_ofNat']; omega
/-- One of a frame (its sum c, what it holds p), whatever stands around. -/
theorem oneP_frame (a b p : List UInt8) (c : Nat) (h0 : p.length ≠ 0) (h1 : p.length ≤ 2000) (hc : c < 4294967296) :
    oneP (a ++ (rowL p.length 2 ++ (rowL c 4 ++ p)) ++ b) a.length = if c = crcN (rowL p.length 2 ++ p) then (p, ((a.length + 6 + p.length : Nat) : Int), 0) else ([], 0, 5) := by
  have hr : (a ++ (rowL p.length 2 ++ (rowL c 4 ++ p)) ++ b).drop a.length = rowL p.length 2 ++ (rowL c 4 ++ (p ++ b)) := by
    rw [List.append_assoc, List.drop_left]; simp [List.append_assoc]
  have hL : (a ++ (rowL p.length 2 ++ (rowL c 4 ++ p)) ++ b).length = a.length + (6 + p.length + b.length) := by
    simp only [List.length_append, rowL_len]; omega
  have e1 : (rowL p.length 2 ++ (rowL c 4 ++ (p ++ b))).take 2 = rowL p.length 2 := by
    rw [List.take_append_of_le_length (by rw [rowL_len]; exact Nat.le_refl _), List.take_of_length_le (by rw [rowL_len]; exact Nat.le_refl _)]
  have e2 : (rowL p.length 2 ++ (rowL c 4 ++ (p ++ b))).drop 2 = rowL c 4 ++ (p ++ b) := by
    have := List.drop_left (l₁ := rowL p.length 2) (l₂ := rowL c 4 ++ (p ++ b))
    rw [rowL_len] at this; exact this
  have e3 : (rowL c 4 ++ (p ++ b)).take 4 = rowL c 4 := by
    rw [List.take_append_of_le_length (by rw [rowL_len]; exact Nat.le_refl _), List.take_of_length_le (by rw [rowL_len]; exact Nat.le_refl _)]
  have e4 : (rowL p.length 2 ++ (rowL c 4 ++ (p ++ b))).drop 6 = p ++ b := by
    rw [show 6 = 2 + 4 from rfl, ← List.drop_drop, e2]
    have := List.drop_left (l₁ := rowL c 4) (l₂ := p ++ b)
    rw [rowL_len] at this; exact this
  have e5 : (p ++ b).take p.length = p := by rw [List.take_append_of_le_length (Nat.le_refl _), List.take_of_length_le (Nat.le_refl _)]
  unfold oneP
  rw [hr, hL, e1, e2, e3, e4, numF_rowL2 _ (by omega), numF_rowL4 _ hc, e5, if_neg (by omega), if_neg (by omega), if_neg (by omega), if_neg (by omega)]
theorem oneP_pack (a b p : List UInt8) (h0 : p.length ≠ 0) (h1 : p.length ≤ 2000) : oneP (a ++ packL p ++ b) a.length = (p, ((a.length + 6 + p.length : Nat) : Int), 0) := by
  have := oneP_frame a b p (crcN (rowL p.length 2 ++ p)) h0 h1 (crcN_lt _)
  rw [if_pos rfl] at this
  exact this

/-- Bytes from place f on, i of them, turned by t. -/
def win (l : List UInt8) (f i : Nat) (t : Nat → UInt8) : List UInt8 := (List.range i).map fun j => l.getD (f + j) 0 ^^^ t j
def turnL (l : List UInt8) (f i : Nat) (t : Nat → UInt8) : List UInt8 := l.take f ++ win l f i t ++ l.drop (f + i)
theorem win_len (l : List UInt8) (f i : Nat) (t : Nat → UInt8) : (win l f i t).length = i := by simp [win]
theorem turnL_zero (l : List UInt8) (f : Nat) (t : Nat → UInt8) : turnL l f 0 t = l := by simp [turnL, win]
theorem turnL_len (l : List UInt8) (f i : Nat) (t : Nat → UInt8) (h : f + i ≤ l.length) : (turnL l f i t).length = l.length := by
  simp only [turnL, List.length_append, List.length_take, List.length_drop, win_len]; omega
theorem turnL_at (l : List UInt8) (f i : Nat) (t : Nat → UInt8) (h : f + i < l.length) : (turnL l f i t)[f + i]? = l[f + i]? := by
  unfold turnL
  rw [List.getElem?_append_right (by simp only [List.length_append, List.length_take, win_len]; omega), List.getElem?_drop]
  congr 1
  simp only [List.length_append, List.length_take, win_len]; omega
theorem turnL_step (l : List UInt8) (f i : Nat) (t : Nat → UInt8) (h : f + i < l.length) : (turnL l f i t).set (f + i) (l[f + i] ^^^ t i) = turnL l f (i + 1) t := by
  unfold turnL
  have hw : win l f (i + 1) t = win l f i t ++ [l[f + i] ^^^ t i] := by
    unfold win
    rw [List.range_succ, List.map_append]
    simp [List.getD, h]
  rw [hw, List.set_append_right _ _ (by simp only [List.length_append, List.length_take, win_len]; omega)]
  rw [show f + i - (l.take f ++ win l f i t).length = 0 by simp only [List.length_append, List.length_take, win_len]; omega]
  rw [List.drop_eq_getElem_cons h]
  simp [List.append_assoc, Nat.add_assoc]
theorem turnL_pre (h l : List UInt8) (f i : Nat) (t : Nat → UInt8) : turnL (h ++ l) (h.length + f) i t = h ++ turnL l f i t := by
  have e : win (h ++ l) (h.length + f) i t = win l f i t := by
    unfold win
    apply List.map_congr_left
    intro j _
    congr 1
    simp only [List.getD]
    rw [List.getElem?_append_right (by omega)]
    congr 2
    omega
  unfold turnL
  rw [e, List.take_append, List.drop_append]
  rw [List.take_of_length_le (by omega), show h.length + f - h.length = f by omega, List.drop_eq_nil_of_le (by omega : h.length ≤ h.length + f + i), show h.length + f + i - h.length = f + i by omega]
  simp [List.append_assoc]
theorem orig (l : List UInt8) (f i : Nat) : l = l.take f ++ (l.drop f).take i ++ l.drop (f + i) := by
  rw [List.append_assoc]
  conv => lhs; rw [← List.take_append_drop f l]
  congr 1
  conv => lhs; rw [← List.take_append_drop i (l.drop f)]
  rw [List.drop_drop]
theorem win_same (l : List UInt8) (f i : Nat) (t : Nat → UInt8) (h : f + i ≤ l.length) : win l f i t = (l.drop f).take i ↔ ∀ j, j < i → t j = 0 := by
  constructor
  · intro e j hj
    have e2 : (win l f i t)[j]? = ((l.drop f).take i)[j]? := by rw [e]
    rw [List.getElem?_take_of_lt hj, List.getElem?_drop] at e2
    unfold win at e2
    rw [List.getElem?_map, List.getElem?_range hj, List.getElem?_eq_getElem (show f + j < l.length by omega)] at e2
    simp [List.getD, show f + j < l.length by omega] at e2
    have := congrArg (fun x => l[f + j] ^^^ x) e2
    simpa [← UInt8.xor_assoc] using this
  · intro ht
    apply List.ext_getElem
    · simp only [win_len, List.length_take, List.length_drop]; omega
    · intro j h1 h2
      rw [win_len] at h1
      simp [win, List.getD, show f + j < l.length by omega, ht j h1]
/-- A frame of which a window of what it holds is turned: none, just if it is another. -/
theorem oneP_turned (l : List UInt8) (f i : Nat) (t : Nat → UInt8) (h0 : l.length ≠ 0) (h1 : l.length ≤ 2000) (hf : f + i ≤ l.length) (hi : i ≤ 4) :
    (oneP (turnL (packL l) (6 + f) i t) 0).2.2 = if ∀ j, j < i → t j = 0 then 0 else 5 := by
  have hh : (rowL l.length 2 ++ rowL (crcN (rowL l.length 2 ++ l)) 4).length = 6 := by rw [List.length_append, rowL_len, rowL_len]
  have e1 : turnL (packL l) (6 + f) i t = rowL l.length 2 ++ (rowL (crcN (rowL l.length 2 ++ l)) 4 ++ turnL l f i t) := by
    have := turnL_pre (rowL l.length 2 ++ rowL (crcN (rowL l.length 2 ++ l)) 4) l f i t
    rw [hh] at this
    unfold packL
    rw [← List.append_assoc, this, List.append_assoc]
  have hl := turnL_len l f i t hf
  have e2 := oneP_frame [] [] (turnL l f i t) (crcN (rowL l.length 2 ++ l)) (by omega) (by omega) (crcN_lt _)
  rw [hl] at e2
  simp only [List.nil_append, List.append_nil, List.length_nil, Nat.zero_add] at e2
  rw [e1, e2]
  by_cases ht : ∀ j, j < i → t j = 0
  · have e3 : turnL l f i t = l := by
      unfold turnL
      rw [(win_same l f i t hf).2 ht]
      exact (orig l f i).symm
    rw [if_pos ht, e3, if_pos rfl]
  · rw [if_neg ht, if_neg]
    intro hc
    apply ht
    have e4 : ∀ R : List UInt8, crcN (R ++ l) = crcN ((R ++ l.take f) ++ (l.drop f).take i ++ l.drop (f + i)) := fun R => by
      conv => lhs; rw [orig l f i]
      simp only [List.append_assoc]
    have e5 : crcN (rowL l.length 2 ++ turnL l f i t) = crcN ((rowL l.length 2 ++ l.take f) ++ win l f i t ++ l.drop (f + i)) := by
      unfold turnL
      simp [List.append_assoc]
    rw [e4, e5] at hc
    have := crc_turned _ _ _ _ (by rw [win_len, List.length_take, List.length_drop]; omega) (by rw [List.length_take]; omega) hc
    exact (win_same l f i t hf).1 this.symm
end Go.Proofs.Ytjlhcgimijcghaa
