/- Glob: what names are under, and lie elsewhere; how a text begins: the code's and the document's. -/
import Derived.Test.YtnglmaebmabdcaaDoorJL
import Derived.Test.YtnglmaebmabdcaaDoorShelf
namespace Go.Proofs.YtnglmaebmabdcaaDoor
open Go Go.RowKit

def inbL : List UInt8 := [105, 110, 98, 111, 120]
/-- A text begins with the letters of INBOX. -/
def inL (l : List UInt8) : Bool := decide (5 ≤ l.length) && low (l.take 5) == inbL
def underL (name root : List UInt8) : Bool := !root.isEmpty && Lib.hasPrefix name (root ++ [47])
def movedL (name fr tgt : List UInt8) : List UInt8 := if name = fr ∨ underL name fr = true then tgt ++ name.drop fr.length else []
def movesL (name fr : List UInt8) : Bool := decide (name = fr ∨ underL name fr = true)

theorem str_ext {a b : ByteArray} (h : a.data.toList = b.data.toList) : a = b := by
  cases a with | mk da => cases b with | mk db =>
  simp only [ByteArray.mk.injEq]
  exact Array.toList_inj.1 h
theorem mk_list (s : ByteArray) : (⟨s.data.toList.toArray⟩ : ByteArray) = s := str_ext rfl
theorem take_str (s : ByteArray) (n : Nat) : s.extract 0 n = ⟨(s.data.toList.take n).toArray⟩ := str_ext (by rw [Lib.extract_data, List.drop_zero]; rfl)

set_option maxHeartbeats 400000 in
set_option maxRecDepth 100000 in
theorem same (a b : ByteArray) (w : World) :
    Calls Tryd.prog 37 #[.string a, .string b] w fun e w' => e = .returned (.bool (low a.data.toList == low b.data.toList)) ∧ Below w.heap.size w w' := by
  go_enter Tryd.func37, Tryd.ntmps37
  go_wp2_with fail
  refine (lower a _).mono ?_
  rintro e w1 ⟨rfl, h1⟩
  have hz := h1.size
  go_wp2_with fail
  refine (lower b _).mono ?_
  rintro e w2 ⟨rfl, h2⟩
  go_wp2
  go_ret
  exact ⟨rfl, h1.trans (h2.mono hz)⟩

theorem isEmpty_ne (s : ByteArray) (h : s.size ≠ 0) : s.toList.isEmpty = false := by
  rw [Lib.toList_data]
  cases h1 : s.data.toList with
  | nil => exact absurd (by rw [Lib.size_eq, h1]; rfl) h
  | cons _ _ => rfl
theorem isEmpty_eq (s : ByteArray) (h : s.size = 0) : s.toList.isEmpty = true := by
  rw [Lib.toList_data]
  have : s.data.toList = [] := List.eq_nil_of_length_eq_zero (by rw [← Lib.size_eq]; exact h)
  rw [this]; rfl
theorem toList_nil (s : ByteArray) (h : s.size = 0) : s.toList = [] := by
  have := isEmpty_eq s h
  simpa using this
theorem ret_bool {a b : Bool} (h : a = b) : Ending.returned (.bool a) = .returned (.bool b) := by rw [h]
theorem low_INBOX : low [73, 78, 66, 79, 88] = inbL := by decide
theorem inL_yes {l : List UInt8} (h : 5 ≤ l.length) : inL l = (low (l.take 5) == inbL) := by unfold inL; simp [h]
theorem inL_no {l : List UInt8} (h : ¬ 5 ≤ l.length) : inL l = false := by unfold inL; simp [h]

set_option maxHeartbeats 400000 in
set_option maxRecDepth 100000 in
theorem begins (s : ByteArray) (w : World) (hs : s.size ≤ 1000) :
    Calls Tryd.prog 25 #[.string s] w fun e w' => e = .returned (.bool (inL s.data.toList)) ∧ Below w.heap.size w w' := by
  go_enter Tryd.func25, Tryd.ntmps25
  by_cases h5 : 5 ≤ s.size
  · have h5i : (5 : Int) ≤ (s.size : Int) := by omega
    go_wp2_with (first | (go_at_call 37; refine (same _ _ _).mono ?_; rintro e w1 ⟨rfl, h1⟩))
    go_ret
    exact ⟨ret_bool (by rw [low_INBOX]; exact (inL_yes (by rw [← Lib.size_eq]; omega)).symm), h1⟩
  · go_wp2
    go_ret
    exact ⟨ret_bool (inL_no (by rw [← Lib.size_eq]; omega)).symm, Below.refl _ _⟩

set_option maxHeartbeats 400000 in
set_option maxRecDepth 100000 in
theorem refInbox (s : ByteArray) (w : World) (hs : s.size ≤ 1000) :
    Calls Tryd.prog 28 #[.string s] w fun e w' => e = .returned (.bool (inL s.data.toList)) ∧ Below w.heap.size w w' := by
  go_enter Tryd.func28, Tryd.ntmps28
  by_cases h5 : 5 ≤ s.size
  · have h5i : (5 : Int) ≤ (s.size : Int) := by omega
    have hx : (s.extract 0 5).size ≤ 9223372036854775807 := by rw [take_str]; show (List.take 5 s.data.toList).toArray.size ≤ _; simp; omega
    go_wp2_with (first | (go_at_call 12; refine (refLower _ _ hx).mono ?_; rintro e w1 ⟨rfl, h1⟩))
    go_ret
    exact ⟨ret_bool (inL_yes (by rw [← Lib.size_eq]; omega)).symm, h1⟩
  · go_wp2
    go_ret
    exact ⟨ret_bool (inL_no (by rw [← Lib.size_eq]; omega)).symm, Below.refl _ _⟩

theorem underL_none {l r : List UInt8} (h : r.length = 0) : underL l r = false := by
  have : r = [] := List.eq_nil_of_length_eq_zero h
  subst this; rfl
theorem underL_some {l r : List UInt8} (h : r.length ≠ 0) : underL l r = Lib.hasPrefix l (r ++ [47]) := by
  cases r with
  | nil => exact absurd rfl h
  | cons _ _ => rfl

set_option maxHeartbeats 400000 in
set_option maxRecDepth 100000 in
theorem under_any (s r : ByteArray) (w : World) (hs : s.size ≤ 1000) (hr : r.size ≤ 1000) :
    Calls Tryd.prog 16 #[.string s, .string r] w fun e w' => e = .returned (.bool (underL s.data.toList r.data.toList)) ∧ w' = w := by
  go_enter Tryd.func16, Tryd.ntmps16
  by_cases h0 : r.size = 0
  · have hnil := isEmpty_eq r h0
    have hnil2 := toList_nil r h0
    go_wp2
    go_ret
    exact ⟨ret_bool (underL_none (by rw [← Lib.size_eq]; omega)).symm, rfl⟩
  · have hne := isEmpty_ne r h0
    go_wp2_with (first | (go_at_call 26; refine (Tryd.strings_HasPrefix _ _ _).mono ?_; rintro e w1 ⟨rfl, rfl⟩))
    go_ret
    refine ⟨ret_bool ?_, rfl⟩
    rw [underL_some (by rw [← Lib.size_eq]; omega)]

theorem underL_ref (l r : List UInt8) : underL l r = true ↔ 0 < r.length ∧ r.length < l.length ∧ l.take r.length = r ∧ l[r.length]? = some 47 := by
  cases hr : r with
  | nil => simp [underL]
  | cons a r' =>
    rw [← hr]
    have h0 : r.length ≠ 0 := by rw [hr]; simp
    rw [underL_some h0]
    unfold Lib.hasPrefix
    rw [List.isPrefixOf_iff_prefix]
    constructor
    · rintro ⟨t, rfl⟩
      refine ⟨by omega, by simp, by simp, by simp⟩
    · rintro ⟨h1, h2, h3, h4⟩
      refine ⟨l.drop (r.length + 1), ?_⟩
      have : l.drop r.length = 47 :: l.drop (r.length + 1) := by
        rw [List.getElem?_eq_getElem h2] at h4
        rw [List.drop_eq_getElem_cons h2]
        injection h4 with h4
        rw [h4]
      calc r ++ [47] ++ l.drop (r.length + 1) = l.take r.length ++ l.drop r.length := by rw [h3, this]; simp
        _ = l := List.take_append_drop _ _

theorem underL_size (s r : ByteArray) : underL s.data.toList r.data.toList = true ↔ 0 < r.size ∧ r.size < s.size ∧ s.extract 0 r.size = r ∧ s.data.toList[r.size]? = some 47 := by
  rw [underL_ref, ← Lib.size_eq, ← Lib.size_eq]
  constructor
  · rintro ⟨h1, h2, h3, h4⟩
    exact ⟨h1, h2, str_ext (by rw [Lib.extract_data, List.drop_zero]; exact h3), h4⟩
  · rintro ⟨h1, h2, h3, h4⟩
    refine ⟨h1, h2, ?_, h4⟩
    have := congrArg (fun x : ByteArray => x.data.toList) h3
    simp only [Lib.extract_data, List.drop_zero] at this
    exact this
theorem get_at_list (s : ByteArray) (i : Nat) (h : i < s.size) : s.data.toList[i]? = some s[i] := by
  rw [List.getElem?_eq_getElem (by rw [← Lib.size_eq]; exact h)]
  rfl
theorem toList_inj {a b : ByteArray} (h : a.toList = b.toList) : a = b := str_ext (by rw [← Lib.toList_data, ← Lib.toList_data]; exact h)
theorem u8_sign (c : UInt8) : ((c.toNat : Int) == 47) = (c == 47) := by
  rw [Bool.eq_iff_iff, beq_iff_eq, beq_iff_eq]
  constructor
  · intro h
    exact UInt8.toNat_inj.1 (by show c.toNat = 47; omega)
  · rintro rfl
    rfl

set_option maxHeartbeats 400000 in
set_option maxRecDepth 100000 in
theorem refUnder (s r : ByteArray) (w : World) (hs : s.size ≤ 1000) (hr : r.size ≤ 1000) :
    Calls Tryd.prog 17 #[.string s, .string r] w fun e w' => e = .returned (.bool (underL s.data.toList r.data.toList)) ∧ w' = w := by
  have HU := Lib.hid (underL_size s r)
  go_enter Tryd.func17, Tryd.ntmps17
  by_cases h0 : 0 < r.size
  · by_cases h1 : r.size < s.size
    · by_cases h3 : (s.extract 0 r.size).toList = r.toList
      · go_wp2
        go_ret
        refine ⟨ret_bool ?_, rfl⟩
        rw [u8_sign, Bool.eq_iff_iff, HU.out, beq_iff_eq, get_at_list s r.size h1]
        exact ⟨fun h => ⟨h0, h1, toList_inj h3, by rw [h]⟩, fun h => Option.some.inj h.2.2.2⟩
      · go_wp2
        go_ret
        refine ⟨ret_bool ?_, rfl⟩
        rw [Bool.eq_iff_iff, HU.out]
        exact ⟨fun h => (Bool.false_ne_true h).elim, fun h => absurd (by rw [h.2.2.1]) h3⟩
    · go_wp2
      go_ret
      refine ⟨ret_bool ?_, rfl⟩
      rw [Bool.eq_iff_iff, HU.out]
      exact ⟨fun h => (Bool.false_ne_true h).elim, fun h => absurd h.2.1 h1⟩
  · go_wp2
    go_ret
    refine ⟨ret_bool ?_, rfl⟩
    rw [Bool.eq_iff_iff, HU.out]
    exact ⟨fun h => (Bool.false_ne_true h).elim, fun h => absurd h.1 h0⟩

/-- What Moved tells. -/
def MovR (s f t : ByteArray) (e : Ending) : Prop := e = .returned (.tuple #[.string ⟨(movedL s.data.toList f.data.toList t.data.toList).toArray⟩, .bool (movesL s.data.toList f.data.toList)])
theorem underL_le {l r : List UInt8} (h : underL l r = true) : r.length ≤ l.length := by
  have := (underL_ref l r).1 h
  omega

theorem MovR.yes {s f t : ByteArray} (h : s = f ∨ underL s.data.toList f.data.toList = true) : MovR s f t (.returned (.tuple #[.string (t ++ s.extract f.size s.size), .bool true])) := by
  have h' : s.data.toList = f.data.toList ∨ underL s.data.toList f.data.toList = true := h.elim (fun e => .inl (by rw [e])) .inr
  unfold MovR movedL movesL
  rw [if_pos h', decide_eq_true h']
  have : t ++ s.extract f.size s.size = ⟨(t.data.toList ++ s.data.toList.drop f.data.toList.length).toArray⟩ := str_ext (by
    rw [← Lib.size_eq]
    show (t ++ s.extract f.size s.size).data.toList = t.data.toList ++ s.data.toList.drop f.size
    rw [← Lib.extract_to_end s f.size, ByteArray.data_append, Array.toList_append])
  rw [this]
theorem MovR.no {s f t : ByteArray} (h1 : s ≠ f) (h2 : underL s.data.toList f.data.toList = false) : MovR s f t (.returned (.tuple #[.string ⟨#[]⟩, .bool false])) := by
  have h' : ¬ (s.data.toList = f.data.toList ∨ underL s.data.toList f.data.toList = true) := by
    rintro (h | h)
    · exact h1 (str_ext h)
    · rw [h2] at h; cases h
  unfold MovR movedL movesL
  rw [if_neg h', decide_eq_false h']

set_option maxHeartbeats 400000 in
set_option maxRecDepth 100000 in
theorem moved_any (s f t : ByteArray) (w : World) (hs : s.size ≤ 1000) (hf : f.size ≤ 1000) (ht : t.size ≤ 1000) :
    Calls Tryd.prog 18 #[.string s, .string f, .string t] w fun e w' => MovR s f t e ∧ w' = w := by
  have hU := under_any s f w hs hf
  go_enter Tryd.func18, Tryd.ntmps18
  have hsum : t.size + (s.extract f.size s.size).size ≤ 9223372036854775807 := by rw [Lib.size_eq (s.extract _ _), Lib.extract_to_end, List.length_drop, ← Lib.size_eq]; omega
  by_cases h1 : s = f
  · have hy := Lib.hid (MovR.yes (t := t) (.inl h1))
    have h2 : s.toList = f.toList := by rw [h1]
    have hle : f.size ≤ s.size := by rw [h1]; exact Nat.le_refl _
    clear h1 hU
    go_wp2
    go_ret2
    exact ⟨hy.out, rfl⟩
  · have h2 : (s.toList == f.toList) = false := beq_eq_false_iff_ne.2 fun h => h1 (toList_inj h)
    cases hu : underL s.data.toList f.data.toList with
    | true =>
      rw [hu] at hU
      have hle : f.size ≤ s.size := by rw [Lib.size_eq, Lib.size_eq]; exact underL_le hu
      have hy := Lib.hid (MovR.yes (t := t) (.inr hu))
      clear hu h1
      go_wp2_with (first | (go_at_call 16; refine hU.mono ?_; rintro e w1 ⟨rfl, rfl⟩))
      go_ret2
      exact ⟨hy.out, rfl⟩
    | false =>
      rw [hu] at hU
      have hy := Lib.hid (MovR.no (t := t) h1 hu)
      clear hu h1
      go_wp2_with (first | (go_at_call 16; refine hU.mono ?_; rintro e w1 ⟨rfl, rfl⟩))
      go_ret2
      exact ⟨hy.out, rfl⟩

set_option maxHeartbeats 400000 in
set_option maxRecDepth 100000 in
theorem refMoved (s f t : ByteArray) (w : World) (hs : s.size ≤ 1000) (hf : f.size ≤ 1000) (ht : t.size ≤ 1000) :
    Calls Tryd.prog 19 #[.string s, .string f, .string t] w fun e w' => MovR s f t e ∧ w' = w := by
  have hU := refUnder s f w hs hf
  go_enter Tryd.func19, Tryd.ntmps19
  have hsum : t.size + (s.extract f.size s.size).size ≤ 9223372036854775807 := by rw [Lib.size_eq (s.extract _ _), Lib.extract_to_end, List.length_drop, ← Lib.size_eq]; omega
  by_cases h1 : s = f
  · have hy := Lib.hid (MovR.yes (t := t) (.inl h1))
    have h2 : s.toList = f.toList := by rw [h1]
    have hle : f.size ≤ s.size := by rw [h1]; exact Nat.le_refl _
    clear h1 hU
    go_wp2
    go_ret2
    exact ⟨hy.out, rfl⟩
  · have h2 : (s.toList == f.toList) = false := beq_eq_false_iff_ne.2 fun h => h1 (toList_inj h)
    cases hu : underL s.data.toList f.data.toList with
    | true =>
      rw [hu] at hU
      have hle : f.size ≤ s.size := by rw [Lib.size_eq, Lib.size_eq]; exact underL_le hu
      have hy := Lib.hid (MovR.yes (t := t) (.inr hu))
      clear hu h1
      go_wp2_with (first | (go_at_call 17; refine hU.mono ?_; rintro e w1 ⟨rfl, rfl⟩))
      go_ret2
      exact ⟨hy.out, rfl⟩
    | false =>
      rw [hu] at hU
      have hy := Lib.hid (MovR.no (t := t) h1 hu)
      clear hu h1
      go_wp2_with (first | (go_at_call 17; refine hU.mono ?_; rintro e w1 ⟨rfl, rfl⟩))
      go_ret2
      exact ⟨hy.out, rfl⟩

/-- A text's first 200 bytes. -/
def shortS (s : ByteArray) : ByteArray := if 200 < s.size then s.extract 0 200 else s
theorem shortS_le (s : ByteArray) : (shortS s).size ≤ 200 := by
  unfold shortS
  split
  · rw [Lib.size_eq, Lib.extract_data, List.length_take]; omega
  · omega
set_option maxHeartbeats 400000 in
set_option maxRecDepth 100000 in
theorem short_any (s : ByteArray) (w : World) : Calls Tryd.prog 8 #[.string s] w fun e w' => e = .returned (.string (shortS s)) ∧ w' = w := by
  unfold shortS
  go_enter Tryd.func8, Tryd.ntmps8
  by_cases h : 200 < s.size
  · rw [if_pos h]
    go_wp2
    go_ret
    exact ⟨rfl, rfl⟩
  · rw [if_neg h]
    go_wp2
    go_ret
    exact ⟨rfl, rfl⟩
end Go.Proofs.YtnglmaebmabdcaaDoor
