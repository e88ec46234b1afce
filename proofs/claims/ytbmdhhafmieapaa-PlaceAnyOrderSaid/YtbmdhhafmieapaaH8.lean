/- Lists of seats, rising by the users' bytes: finding, putting. -/
import Derived.Test.YtbmdhhafmieapaaH5
import Derived.Test.YtbmdhhafmieapaaH7
import Derived.WideAt
import Derived.WideShapes
namespace Go.Proofs.Ytbmdhhafmieapaa
open Go Go.RowKit Go.Maps

def Rising (l : List Known) : Prop := l.Pairwise fun x y => Op.bytesLess x.1 y.1 = true
theorem less_before : ∀ a b : List UInt8, Op.bytesLess a b = bytesBefore a b
  | [], [] => rfl
  | [], _ :: _ => rfl
  | _ :: _, [] => rfl
  | a :: x, b :: y => by unfold Op.bytesLess bytesBefore; rw [less_before x y]
theorem less_irrefl (a : List UInt8) : Op.bytesLess a a = false := by rw [less_before]; exact Go.WideAt.bytes_irrefl a
theorem less_trans {a b c : List UInt8} (h1 : Op.bytesLess a b = true) (h2 : Op.bytesLess b c = true) : Op.bytesLess a c = true := by
  rw [less_before] at *; exact Go.WideShapes.bytes_trans a b c h1 h2
theorem less_asymm {a b : List UInt8} (h : Op.bytesLess a b = true) : Op.bytesLess b a = false := by
  cases h2 : Op.bytesLess b a with
  | false => rfl
  | true => have := less_trans h h2; rw [less_irrefl] at this; cases this
theorem less_total {a b : List UInt8} (h : Op.bytesLess a b = false) (hne : a ≠ b) : Op.bytesLess b a = true := by
  rw [less_before] at *
  rcases Go.WideAt.bytes_total a b hne with h1 | h1
  · rw [h1] at h; cases h
  · exact h1
theorem less_ne {a b : List UInt8} (h : Op.bytesLess a b = true) : a ≠ b := by
  intro e; rw [e, less_irrefl] at h; cases h

theorem idx_yes {x : Known} {t : List Known} {u : List UInt8} (h : Op.bytesLess x.1 u = true) : idx (x :: t) u = idx t u + 1 := by rw [idx, if_pos h]
theorem idx_no {x : Known} {t : List Known} {u : List UInt8} (h : Op.bytesLess x.1 u = false) : idx (x :: t) u = 0 := by rw [idx, if_neg (by rw [h]; exact Bool.false_ne_true)]
theorem isK_yes {x : Known} {t : List Known} {u : List UInt8} (h : Op.bytesLess x.1 u = true) : isK (x :: t) u = isK t u := by unfold isK; rw [idx_yes h, List.getElem?_cons_succ]
theorem isK_no {x : Known} {t : List Known} {u : List UInt8} (h : Op.bytesLess x.1 u = false) : isK (x :: t) u = (x.1 == u) := by unfold isK; rw [idx_no h, List.getElem?_cons_zero]

theorem findK_idx (u : List UInt8) : ∀ l : List Known, Rising l → findK l u = if isK l u = true then l[idx l u]? else none
  | [], _ => rfl
  | x :: t, h => by
    obtain ⟨h1, h2⟩ := List.pairwise_cons.mp h
    have ih := findK_idx u t h2
    cases hx : Op.bytesLess x.1 u with
    | true =>
      have hne : (x.1 == u) = false := beq_false_of_ne (less_ne hx)
      rw [isK_yes hx, idx_yes hx, List.getElem?_cons_succ, ← ih]
      unfold findK
      rw [List.find?_cons, hne]
    | false =>
      rw [isK_no hx, idx_no hx, List.getElem?_cons_zero]
      unfold findK
      rw [List.find?_cons]
      cases hk : x.1 == u with
      | true => rfl
      | false =>
        have hlt := less_total hx (ne_of_beq_false hk)
        simp only [Bool.false_eq_true, if_false]
        refine List.find?_eq_none.mpr fun y hy => ?_
        have hxy := h1 y hy
        intro he
        rw [← eq_of_beq he] at hlt
        rw [less_asymm hlt] at hxy
        cases hxy
theorem refSeatOf_eq {l : List Known} (h : Rising l) (u : ByteArray) (n : Int) : refSeatOf l u n = seatOf l u n := by
  unfold refSeatOf seatOf
  rw [findK_idx u.data.toList l h]
  cases hk : isK l u.data.toList with
  | false => rfl
  | true =>
    obtain ⟨hi, _⟩ := isK_lt hk
    rw [if_pos rfl, if_pos rfl, List.getElem?_eq_getElem hi]
    rfl
theorem isSome_isK {l : List Known} (h : Rising l) (u : List UInt8) : (findK l u).isSome = isK l u := by
  rw [findK_idx u l h]
  cases hk : isK l u with
  | false => rfl
  | true =>
    obtain ⟨hi, _⟩ := isK_lt hk
    rw [if_pos rfl, List.getElem?_eq_getElem hi]
    rfl

/-- A seat put into a list. -/
def ins (x : Known) : List Known → List Known
  | [] => [x]
  | y :: t => if Op.bytesLess y.1 x.1 = true then y :: ins x t else if (y.1 == x.1) = true then x :: t else x :: y :: t
def insK (x : Known) : List Known → List Known
  | [] => [x]
  | y :: r => if Op.bytesLess x.1 y.1 = true then x :: y :: r else y :: insK x r
def rowD (x : Known) : Lit × DataW Unit := (.string x.1, entD x)
theorem insert_rows (x : Known) : ∀ l : List Known, DataW.insert (rowD x) (l.map rowD) = (insK x l).map rowD
  | [] => rfl
  | y :: r => by
    have hb : (rowD x).1.before (rowD y).1 = Op.bytesLess x.1 y.1 := (less_before _ _).symm
    rw [List.map_cons, DataW.insert, insK, hb]
    split
    · rfl
    · rw [insert_rows x r, List.map_cons]
theorem filter_ins (x : Known) : ∀ l : List Known, Rising l → insK x (l.filter fun y => !(y.1 == x.1)) = ins x l
  | [], _ => rfl
  | y :: t, h => by
    obtain ⟨h1, h2⟩ := List.pairwise_cons.mp h
    cases hy : Op.bytesLess y.1 x.1 with
    | true =>
      have hne : (y.1 == x.1) = false := beq_false_of_ne (less_ne hy)
      rw [List.filter_cons_of_pos (by rw [hne]; rfl), insK, if_neg (by rw [less_asymm hy]; exact Bool.false_ne_true), ins, if_pos hy, filter_ins x t h2]
    | false =>
      have keep : ∀ z ∈ t, Op.bytesLess x.1 z.1 = true → (!(z.1 == x.1)) = true := by
        intro z _ hz
        rw [beq_false_of_ne (less_ne hz).symm]; rfl
      cases hk : y.1 == x.1 with
      | true =>
        have e : y.1 = x.1 := eq_of_beq hk
        have ft : t.filter (fun y => !(y.1 == x.1)) = t := List.filter_eq_self.mpr fun z hz => keep z hz (by rw [← e]; exact h1 z hz)
        rw [List.filter_cons_of_neg (by rw [hk]; exact Bool.false_ne_true), ft, ins, if_neg (by rw [hy]; exact Bool.false_ne_true), if_pos hk]
        cases t with
        | nil => rfl
        | cons z r => rw [insK, if_pos (by rw [← e]; exact h1 z (List.mem_cons_self ..))]
      | false =>
        have hlt := less_total hy (ne_of_beq_false hk)
        have ft : t.filter (fun y => !(y.1 == x.1)) = t := List.filter_eq_self.mpr fun z hz => keep z hz (less_trans hlt (h1 z hz))
        rw [List.filter_cons_of_pos (by rw [hk]; rfl), ft, insK, if_pos hlt, ins, if_neg (by rw [hy]; exact Bool.false_ne_true), if_neg (by rw [hk]; exact Bool.false_ne_true)]
theorem putK_ins {l : List Known} (h : Rising l) (x : Known) : putK l x = mapD (ins x l) := by
  rw [← filter_ins x l h]
  show DataW.map (DataW.insert (rowD x) ((l.map rowD).filter fun p => !p.1.sameKey (.string x.1))) = DataW.map ((insK x _).map rowD)
  rw [List.filter_map, ← insert_rows]
  rfl
theorem mem_ins {x y : Known} : ∀ {l : List Known}, y ∈ ins x l → y = x ∨ y ∈ l
  | [], h => by rw [ins] at h; exact Or.inl (List.mem_singleton.mp h)
  | z :: t, h => by
    rw [ins] at h
    split at h
    · rcases List.mem_cons.mp h with e | h
      · exact Or.inr (e ▸ List.mem_cons_self ..)
      · rcases mem_ins h with e | h
        · exact Or.inl e
        · exact Or.inr (List.mem_cons_of_mem _ h)
    · split at h
      · rcases List.mem_cons.mp h with e | h
        · exact Or.inl e
        · exact Or.inr (List.mem_cons_of_mem _ h)
      · rcases List.mem_cons.mp h with e | h
        · exact Or.inl e
        · exact Or.inr h
theorem rising_ins (x : Known) : ∀ l : List Known, Rising l → Rising (ins x l)
  | [], _ => List.pairwise_singleton _ _
  | y :: t, h => by
    obtain ⟨h1, h2⟩ := List.pairwise_cons.mp h
    rw [ins]
    split
    · rename_i hy
      refine List.pairwise_cons.mpr ⟨fun z hz => ?_, rising_ins x t h2⟩
      rcases mem_ins hz with e | hz
      · rw [e]; exact hy
      · exact h1 z hz
    · rename_i hy
      have hy : Op.bytesLess y.1 x.1 = false := by simpa using hy
      split
      · rename_i hk
        have e : y.1 = x.1 := eq_of_beq hk
        exact List.pairwise_cons.mpr ⟨fun z hz => by rw [← e]; exact h1 z hz, h2⟩
      · rename_i hk
        have hlt := less_total hy (by intro e; exact hk (by rw [e]; exact beq_self_eq_true _))
        refine List.pairwise_cons.mpr ⟨fun z hz => ?_, h⟩
        rcases List.mem_cons.mp hz with e | hz
        · rw [e]; exact hlt
        · exact less_trans hlt (h1 z hz)
/-- Put is what the reference splices. -/
theorem ins_splice (x : Known) : ∀ l : List Known, ins x l = l.take (idx l x.1) ++ x :: l.drop (idx l x.1 + if isK l x.1 = true then 1 else 0)
  | [] => rfl
  | y :: t => by
    rw [ins]
    cases hy : Op.bytesLess y.1 x.1 with
    | true =>
      rw [if_pos rfl, idx_yes hy, isK_yes hy, ins_splice x t, List.take_succ_cons, Nat.add_right_comm, List.drop_succ_cons, List.cons_append]
    | false =>
      rw [if_neg Bool.false_ne_true, idx_no hy, isK_no hy, List.take_zero, List.nil_append]
      cases y.1 == x.1 with
      | true => rfl
      | false => rfl
theorem length_ins (x : Known) (l : List Known) : (ins x l).length = l.length + if isK l x.1 = true then 0 else 1 := by
  rw [ins_splice]
  have hle := idx_le l x.1
  cases hk : isK l x.1 with
  | false =>
    simp only [List.length_append, List.length_take, List.length_cons, List.length_drop, Bool.false_eq_true, if_false]
    omega
  | true =>
    obtain ⟨hi, _⟩ := isK_lt hk
    simp only [List.length_append, List.length_take, List.length_cons, List.length_drop, if_true]
    omega
end Go.Proofs.Ytbmdhhafmieapaa
