/- The reference's list of seats: the place of a user. -/
import Derived.Test.YtbmdhhafmieapaaH3
namespace Go.Proofs.Ytbmdhhafmieapaa
open Go Go.RowKit Go.Maps

/-- A list of seats lies in block g. -/
def Rows3 (w : World) (g : Nat) (l : List Known) : Prop := ∀ i x, l[i]? = some x → w.cell? ⟨g, i * 3, none⟩ = some (.string ⟨x.1.toArray⟩) ∧ w.cell? ⟨g, i * 3 + 1, none⟩ = some (.int .i64 x.2.1) ∧ w.cell? ⟨g, i * 3 + 2, none⟩ = some (.int .i64 x.2.2)
structure RefMap (w : World) (q : Nat) (n : Int) (a : Option Addr) (cap : Nat) (g : Nat) (l : List Known) : Prop where
  c0 : w.cell? ⟨q, 0, none⟩ = some (.int .i64 n)
  c1 : w.cell? ⟨q, 1, none⟩ = some (.slice a l.length cap)
  at' : l ≠ [] → a = some ⟨g, 0, none⟩
  rows : Rows3 w g l

/-- The first place that does not lie before the user. -/
def idx : List Known → List UInt8 → Nat
  | [], _ => 0
  | x :: t, u => if Op.bytesLess x.1 u = true then idx t u + 1 else 0
def isK (l : List Known) (u : List UInt8) : Bool := match l[idx l u]? with | some x => x.1 == u | none => false
theorem idx_le (l : List Known) (u : List UInt8) : idx l u ≤ l.length := by
  induction l with
  | nil => exact Nat.le_refl _
  | cons x t ih =>
    unfold idx
    split
    · simp only [List.length_cons]; omega
    · omega
theorem idx_less : ∀ (l : List Known) (u : List UInt8) (k : Nat) (_ : k < idx l u) (h : k < l.length), Op.bytesLess (l[k]'h).1 u = true
  | [], _, k, _, h => by simp at h
  | x :: t, u, k, hk, h => by
    unfold idx at hk
    split at hk
    · rename_i hx
      cases k with
      | zero => exact hx
      | succ j => exact idx_less t u j (by omega) (by simpa using h)
    · omega
theorem idx_not : ∀ (l : List Known) (u : List UInt8) (h : idx l u < l.length), Op.bytesLess (l[idx l u]'h).1 u = false
  | [], _, h => by simp at h
  | x :: t, u, h => by
    by_cases hx : Op.bytesLess x.1 u = true
    · have e : idx (x :: t) u = idx t u + 1 := by rw [idx, if_pos hx]
      have h2 : idx t u < t.length := by rw [e] at h; simpa using h
      have := idx_not t u h2
      simp only [e, List.getElem_cons_succ]
      exact this
    · have e : idx (x :: t) u = 0 := by rw [idx, if_neg hx]
      simp only [e, List.getElem_cons_zero]
      simpa using hx
theorem idx_eq (l : List Known) (u : List UInt8) (k : Nat) (hk : k ≤ idx l u) (h : k < l.length) (hn : Op.bytesLess (l[k]'h).1 u = false) : idx l u = k := by
  by_cases he : k < idx l u
  · rw [idx_less l u k he h] at hn; cases hn
  · omega
theorem idx_next (l : List Known) (u : List UInt8) (k : Nat) (hk : k ≤ idx l u) (h : k < l.length) (hn : Op.bytesLess (l[k]'h).1 u = true) : k + 1 ≤ idx l u := by
  by_cases he : k < idx l u
  · omega
  · have : k = idx l u := by omega
    subst this
    rw [idx_not l u h] at hn; cases hn

set_option maxHeartbeats 1000000 in
set_option maxRecDepth 100000 in
theorem refPlace (q g cap : Nat) (n : Int) (a : Option Addr) (l : List Known) (u : ByteArray) (w : World) (hm : RefMap w q n a cap g l) (hl : l.length ≤ 1000000) :
    Calls Try.prog 25 #[.pointer (some ⟨q, 0, none⟩), .string u] w fun e w' => e = .returned (.tuple #[.int .i64 (idx l u.data.toList : Nat), .bool (isK l u.data.toList)]) ∧ Below w.heap.size w w' := by
  have c0 := hm.c0
  have c1 := hm.c1
  have hle := idx_le l u.data.toList
  go_enter Try.func25, Try.ntmps25
  go_wp2
  go_loop [6] (fun iv => ∃ k : Nat, k ≤ idx l u.data.toList ∧ iv = .int .i64 k) (fun iv => l.length - (intOf iv).toNat)
  case atStart => exact ⟨0, Nat.zero_le _, rfl⟩
  case round =>
    obtain ⟨k, hk, rfl⟩ := hrel
    by_cases hlt : k < l.length
    · obtain ⟨r0, r1, r2⟩ := hm.rows k (l[k]'hlt) (List.getElem?_eq_getElem hlt)
      have ha := hm.at' (by intro h; rw [h] at hlt; simp at hlt)
      subst ha
      go_wp2
      go_ways
      case roundEnd =>
        rename_i hbl
        have hk1 := idx_next l u.data.toList k hk hlt (by rw [ByteArray.toList_eq] at hbl; exact hbl)
        exact ⟨⟨k + 1, hk1, by push_cast; rfl⟩, by simp only [intOf]; omega⟩
      all_goals
        rename_i hbl _ _ _
        rw [ByteArray.toList_eq] at hbl
        have hke : idx l u.data.toList = k := idx_eq l u.data.toList k hk hlt hbl
        have hE : isK l u.data.toList = ((l[k]'hlt).1 == u.toList) := by
          unfold isK
          rw [hke, List.getElem?_eq_getElem hlt, ByteArray.toList_eq]
        go_wp2_with fail
        go_quiet (fail)
        go_wp2
        exact bodyPost_ret (v := .tuple #[.int .i64 (k : Int), .bool ((l[k]'hlt).1 == u.toList)]) (by simp [results, Try.results25, go_sem]) rfl ⟨by rw [hE, hke], rfl, rfl, rfl, Nat.le_refl _, fun _ _ => rfl⟩
    · have hke : k = l.length := by omega
      have hki : idx l u.data.toList = l.length := by omega
      have hE : isK l u.data.toList = false := by
        unfold isK
        rw [hki, List.getElem?_eq_none (Nat.le_refl _)]
      go_wp2
      go_wp2_with fail
      go_quiet (fail)
      go_wp2
      exact bodyPost_ret (v := .tuple #[.int .i64 (l.length : Int), .bool false]) (by simp [results, Try.results25, go_sem]) rfl ⟨by rw [hE, hki], rfl, rfl, rfl, Nat.le_refl _, fun _ _ => rfl⟩
end Go.Proofs.Ytbmdhhafmieapaa
