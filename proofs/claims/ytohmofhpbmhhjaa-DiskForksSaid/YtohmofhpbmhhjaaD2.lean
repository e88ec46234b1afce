/- Disk: what a disk's memory is; has, goesDown, Down, Age, Waits, Cut. -/
import Derived.Test.YtohmofhpbmhhjaaD1
import Derived.Test.YtohmofhpbmhhjaaChecked
import Derived.Deep.QuietTactic
import Derived.BigQuiet
import Derived.StillTailTactics
namespace Go.Proofs.Ytohmofhpbmhhjaa
open Go Go.RowKit

structure St where
  sure : List (List UInt8)
  waits : List (Nat × List UInt8)
  cut : Nat
  down : Bool
  age : Nat
structure St.Ok (s : St) : Prop where
  pages : ∀ p ∈ s.sure, p.length = 64
  writes : ∀ x ∈ s.waits, x.1 < s.sure.length ∧ x.2.length = 64
  some : 0 < s.sure.length
  few : s.sure.length ≤ 512
  cut : s.cut ≤ 9223372036854775807
  wn : s.waits.length ≤ 1000
  an : s.age ≤ 1000

/-- The disk in block D is s; its blocks are O's. -/
structure Dsk (O : Nat → Prop) (w : World) (D S c : Nat) (wv : Value) (s : St) : Prop where
  ok : s.Ok
  blk : w.heap[D]? = some (.cells #[.slice (some ⟨S, 0, none⟩) s.sure.length c, wv, .int .i64 (s.cut : Int), .bool s.down, .int .i64 (s.age : Int)] 58 (0, 0))
  sure : w.ownsRow 0 61 64 (.slice (some ⟨S, 0, none⟩) s.sure.length c) s.sure.length (s.sure.flatMap pgC)
  waits : w.ownsRow 0 63 65 wv s.waits.length (s.waits.flatMap wrC)
  memD : O D
  memS : O S ∧ S ≠ D
  memW : ∀ g, wv.ownBlock = some g → O g ∧ g ≠ D ∧ g ≠ S
  lt : ∀ k, O k → k < w.heap.size

section
variable {O : Nat → Prop} {w : World} {D S c : Nat} {wv : Value} {s : St}
theorem Dsk.c0 (h : Dsk O w D S c wv s) : w.cell? ⟨D, 0, none⟩ = some (.slice (some ⟨S, 0, none⟩) s.sure.length c) := by rw [cell_of_row _ _ _ _ _ _ h.blk]; rfl
theorem Dsk.c1 (h : Dsk O w D S c wv s) : w.cell? ⟨D, 1, none⟩ = some wv := by rw [cell_of_row _ _ _ _ _ _ h.blk]; rfl
theorem Dsk.c2 (h : Dsk O w D S c wv s) : w.cell? ⟨D, 2, none⟩ = some (.int .i64 (s.cut : Int)) := by rw [cell_of_row _ _ _ _ _ _ h.blk]; rfl
theorem Dsk.c3 (h : Dsk O w D S c wv s) : w.cell? ⟨D, 3, none⟩ = some (.bool s.down) := by rw [cell_of_row _ _ _ _ _ _ h.blk]; rfl
theorem Dsk.c4 (h : Dsk O w D S c wv s) : w.cell? ⟨D, 4, none⟩ = some (.int .i64 (s.age : Int)) := by rw [cell_of_row _ _ _ _ _ _ h.blk]; rfl
theorem Dsk.free (h : Dsk O w D S c wv s) (j : Nat) : w.frozen? ⟨D, j, none⟩ = false := frozen_of_row _ _ _ _ _ h.blk
theorem Dsk.fr {w' : World} {o : Nat → Prop} (h : Dsk O w D S c wv s) (hf : Fr o w w') (hd : ∀ k, O k → ¬ o k) : Dsk O w' D S c wv s := by
  have hb : ∀ k, O k → w'.heap[k]? = w.heap[k]? := fun k hk => hf.block k (h.lt k hk) (hd k hk)
  exact ⟨h.ok, (hb D h.memD).trans h.blk, owns_frame h.sure (fun k hk => by cases hk; exact hb S h.memS.1), owns_frame h.waits (fun k hk => hb k (h.memW k hk).1), h.memD, h.memS, h.memW, fun k hk => Nat.lt_of_lt_of_le (h.lt k hk) hf.size⟩
theorem Dsk.below {w' : World} (h : Dsk O w D S c wv s) (hb : Below w.heap.size w w') : Dsk O w' D S c wv s := h.fr (Fr.of_below (fun _ => False) hb) (fun _ _ => id)
/-- The struct's own cells turn. -/
theorem Dsk.put {w' : World} {s' : St} (h : Dsk O w D S c wv s) (hs : s'.sure = s.sure) (hw : s'.waits = s.waits) (hok : s'.Ok)
    (hD : w'.heap[D]? = some (.cells #[.slice (some ⟨S, 0, none⟩) s.sure.length c, wv, .int .i64 (s'.cut : Int), .bool s'.down, .int .i64 (s'.age : Int)] 58 (0, 0)))
    (hf : Fr (· = D) w w') : Dsk O w' D S c wv s' := by
  have hb : ∀ k, O k → k ≠ D → w'.heap[k]? = w.heap[k]? := fun k hk hn => hf.block k (h.lt k hk) hn
  refine ⟨hok, by rw [hs]; exact hD, ?_, ?_, h.memD, h.memS, h.memW, fun k hk => Nat.lt_of_lt_of_le (h.lt k hk) hf.size⟩
  · rw [hs]; exact owns_frame h.sure (fun k hk => by cases hk; exact hb S h.memS.1 h.memS.2)
  · rw [hw]; exact owns_frame h.waits (fun k hk => hb k (h.memW k hk).1 (h.memW k hk).2.1)
theorem Dsk.wshape (h : Dsk O w D S c wv s) : ∃ a k, wv = .slice a s.waits.length k ∧ s.waits.length ≤ k := owns_shape h.waits
end

set_option maxHeartbeats 400000 in
theorem has_yes (w : World) (D S c n : Nat) (i : Int) (c0 : w.cell? ⟨D, 0, none⟩ = some (.slice (some ⟨S, 0, none⟩) n c)) (hi : 0 ≤ i) (hin : i < (n : Int)) :
    Calls Try.prog 25 #[.pointer (some ⟨D, 0, none⟩), .int .i64 i] w fun e w' => e = .returned (.bool true) ∧ w = w' := by
  go_enter Try.func25, Try.ntmps25
  go_wp2
  go_ret
  exact ⟨rfl, rfl⟩
set_option maxHeartbeats 400000 in
theorem has_no (w : World) (D S c n : Nat) (i : Int) (c0 : w.cell? ⟨D, 0, none⟩ = some (.slice (some ⟨S, 0, none⟩) n c)) (hi : ¬ (0 ≤ i ∧ i < (n : Int))) :
    Calls Try.prog 25 #[.pointer (some ⟨D, 0, none⟩), .int .i64 i] w fun e w' => e = .returned (.bool false) ∧ w = w' := by
  by_cases h0 : 0 ≤ i
  · have h1 : ¬ i < (n : Int) := fun h => hi ⟨h0, h⟩
    clear hi
    go_enter Try.func25, Try.ntmps25
    go_wp2
    go_ret
    exact ⟨rfl, rfl⟩
  · clear hi
    go_enter Try.func25, Try.ntmps25
    go_wp2
    go_ret
    exact ⟨rfl, rfl⟩

/-- What a Write or a Flush that would be OK does to the cut. -/
def St.go (s : St) : St × Bool := if s.cut = 0 then (s, false) else ({ s with cut := s.cut - 1, down := decide (s.cut = 1) }, decide (s.cut = 1))
theorem St.go_ok {s : St} (h : s.Ok) : s.go.1.Ok := by
  unfold St.go
  split
  · exact h
  · exact ⟨h.pages, h.writes, h.some, h.few, by have := h.cut; simp only; omega, h.wn, h.an⟩

theorem goesDown_none (w : World) (D : Nat) (c2 : w.cell? ⟨D, 2, none⟩ = some (.int .i64 0)) :
    Calls Try.prog 26 #[.pointer (some ⟨D, 0, none⟩)] w fun e w' => e = .returned (.bool false) ∧ w = w' := by
  go_enter Try.func26, Try.ntmps26
  go_wp2
  go_ret
  exact ⟨rfl, rfl⟩
set_option maxHeartbeats 800000 in
theorem goesDown_cut (w : World) (D n : Nat) (v : Value) (hn : 0 < n) (hm : n ≤ 9223372036854775807) (c2 : w.cell? ⟨D, 2, none⟩ = some (.int .i64 (n : Int))) (c3 : w.cell? ⟨D, 3, none⟩ = some v) (f2 : w.frozen? ⟨D, 2, none⟩ = false) (f3 : w.frozen? ⟨D, 3, none⟩ = false) :
    Calls Try.prog 26 #[.pointer (some ⟨D, 0, none⟩)] w fun e w' => e = .returned (.bool (decide (n = 1))) ∧ w' = (w.setCell ⟨D, 2, none⟩ (.int .i64 ((n - 1 : Nat) : Int))).setCell ⟨D, 3, none⟩ (.bool (decide (n = 1))) := by
  obtain ⟨m, rfl⟩ : ∃ m, n = m + 1 := ⟨n - 1, by omega⟩
  have h1 : ((m : Int) == 0) = decide (m + 1 = 1) := by
    by_cases h : m = 0
    · subst h; rfl
    · rw [decide_eq_false (by omega), beq_eq_false_iff_ne]; omega
  have h0 : (((m + 1 : Nat) : Int) == 0) = false := by rw [beq_eq_false_iff_ne]; omega
  go_enter Try.func26, Try.ntmps26
  go_wp2
  go_ret
  exact ⟨by simp, by simp⟩
theorem goes_any {O : Nat → Prop} {w : World} {D S c : Nat} {wv : Value} {s : St} (h : Dsk O w D S c wv s) (hd : s.down = false) :
    Calls Try.prog 26 #[.pointer (some ⟨D, 0, none⟩)] w fun e w' => e = .returned (.bool s.go.2) ∧ Dsk O w' D S c wv s.go.1 ∧ Fr (· = D) w w' := by
  have hok := St.go_ok h.ok
  by_cases hc : s.cut = 0
  · have e : s.go = (s, false) := if_pos hc
    rw [e]
    exact (goesDown_none w D (by rw [h.c2, hc]; rfl)).mono fun e w' ⟨h1, h2⟩ => by subst h2; exact ⟨h1, h, Fr.refl _ _⟩
  · have e : s.go = ({ s with cut := s.cut - 1, down := decide (s.cut = 1) }, decide (s.cut = 1)) := if_neg hc
    rw [e] at hok ⊢
    refine (goesDown_cut w D s.cut _ (by omega) h.ok.cut h.c2 h.c3 (h.free 2) (h.free 3)).mono ?_
    rintro e w' ⟨rfl, rfl⟩
    have hf : Fr (· = D) w ((w.setCell ⟨D, 2, none⟩ (.int .i64 ((s.cut - 1 : Nat) : Int))).setCell ⟨D, 3, none⟩ (.bool (decide (s.cut = 1)))) := ((Fr.refl (· = D) w).setCell ⟨D, 2, none⟩ (Or.inl rfl) _).setCell ⟨D, 3, none⟩ (Or.inl rfl) _
    refine ⟨rfl, h.put rfl rfl hok ?_ hf, hf⟩
    rw [heap_setCell_same _ D 3 _ _ _ (heap_setCell_same _ D 2 _ _ _ h.blk)]
    rfl

theorem down_any {O : Nat → Prop} {w : World} {D S c : Nat} {wv : Value} {s : St} (h : Dsk O w D S c wv s) :
    Calls Try.prog 17 #[.pointer (some ⟨D, 0, none⟩)] w fun e w' => e = .returned (.bool s.down) ∧ w = w' := by
  have c3 := h.c3
  clear h
  generalize s.down = b at *
  go_enter Try.func17, Try.ntmps17
  go_wp2
  go_ret
  exact ⟨rfl, rfl⟩
theorem age_any {O : Nat → Prop} {w : World} {D S c : Nat} {wv : Value} {s : St} (h : Dsk O w D S c wv s) :
    Calls Try.prog 23 #[.pointer (some ⟨D, 0, none⟩)] w fun e w' => e = .returned (.int .i64 (s.age : Int)) ∧ w = w' := by
  have c4 := h.c4
  clear h
  go_enter Try.func23, Try.ntmps23
  go_wp2
  go_ret
  exact ⟨rfl, rfl⟩
theorem waits_any {O : Nat → Prop} {w : World} {D S c : Nat} {wv : Value} {s : St} (h : Dsk O w D S c wv s) :
    Calls Try.prog 18 #[.pointer (some ⟨D, 0, none⟩)] w fun e w' => e = .returned (.int .i64 (s.waits.length : Int)) ∧ w = w' := by
  have c1 := h.c1
  obtain ⟨a, k, rfl, _⟩ := h.wshape
  clear h
  go_enter Try.func18, Try.ntmps18
  go_wp2
  go_ret
  exact ⟨rfl, rfl⟩

/-- Cut. -/
def St.cutE (s : St) (n : Int) : Nat := if s.down then 7 else if n < 0 then 2 else 0
def St.cutS (s : St) (n : Int) : St := if s.down then s else if n < 0 then s else { s with cut := n.toNat }
theorem cut_down (w : World) (D : Nat) (n : Int) (c3 : w.cell? ⟨D, 3, none⟩ = some (.bool true)) :
    Calls Try.prog 13 #[.pointer (some ⟨D, 0, none⟩), .int .i64 n] w fun e w' => e = .returned (.int .i64 7) ∧ w = w' := by
  go_enter Try.func13, Try.ntmps13
  go_wp2
  go_ret
  exact ⟨rfl, rfl⟩
theorem cut_arg (w : World) (D : Nat) (n : Int) (hn : n < 0) (c3 : w.cell? ⟨D, 3, none⟩ = some (.bool false)) :
    Calls Try.prog 13 #[.pointer (some ⟨D, 0, none⟩), .int .i64 n] w fun e w' => e = .returned (.int .i64 2) ∧ w = w' := by
  go_enter Try.func13, Try.ntmps13
  go_wp2
  go_ret
  exact ⟨rfl, rfl⟩
theorem cut_ok (w : World) (D : Nat) (n : Int) (hn : ¬ n < 0) (v : Value) (c2 : w.cell? ⟨D, 2, none⟩ = some v) (f2 : w.frozen? ⟨D, 2, none⟩ = false) (c3 : w.cell? ⟨D, 3, none⟩ = some (.bool false)) :
    Calls Try.prog 13 #[.pointer (some ⟨D, 0, none⟩), .int .i64 n] w fun e w' => e = .returned (.int .i64 0) ∧ w' = w.setCell ⟨D, 2, none⟩ (.int .i64 n) := by
  go_enter Try.func13, Try.ntmps13
  go_wp2
  go_ret
  exact ⟨rfl, rfl⟩
theorem cut_any {O : Nat → Prop} {w : World} {D S c : Nat} {wv : Value} {s : St} (h : Dsk O w D S c wv s) (n : Int) (hn : n ≤ 9223372036854775807) :
    Calls Try.prog 13 #[.pointer (some ⟨D, 0, none⟩), .int .i64 n] w fun e w' => e = .returned (.int .i64 (s.cutE n : Nat)) ∧ Dsk O w' D S c wv (s.cutS n) ∧ Fr (· = D) w w' := by
  unfold St.cutE St.cutS
  have c3 := h.c3
  cases hd : s.down
  · rw [hd] at c3
    by_cases h0 : n < 0
    · simp only [h0, if_true, Bool.false_eq_true, if_false]
      exact (cut_arg w D n h0 c3).mono fun e w' ⟨h1, h2⟩ => by subst h2; exact ⟨h1, h, Fr.refl _ _⟩
    · simp only [h0, Bool.false_eq_true, if_false]
      refine (cut_ok w D n h0 _ h.c2 (h.free 2) c3).mono ?_
      rintro e w' ⟨rfl, rfl⟩
      have hf : Fr (· = D) w (w.setCell ⟨D, 2, none⟩ (.int .i64 n)) := (Fr.refl (· = D) w).setCell ⟨D, 2, none⟩ (Or.inl rfl) _
      refine ⟨rfl, h.put rfl rfl ⟨h.ok.pages, h.ok.writes, h.ok.some, h.ok.few, by simp only; omega, h.ok.wn, h.ok.an⟩ ?_ hf, hf⟩
      rw [heap_setCell_same _ D 2 _ _ _ h.blk]
      simp only [Int.toNat_of_nonneg (Int.not_lt.1 h0), hd]
      rfl
  · rw [hd] at c3
    simp only [if_true]
    exact (cut_down w D n c3).mono fun e w' ⟨h1, h2⟩ => by subst h2; exact ⟨h1, h, Fr.refl _ _⟩
end Go.Proofs.Ytohmofhpbmhhjaa
