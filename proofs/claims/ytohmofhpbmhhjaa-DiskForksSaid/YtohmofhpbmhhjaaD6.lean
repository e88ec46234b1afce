/- Disk: Write in all cases; Flush. -/
import Derived.Test.YtohmofhpbmhhjaaD5
namespace Go.Proofs.Ytohmofhpbmhhjaa
open Go Go.RowKit

theorem Now.same {O : Nat → Prop} {w : World} {D S c : Nat} {wv : Value} {s : St} (h : Dsk O w D S c wv s) : Now O w D S c s w := ⟨O, wv, h, Fr.refl _ _, fun _ h => Or.inl h⟩
theorem Now.own {O : Nat → Prop} {w w' : World} {D S c : Nat} {wv : Value} {s : St} (h : Dsk O w' D S c wv s) (hf : Fr (· = D) w w') : Now O w D S c s w' :=
  ⟨O, wv, h, hf.mono (fun k _ e => by subst e; exact h.memD), fun _ h => Or.inl h⟩

theorem write_down (w : World) (D : Nat) (i : Int) (v : Value) (c3 : w.cell? ⟨D, 3, none⟩ = some (.bool true)) :
    Calls Try.prog 11 #[.pointer (some ⟨D, 0, none⟩), .int .i64 i, v] w fun e w' => e = .returned (.int .i64 7) ∧ w = w' := by
  go_enter Try.func11, Try.ntmps11
  go_wp2
  go_ret
  exact ⟨rfl, rfl⟩
theorem write_arg (w : World) (D S c n : Nat) (i : Int) (v : Value) (c0 : w.cell? ⟨D, 0, none⟩ = some (.slice (some ⟨S, 0, none⟩) n c)) (c3 : w.cell? ⟨D, 3, none⟩ = some (.bool false)) (hi : ¬ (0 ≤ i ∧ i < (n : Int))) :
    Calls Try.prog 11 #[.pointer (some ⟨D, 0, none⟩), .int .i64 i, v] w fun e w' => e = .returned (.int .i64 2) ∧ w = w' := by
  have hh := has_no w D S c n i c0 hi
  clear hi
  go_enter Try.func11, Try.ntmps11
  go_wp2_with fail
  refine hh.mono ?_
  rintro e w' ⟨rfl, rfl⟩
  go_wp2
  go_ret
  exact ⟨rfl, rfl⟩
theorem write_long (w : World) (D S c n : Nat) (i : Int) (a : Option Addr) (m k : Nat) (c0 : w.cell? ⟨D, 0, none⟩ = some (.slice (some ⟨S, 0, none⟩) n c)) (c3 : w.cell? ⟨D, 3, none⟩ = some (.bool false)) (h0 : 0 ≤ i) (h1 : i < (n : Int)) (hm : 64 < (m : Int)) :
    Calls Try.prog 11 #[.pointer (some ⟨D, 0, none⟩), .int .i64 i, .slice a m k] w fun e w' => e = .returned (.int .i64 6) ∧ w = w' := by
  have hh := has_yes w D S c n i c0 h0 h1
  go_enter Try.func11, Try.ntmps11
  go_wp2_with fail
  refine hh.mono ?_
  rintro e w' ⟨rfl, rfl⟩
  go_wp2
  go_ret
  exact ⟨rfl, rfl⟩
theorem write_cut {O : Nat → Prop} {w : World} {D S c : Nat} {wv : Value} {s : St} (h : Dsk O w D S c wv s) (hd : s.down = false) (i : Int) (a : Option Addr) (m k : Nat) (h0 : 0 ≤ i) (h1 : i < (s.sure.length : Int)) (hm : ¬ 64 < (m : Int)) (hg : s.go.2 = true) :
    Calls Try.prog 11 #[.pointer (some ⟨D, 0, none⟩), .int .i64 i, .slice a m k] w fun e w' => e = .returned (.int .i64 7) ∧ Now O w D S c s.go.1 w' := by
  have hh := has_yes w D S c _ i h.c0 h0 h1
  have hgo := goes_any h hd
  rw [hg] at hgo
  have c3 := h.c3
  rw [hd] at c3
  clear h
  have HG := Lib.hid hgo
  clear hgo
  go_enter Try.func11, Try.ntmps11
  go_wp2_with fail
  refine hh.mono ?_
  rintro e w' ⟨rfl, rfl⟩
  go_wp2_with fail
  refine HG.out.mono ?_
  rintro e w1 ⟨rfl, h1, f1⟩
  have N := Lib.hid (Now.own h1 f1)
  clear h1 f1
  go_wp2
  go_ret
  exact ⟨rfl, N.out⟩
def St.wrote (s : St) (i : Int) (l : List UInt8) : St × Nat :=
  if s.down then (s, 7) else if ¬ (0 ≤ i ∧ i < (s.sure.length : Int)) then (s, 2) else if 64 < l.length then (s, 6) else if s.go.2 then (s.go.1, 7)
  else ({ s.go.1 with waits := s.go.1.waits ++ [(i.toNat, pad l)] }, 0)
theorem write_any {O : Nat → Prop} {w : World} {D S c : Nat} {wv : Value} {s : St} (h : Dsk O w D S c wv s) (i : Int) (v : Value) (l : List UInt8) (hv : Byz w v l) (hvO : ∀ g, v.ownBlock = some g → l ≠ [] → ¬ O g) (hn : s.waits.length + 1 ≤ 1000) :
    Calls Try.prog 11 #[.pointer (some ⟨D, 0, none⟩), .int .i64 i, v] w fun e w' => e = .returned (.int .i64 ((s.wrote i l).2 : Nat)) ∧ Now O w D S c (s.wrote i l).1 w' := by
  unfold St.wrote
  have c3 := h.c3
  cases hd : s.down
  · rw [hd] at c3
    rw [if_neg (by simp)]
    by_cases hi : 0 ≤ i ∧ i < (s.sure.length : Int)
    · rw [if_neg (by simpa using hi)]
      obtain ⟨a, k, rfl⟩ := hv.1
      by_cases hl : 64 < l.length
      · rw [if_pos hl]
        exact (write_long w D S c _ i a l.length k h.c0 c3 hi.1 hi.2 (by omega)).mono fun e w' ⟨h1, h2⟩ => by subst h2; exact ⟨h1, Now.same h⟩
      · rw [if_neg hl]
        cases hg : s.go.2
        · rw [if_neg (by simp)]
          obtain ⟨i', rfl⟩ : ∃ i' : Nat, i = (i' : Int) := ⟨i.toNat, by omega⟩
          rw [Int.toNat_natCast]
          exact write_run h hd i' (by omega) _ l hv hvO (by omega) hg hn
        · rw [if_pos rfl]
          exact write_cut h hd i a l.length k hi.1 hi.2 (by omega) hg
    · rw [if_pos hi]
      exact (write_arg w D S c _ i v h.c0 c3 hi).mono fun e w' ⟨h1, h2⟩ => by subst h2; exact ⟨h1, Now.same h⟩
  · rw [hd] at c3
    rw [if_pos rfl]
    exact (write_down w D i v c3).mono fun e w' ⟨h1, h2⟩ => by subst h2; exact ⟨h1, Now.same h⟩
theorem write_nil (i : Int) (v : Value) (w : World) :
    Calls Try.prog 11 #[.pointer none, .int .i64 i, v] w fun e w' => e = .returned (.int .i64 1) ∧ w = w' := by
  go_enter Try.func11, Try.ntmps11
  go_wp2
  go_ret
  exact ⟨rfl, rfl⟩
end Go.Proofs.Ytohmofhpbmhhjaa
