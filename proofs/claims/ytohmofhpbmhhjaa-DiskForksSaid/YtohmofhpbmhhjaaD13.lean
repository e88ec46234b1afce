/- Disk: Read in all cases; the disk as the caller has it. -/
import Derived.Test.YtohmofhpbmhhjaaD12
namespace Go.Proofs.Ytohmofhpbmhhjaa
open Go Go.RowKit

theorem read_nil (i : Int) (w : World) :
    Calls Try.prog 15 #[.pointer none, .int .i64 i] w fun e w' => e = .returned (.tuple #[.slice none 0 0, .int .i64 1]) ∧ Below w.heap.size w w' := by
  have HB := Lib.hid (show Below w.heap.size w (w.alloc (.cells #[.int .i64 i] 3)) from (Below.refl _ w).alloc (Nat.le_refl _) _)
  go_enter Try.func15, Try.ntmps15
  go_wp2
  go_ret2
  exact ⟨rfl, HB.out⟩
theorem read_down (w : World) (D : Nat) (i : Int) (hD : D < w.heap.size) (c3 : w.cell? ⟨D, 3, none⟩ = some (.bool true)) :
    Calls Try.prog 15 #[.pointer (some ⟨D, 0, none⟩), .int .i64 i] w fun e w' => e = .returned (.tuple #[.slice none 0 0, .int .i64 7]) ∧ Below w.heap.size w w' := by
  have hb : Below w.heap.size w (w.alloc (.cells #[.int .i64 i] 3)) := (Below.refl _ w).alloc (Nat.le_refl _) _
  have c3' := (hb.cell (p := ⟨D, 3, none⟩) hD).trans c3
  have HB := Lib.hid hb
  clear hb
  go_enter Try.func15, Try.ntmps15
  go_wp2
  go_ret2
  exact ⟨rfl, HB.out⟩
theorem read_arg (w : World) (D S c n : Nat) (i : Int) (hD : D < w.heap.size) (c0 : w.cell? ⟨D, 0, none⟩ = some (.slice (some ⟨S, 0, none⟩) n c)) (c3 : w.cell? ⟨D, 3, none⟩ = some (.bool false)) (hi : ¬ (0 ≤ i ∧ i < (n : Int))) :
    Calls Try.prog 15 #[.pointer (some ⟨D, 0, none⟩), .int .i64 i] w fun e w' => e = .returned (.tuple #[.slice none 0 0, .int .i64 2]) ∧ Below w.heap.size w w' := by
  have hb : Below w.heap.size w (w.alloc (.cells #[.int .i64 i] 3)) := (Below.refl _ w).alloc (Nat.le_refl _) _
  have cb : (w.alloc (.cells #[.int .i64 i] 3)).cell? ⟨w.heap.size, 0, none⟩ = some (.int .i64 i) := by rw [cell_of_row _ _ _ _ _ _ (heap_alloc_last w _)]; rfl
  have c3' := (hb.cell (p := ⟨D, 3, none⟩) hD).trans c3
  have hh := has_no _ D S c n i ((hb.cell (p := ⟨D, 0, none⟩) hD).trans c0) hi
  obtain ⟨w1, hw1⟩ : ∃ w1, w.alloc (.cells #[.int .i64 i] 3) = w1 := ⟨_, rfl⟩
  rw [hw1] at hb cb c3' hh
  have HB := Lib.hid hb
  have HH := Lib.hid hh
  clear hb hi hh c0 c3
  go_enter Try.func15, Try.ntmps15
  go_wp2_with fail
  refine HH.out.mono ?_
  rintro e w' ⟨rfl, rfl⟩
  clear hw1
  go_wp2
  go_ret2
  exact ⟨rfl, HB.out⟩

/-- What Read tells. -/
def ReadR (s : St) (i : Int) (w : World) (e : Ending) (w' : World) : Prop :=
  if s.down then e = .returned (.tuple #[.slice none 0 0, .int .i64 7]) ∧ Below w.heap.size w w'
  else if 0 ≤ i ∧ i < (s.sure.length : Int) then Told (s.reads i.toNat) w e w' else e = .returned (.tuple #[.slice none 0 0, .int .i64 2]) ∧ Below w.heap.size w w'
theorem read_any {O : Nat → Prop} {w : World} {D S c : Nat} {wv : Value} {s : St} (h : Dsk O w D S c wv s) (i : Int) :
    Calls Try.prog 15 #[.pointer (some ⟨D, 0, none⟩), .int .i64 i] w (ReadR s i w) := by
  have c3 := h.c3
  have hD := h.lt D h.memD
  unfold ReadR
  cases hd : s.down
  · rw [hd] at c3
    by_cases hi : 0 ≤ i ∧ i < (s.sure.length : Int)
    · obtain ⟨k, rfl⟩ : ∃ k : Nat, i = (k : Int) := ⟨i.toNat, by omega⟩
      refine (read_run h hd k (by omega)).mono fun e w' hT => ?_
      rw [if_neg (by simp), if_pos hi, Int.toNat_natCast]
      exact hT
    · refine (read_arg w D S c _ i hD h.c0 c3 hi).mono fun e w' hT => ?_
      rw [if_neg (by simp), if_neg hi]
      exact hT
  · rw [hd] at c3
    refine (read_down w D i hD c3).mono fun e w' hT => ?_
    rw [if_pos rfl]
    exact hT
/-- What Sure tells. -/
def SureR (s : St) (i : Int) (w : World) (e : Ending) (w' : World) : Prop :=
  if 0 ≤ i ∧ i < (s.sure.length : Int) then Told (s.sure.getD i.toNat []) w e w' else e = .returned (.tuple #[.slice none 0 0, .int .i64 2]) ∧ Below w.heap.size w w'
theorem sure_any {O : Nat → Prop} {w : World} {D S c : Nat} {wv : Value} {s : St} (h : Dsk O w D S c wv s) (i : Int) :
    Calls Try.prog 16 #[.pointer (some ⟨D, 0, none⟩), .int .i64 i] w (SureR s i w) := by
  unfold SureR
  by_cases hi : 0 ≤ i ∧ i < (s.sure.length : Int)
  · obtain ⟨k, rfl⟩ : ∃ k : Nat, i = (k : Int) := ⟨i.toNat, by omega⟩
    have hk : k < s.sure.length := by omega
    have hp : s.sure[k]? = some s.sure[k] := List.getElem?_eq_getElem hk
    have hpl : (pgC s.sure[k]).length = 64 := by rw [pgC_len]; exact h.ok.pages _ (List.getElem_mem hk)
    have hsz := (zero_of_info (P := Try.prog) zeroP_info).2
    have hl := run_loadAt_mid w S (k * 64) 61 _ _ (h.pageAt k _ hp) Try.underlying61 rfl (by rw [hsz, hpl])
    refine (sure_run w D S c _ k h.c0 hk h.ok.few _ (by rw [List.size_toArray, hpl]) (all_oneCell_toArray pgC_cell) hl).mono ?_
    rintro e w' ⟨rfl, rfl⟩
    rw [if_pos hi, Int.toNat_natCast]
    have hg : s.sure.getD k [] = s.sure[k] := by simp [List.getD, hk]
    rw [hg]
    exact ⟨w.heap.size, rfl, heap_alloc_last w _, Nat.le_refl _, (Below.refl _ w).alloc (Nat.le_refl _) _⟩
  · refine (sure_arg w D S c _ i h.c0 hi).mono ?_
    rintro e w' ⟨rfl, rfl⟩
    rw [if_neg hi]
    exact ⟨rfl, Below.refl _ _⟩

/-- The caller's disk: all of it is from w0 on. -/
def Has (w0 w : World) (D S c : Nat) (s : St) : Prop := ∃ O wv, Dsk O w D S c wv s ∧ (∀ k, O k → w0.heap.size ≤ k) ∧ Below w0.heap.size w0 w
section
variable {w0 w : World} {D S c : Nat} {s : St}
theorem Has.bel (H : Has w0 w D S c s) : Below w0.heap.size w0 w := by obtain ⟨_, _, _, _, h⟩ := H; exact h
theorem Has.ok (H : Has w0 w D S c s) : s.Ok := by obtain ⟨_, _, h, _⟩ := H; exact h.ok
theorem Has.below (H : Has w0 w D S c s) {w' : World} (hb : Below w.heap.size w w') : Has w0 w' D S c s := by
  obtain ⟨O, wv, h, hO, hB⟩ := H
  exact ⟨O, wv, h.below hb, hO, hB.trans (hb.mono hB.size)⟩
theorem Has.now {O : Nat → Prop} (hO : ∀ k, O k → w0.heap.size ≤ k) (hB : Below w0.heap.size w0 w) {s' : St} {w' : World} (N : Now O w D S c s' w') : Has w0 w' D S c s' := by
  obtain ⟨O', wv', h', hf, hs⟩ := N
  exact ⟨O', wv', h', fun k hk => by rcases hs k hk with h0 | h0; exact hO k h0; have := hB.size; omega, hB.trans (hf.below hB.size hO)⟩
theorem has_write (H : Has w0 w D S c s) (i : Int) (v : Value) (l : List UInt8) (hv : Byz w v l) (hvo : ∀ g, v.ownBlock = some g → l ≠ [] → g < w0.heap.size) (hn : s.waits.length + 1 ≤ 1000) :
    Calls Try.prog 11 #[.pointer (some ⟨D, 0, none⟩), .int .i64 i, v] w fun e w' => e = .returned (.int .i64 ((s.wrote i l).2 : Nat)) ∧ Has w0 w' D S c (s.wrote i l).1 := by
  obtain ⟨O, wv, h, hO, hB⟩ := H
  exact (write_any h i v l hv (fun g hg hne e => by have := hvo g hg hne; have := hO g e; omega) hn).mono fun e w' ⟨h1, h2⟩ => ⟨h1, Has.now hO hB h2⟩
theorem has_write_new {wo : World} (H : Has w0 wo D S c s) (hb : Below wo.heap.size wo w) (i : Int) (v : Value) (l : List UInt8) (hv : Byt w v l) (hvo : ∀ g, v.ownBlock = some g → wo.heap.size ≤ g) (hn : s.waits.length + 1 ≤ 1000) :
    Calls Try.prog 11 #[.pointer (some ⟨D, 0, none⟩), .int .i64 i, v] w fun e w' => e = .returned (.int .i64 ((s.wrote i l).2 : Nat)) ∧ Has w0 w' D S c (s.wrote i l).1 := by
  obtain ⟨O, wv, h, hO, hB⟩ := H
  exact (write_any (h.below hb) i v l hv.z (fun g hg _ e => by have := hvo g hg; have := h.lt g e; omega) hn).mono fun e w' ⟨h1, h2⟩ => ⟨h1, Has.now hO (hB.trans (hb.mono hB.size)) h2⟩
theorem has_flush (H : Has w0 w D S c s) :
    Calls Try.prog 12 #[.pointer (some ⟨D, 0, none⟩)] w fun e w' => e = .returned (.int .i64 (s.flushed.2 : Nat)) ∧ Has w0 w' D S c s.flushed.1 := by
  obtain ⟨O, wv, h, hO, hB⟩ := H
  exact (flush_any h).mono fun e w' ⟨h1, h2⟩ => ⟨h1, Has.now hO hB h2⟩
theorem has_cut (H : Has w0 w D S c s) (n : Int) (hn : n ≤ 9223372036854775807) :
    Calls Try.prog 13 #[.pointer (some ⟨D, 0, none⟩), .int .i64 n] w fun e w' => e = .returned (.int .i64 (s.cutE n : Nat)) ∧ Has w0 w' D S c (s.cutS n) := by
  obtain ⟨O, wv, h, hO, hB⟩ := H
  exact (cut_any h n hn).mono fun e w' ⟨h1, h2, h3⟩ => ⟨h1, Has.now hO hB (Now.own h2 h3)⟩
theorem has_crash (H : Has w0 w D S c s) (ha : s.age + 1 ≤ 1000) (kv : Value) (keep : List Bool) (torn at' : Int) (hv : Bools w kv keep) (hvo : ∀ g, kv.ownBlock = some g → keep ≠ [] → g < w0.heap.size) (hkl : keep.length ≤ 9223372036854775807) :
    Calls Try.prog 14 #[.pointer (some ⟨D, 0, none⟩), .agg #[kv, .int .i64 torn, .int .i64 at']] w fun e w' => e = .returned (.int .i64 0) ∧ Has w0 w' D S c (s.crashed keep torn at') := by
  obtain ⟨O, wv, h, hO, hB⟩ := H
  exact (crash_any h ha kv keep torn at' hv (fun g hg hne => ⟨by have := hvo g hg hne; have := hB.size; omega, fun e => by have := hvo g hg hne; have := hO g e; omega⟩) hkl).mono fun e w' ⟨h1, h2⟩ => ⟨h1, Has.now hO hB h2⟩
theorem has_read (H : Has w0 w D S c s) (i : Int) : Calls Try.prog 15 #[.pointer (some ⟨D, 0, none⟩), .int .i64 i] w (ReadR s i w) := by
  obtain ⟨O, wv, h, hO, hB⟩ := H
  exact read_any h i
theorem has_sure (H : Has w0 w D S c s) (i : Int) : Calls Try.prog 16 #[.pointer (some ⟨D, 0, none⟩), .int .i64 i] w (SureR s i w) := by
  obtain ⟨O, wv, h, hO, hB⟩ := H
  exact sure_any h i
theorem has_down (H : Has w0 w D S c s) : Calls Try.prog 17 #[.pointer (some ⟨D, 0, none⟩)] w fun e w' => e = .returned (.bool s.down) ∧ w = w' := by
  obtain ⟨O, wv, h, hO, hB⟩ := H
  exact down_any h
theorem has_age (H : Has w0 w D S c s) : Calls Try.prog 23 #[.pointer (some ⟨D, 0, none⟩)] w fun e w' => e = .returned (.int .i64 (s.age : Int)) ∧ w = w' := by
  obtain ⟨O, wv, h, hO, hB⟩ := H
  exact age_any h
theorem has_waits (H : Has w0 w D S c s) : Calls Try.prog 18 #[.pointer (some ⟨D, 0, none⟩)] w fun e w' => e = .returned (.int .i64 (s.waits.length : Int)) ∧ w = w' := by
  obtain ⟨O, wv, h, hO, hB⟩ := H
  exact waits_any h
end
theorem has_new (n : Nat) (w0 w : World) (hb : Below w0.heap.size w0 w) (h1 : 1 ≤ n) (h2 : n ≤ 512) :
    Calls Try.prog 10 #[.int .i64 (n : Int)] w fun e w' => e = .returned (.tuple #[.pointer (some ⟨w.heap.size + 1, 0, none⟩), .int .i64 0]) ∧ Has w0 w' (w.heap.size + 1) w.heap.size n (St.new n) :=
  (new_any n w h1 h2).mono fun e w' ⟨e1, e2, e3⟩ => ⟨e1, _, _, e2, fun k hk => by have := hb.size; rcases hk with rfl | rfl <;> omega, hb.trans (e3.mono hb.size)⟩
end Go.Proofs.Ytohmofhpbmhhjaa
