/- Disk: the program's disk and the document's, side by side. -/
import Derived.Test.YtohmofhpbmhhjaaE9
namespace Go.Proofs.Ytohmofhpbmhhjaa
open Go Go.RowKit

/-- The program's disk in state s, the document's in state t; the program's blocks are from w0 on, and the document's own one (its lists may be older: they are never written again), none of E's, and no block is both's. -/
def TwoE (E : Nat → Prop) (w0 w : World) (D S c F : Nat) (s t : St) : Prop :=
  ∃ O wv Q pv lv, Dsk O w D S c wv s ∧ RDsk Q w F pv lv t ∧ (∀ k, O k → w0.heap.size ≤ k ∧ ¬ E k) ∧ (∀ k, Q k → (k = F → w0.heap.size ≤ k) ∧ ¬ E k) ∧ (∀ k, O k → ¬ Q k) ∧ (∀ k, E k → k < w.heap.size) ∧ Below w0.heap.size w0 w
section
variable {E : Nat → Prop} {w0 w : World} {D S c F : Nat} {s t : St}
theorem TwoE.bel (H : TwoE E w0 w D S c F s t) : Below w0.heap.size w0 w := by obtain ⟨_, _, _, _, _, _, _, _, _, _, _, h⟩ := H; exact h
theorem TwoE.ok (H : TwoE E w0 w D S c F s t) : s.Ok ∧ t.Ok := by obtain ⟨_, _, _, _, _, h, k, _⟩ := H; exact ⟨h.ok, k.ok⟩
theorem TwoE.fr {w' : World} {o : Nat → Prop} (H : TwoE E w0 w D S c F s t) (hf : Fr o w w') (ho : ∀ k, k < w.heap.size → o k → w0.heap.size ≤ k ∧ E k) : TwoE E w0 w' D S c F s t := by
  obtain ⟨O, wv, Q, pv, lv, h, k, hO, hQ, hd, hE, hb⟩ := H
  refine ⟨O, wv, Q, pv, lv, h.fr (o := fun j => j < w.heap.size ∧ o j) ⟨hf.os, hf.tape, hf.output, hf.size, fun j hj hn => hf.block j hj (fun e => hn ⟨hj, e⟩)⟩ (fun j hj e => (hO j hj).2 (ho j e.1 e.2).2), k.fr (o := fun j => j < w.heap.size ∧ o j) ⟨hf.os, hf.tape, hf.output, hf.size, fun j hj hn => hf.block j hj (fun e => hn ⟨hj, e⟩)⟩ (fun j hj e => (hQ j hj).2 (ho j e.1 e.2).2), hO, hQ, hd, fun j hj => Nat.lt_of_lt_of_le (hE j hj) hf.size, ?_⟩
  exact ⟨hf.os.trans hb.os, hf.tape.trans hb.tape, hf.output.trans hb.output, Nat.le_trans hb.size hf.size, fun j hj => (hf.block j (Nat.lt_of_lt_of_le hj hb.size) (fun e => by have := (ho j (Nat.lt_of_lt_of_le hj hb.size) e).1; omega)).trans (hb.block j hj)⟩
theorem TwoE.below {w' : World} (H : TwoE E w0 w D S c F s t) (hb : Below w.heap.size w w') : TwoE E w0 w' D S c F s t := H.fr (Fr.of_below (fun _ => False) hb) (fun _ _ e => e.elim)
theorem TwoE.any (H : TwoE E w0 w D S c F s t) : TwoE (fun _ => False) w0 w D S c F s t := by
  obtain ⟨O, wv, Q, pv, lv, h, k, hO, hQ, hd, hE, hb⟩ := H
  exact ⟨O, wv, Q, pv, lv, h, k, fun j hj => ⟨(hO j hj).1, id⟩, fun j hj => ⟨(hQ j hj).1, id⟩, hd, fun _ e => e.elim, hb⟩
/-- Blocks that were made later are apart. -/
theorem TwoE.apart {w' : World} (H : TwoE E w0 w D S c F s t) (hb : Below w.heap.size w w') (E' : Nat → Prop) (hE' : ∀ k, E' k → w.heap.size ≤ k ∧ k < w'.heap.size) : TwoE E' w0 w' D S c F s t := by
  obtain ⟨O, wv, Q, pv, lv, h, k, hO, hQ, hd, hE, hB⟩ := H
  exact ⟨O, wv, Q, pv, lv, h.below hb, k.below hb, fun j hj => ⟨(hO j hj).1, fun e => by have := (hE' j e).1; have := h.lt j hj; omega⟩, fun j hj => ⟨(hQ j hj).1, fun e => by have := (hE' j e).1; have := k.lt j hj; omega⟩, hd, fun j e => (hE' j e).2, hB.trans (hb.mono hB.size)⟩
/-- The program's disk turns. -/
theorem TwoE.left {O Q : Nat → Prop} {wv pv lv : Value} {s' : St} {w' : World} (h : Dsk O w D S c wv s) (k : RDsk Q w F pv lv t) (hO : ∀ k, O k → w0.heap.size ≤ k ∧ ¬ E k) (hQ : ∀ k, Q k → (k = F → w0.heap.size ≤ k) ∧ ¬ E k) (hd : ∀ k, O k → ¬ Q k) (hE : ∀ k, E k → k < w.heap.size) (hb : Below w0.heap.size w0 w) (N : Now O w D S c s' w') :
    TwoE E w0 w' D S c F s' t ∧ (∀ k, E k → w'.heap[k]? = w.heap[k]?) := by
  obtain ⟨O', wv', h', hf, hs⟩ := N
  refine ⟨⟨O', wv', Q, pv, lv, h', k.fr hf (fun j hj e => hd j e hj), fun j hj => ?_, hQ, fun j hj => ?_, fun j hj => Nat.lt_of_lt_of_le (hE j hj) hf.size, hb.trans (hf.below hb.size (fun j hj => (hO j hj).1))⟩, fun j hj => hf.block j (hE j hj) (fun e => (hO j e).2 hj)⟩
  · rcases hs j hj with h0 | h0
    · exact hO j h0
    · exact ⟨Nat.le_trans hb.size h0, fun e => by have := hE j e; omega⟩
  · rcases hs j hj with h0 | h0
    · exact hd j h0
    · exact fun e => by have := k.lt j e; omega
/-- The document's disk turns. -/
theorem TwoE.right {O Q : Nat → Prop} {wv pv lv : Value} {t' : St} {w' : World} (h : Dsk O w D S c wv s) (k : RDsk Q w F pv lv t) (hO : ∀ k, O k → w0.heap.size ≤ k ∧ ¬ E k) (hQ : ∀ k, Q k → (k = F → w0.heap.size ≤ k) ∧ ¬ E k) (hd : ∀ k, O k → ¬ Q k) (hE : ∀ k, E k → k < w.heap.size) (hb : Below w0.heap.size w0 w) (N : RNow Q w F t' w') :
    TwoE E w0 w' D S c F s t' ∧ (∀ k, E k → w'.heap[k]? = w.heap[k]?) := by
  obtain ⟨Q', pv', lv', k', hf, hs⟩ := N
  have hF := k.memD
  refine ⟨⟨O, wv, Q', pv', lv', h.fr hf (fun j hj e => by subst e; exact hd _ hj hF), k', hO, fun j hj => ?_, fun j hj e => ?_, fun j hj => Nat.lt_of_lt_of_le (hE j hj) hf.size, hb.trans (hf.below hb.size (fun j e => by subst e; exact (hQ _ hF).1 rfl))⟩, fun j hj => hf.block j (hE j hj) (fun e => by subst e; exact (hQ _ hF).2 hj)⟩
  · rcases hs j hj with h0 | h0
    · exact hQ j h0
    · exact ⟨fun _ => Nat.le_trans hb.size h0, fun e => by have := hE j e; omega⟩
  · rcases hs j e with h0 | h0
    · exact hd j hj h0
    · have := h.lt j hj; omega
theorem two_write (H : TwoE E w0 w D S c F s t) (i : Int) (v : Value) (l : List UInt8) (hv : Byz w v l) (hvo : ∀ g, v.ownBlock = some g → l ≠ [] → E g) (hn : s.waits.length + 1 ≤ 1000) :
    Calls Try.prog 11 #[.pointer (some ⟨D, 0, none⟩), .int .i64 i, v] w fun e w' => e = .returned (.int .i64 ((s.wrote i l).2 : Nat)) ∧ TwoE E w0 w' D S c F (s.wrote i l).1 t ∧ (∀ k, E k → w'.heap[k]? = w.heap[k]?) := by
  obtain ⟨O, wv, Q, pv, lv, h, k, hO, hQ, hd, hE, hb⟩ := H
  exact (write_any h i v l hv (fun g hg hne e => (hO g e).2 (hvo g hg hne)) hn).mono fun e w' ⟨h1, h2⟩ => ⟨h1, TwoE.left h k hO hQ hd hE hb h2⟩
theorem two_rwrite (H : TwoE E w0 w D S c F s t) (i : Int) (v : Value) (l : List UInt8) (hv : Byz w v l) (hvo : ∀ g, v.ownBlock = some g → l ≠ [] → g < w0.heap.size) (hn : t.waits.length + 1 ≤ 1000) :
    Calls Try.prog 31 #[.pointer (some ⟨F, 0, none⟩), .int .i64 i, v] w fun e w' => e = .returned (.int .i64 ((t.wrote i l).2 : Nat)) ∧ TwoE E w0 w' D S c F s (t.wrote i l).1 ∧ (∀ k, E k → w'.heap[k]? = w.heap[k]?) := by
  obtain ⟨O, wv, Q, pv, lv, h, k, hO, hQ, hd, hE, hb⟩ := H
  exact (rwrite_any k i v l hv (fun g hg hne e => by subst e; have := hvo _ hg hne; have := (hQ _ k.memD).1 rfl; omega) hn).mono fun e w' ⟨h1, h2⟩ => ⟨h1, TwoE.right h k hO hQ hd hE hb h2⟩
theorem two_flush (H : TwoE E w0 w D S c F s t) :
    Calls Try.prog 12 #[.pointer (some ⟨D, 0, none⟩)] w fun e w' => e = .returned (.int .i64 (s.flushed.2 : Nat)) ∧ TwoE E w0 w' D S c F s.flushed.1 t ∧ (∀ k, E k → w'.heap[k]? = w.heap[k]?) := by
  obtain ⟨O, wv, Q, pv, lv, h, k, hO, hQ, hd, hE, hb⟩ := H
  exact (flush_any h).mono fun e w' ⟨h1, h2⟩ => ⟨h1, TwoE.left h k hO hQ hd hE hb h2⟩
theorem two_rflush (H : TwoE E w0 w D S c F s t) :
    Calls Try.prog 32 #[.pointer (some ⟨F, 0, none⟩)] w fun e w' => e = .returned (.int .i64 (t.flushed.2 : Nat)) ∧ TwoE E w0 w' D S c F s t.flushed.1 ∧ (∀ k, E k → w'.heap[k]? = w.heap[k]?) := by
  obtain ⟨O, wv, Q, pv, lv, h, k, hO, hQ, hd, hE, hb⟩ := H
  exact (rflush_any k).mono fun e w' ⟨h1, h2⟩ => ⟨h1, TwoE.right h k hO hQ hd hE hb h2⟩
theorem two_cut (H : TwoE E w0 w D S c F s t) (n : Int) (hn : n ≤ 9223372036854775807) :
    Calls Try.prog 13 #[.pointer (some ⟨D, 0, none⟩), .int .i64 n] w fun e w' => e = .returned (.int .i64 (s.cutE n : Nat)) ∧ TwoE E w0 w' D S c F (s.cutS n) t ∧ (∀ k, E k → w'.heap[k]? = w.heap[k]?) := by
  obtain ⟨O, wv, Q, pv, lv, h, k, hO, hQ, hd, hE, hb⟩ := H
  exact (cut_any h n hn).mono fun e w' ⟨h1, h2, h3⟩ => ⟨h1, TwoE.left h k hO hQ hd hE hb (Now.own h2 h3)⟩
theorem two_rcut (H : TwoE E w0 w D S c F s t) (n : Int) (hn : n ≤ 9223372036854775807) :
    Calls Try.prog 34 #[.pointer (some ⟨F, 0, none⟩), .int .i64 n] w fun e w' => e = .returned (.int .i64 (t.cutE n : Nat)) ∧ TwoE E w0 w' D S c F s (t.cutS n) ∧ (∀ k, E k → w'.heap[k]? = w.heap[k]?) := by
  obtain ⟨O, wv, Q, pv, lv, h, k, hO, hQ, hd, hE, hb⟩ := H
  exact (rcut_any k n hn).mono fun e w' ⟨h1, h2, h3⟩ => ⟨h1, TwoE.right h k hO hQ hd hE hb (RNow.own h2 h3)⟩
theorem two_crash (H : TwoE E w0 w D S c F s t) (ha : s.age + 1 ≤ 1000) (kv : Value) (keep : List Bool) (torn at' : Int) (hv : Bools w kv keep) (hvo : ∀ g, kv.ownBlock = some g → keep ≠ [] → g < w0.heap.size) (hkl : keep.length ≤ 9223372036854775807) :
    Calls Try.prog 14 #[.pointer (some ⟨D, 0, none⟩), .agg #[kv, .int .i64 torn, .int .i64 at']] w fun e w' => e = .returned (.int .i64 0) ∧ TwoE E w0 w' D S c F (s.crashed keep torn at') t ∧ (∀ k, E k → w'.heap[k]? = w.heap[k]?) := by
  obtain ⟨O, wv, Q, pv, lv, h, k, hO, hQ, hd, hE, hb⟩ := H
  exact (crash_any h ha kv keep torn at' hv (fun g hg hne => ⟨by have := hvo g hg hne; have := hb.size; omega, fun e => by have := hvo g hg hne; have := (hO g e).1; omega⟩) hkl).mono fun e w' ⟨h1, h2⟩ => ⟨h1, TwoE.left h k hO hQ hd hE hb h2⟩
theorem two_rcrash (H : TwoE E w0 w D S c F s t) (ha : t.age + 1 ≤ 1000) (kv : Value) (keep : List Bool) (torn at' : Int) (hv : Bools w kv keep) (hvo : ∀ g, kv.ownBlock = some g → keep ≠ [] → g < w0.heap.size) (hkl : keep.length ≤ 9223372036854775807) :
    Calls Try.prog 35 #[.pointer (some ⟨F, 0, none⟩), .agg #[kv, .int .i64 torn, .int .i64 at']] w fun e w' => e = .returned (.int .i64 0) ∧ TwoE E w0 w' D S c F s (t.crashed keep torn at') ∧ (∀ k, E k → w'.heap[k]? = w.heap[k]?) := by
  obtain ⟨O, wv, Q, pv, lv, h, k, hO, hQ, hd, hE, hb⟩ := H
  exact (rcrash_any k ha kv keep torn at' hv (fun g hg hne => ⟨by have := hvo g hg hne; have := hb.size; omega, fun e => by subst e; have := hvo _ hg hne; have := (hQ _ k.memD).1 rfl; omega⟩) hkl).mono fun e w' ⟨h1, h2⟩ => ⟨h1, TwoE.right h k hO hQ hd hE hb h2⟩
theorem two_read (H : TwoE E w0 w D S c F s t) (i : Int) : Calls Try.prog 15 #[.pointer (some ⟨D, 0, none⟩), .int .i64 i] w (ReadR s i w) := by
  obtain ⟨O, wv, Q, pv, lv, h, k, _⟩ := H
  exact read_any h i
theorem two_rread (H : TwoE E w0 w D S c F s t) (i : Int) : Calls Try.prog 33 #[.pointer (some ⟨F, 0, none⟩), .int .i64 i] w (RReadR t i w) := by
  obtain ⟨O, wv, Q, pv, lv, h, k, _⟩ := H
  exact rread_any k i
theorem two_sure (H : TwoE E w0 w D S c F s t) (i : Int) : Calls Try.prog 16 #[.pointer (some ⟨D, 0, none⟩), .int .i64 i] w (SureR s i w) := by
  obtain ⟨O, wv, Q, pv, lv, h, k, _⟩ := H
  exact sure_any h i
theorem two_rsure (H : TwoE E w0 w D S c F s t) (i : Int) : Calls Try.prog 36 #[.pointer (some ⟨F, 0, none⟩), .int .i64 i] w (RSureR t i w) := by
  obtain ⟨O, wv, Q, pv, lv, h, k, _⟩ := H
  exact rsure_any k i
theorem two_down (H : TwoE E w0 w D S c F s t) : Calls Try.prog 17 #[.pointer (some ⟨D, 0, none⟩)] w fun e w' => e = .returned (.bool s.down) ∧ w = w' := by
  obtain ⟨O, wv, Q, pv, lv, h, k, _⟩ := H
  exact down_any h
theorem two_age (H : TwoE E w0 w D S c F s t) : Calls Try.prog 23 #[.pointer (some ⟨D, 0, none⟩)] w fun e w' => e = .returned (.int .i64 (s.age : Int)) ∧ w = w' := by
  obtain ⟨O, wv, Q, pv, lv, h, k, _⟩ := H
  exact age_any h
theorem two_waits (H : TwoE E w0 w D S c F s t) : Calls Try.prog 18 #[.pointer (some ⟨D, 0, none⟩)] w fun e w' => e = .returned (.int .i64 (s.waits.length : Int)) ∧ w = w' := by
  obtain ⟨O, wv, Q, pv, lv, h, k, _⟩ := H
  exact waits_any h
/-- The document's disk's own cells. -/
theorem TwoE.cells (H : TwoE E w0 w D S c F s t) : ∃ pg pc la lc, w.cell? ⟨F, 0, none⟩ = some (.slice (some ⟨pg, 0, none⟩) t.sure.length pc) ∧ w.cell? ⟨F, 1, none⟩ = some (.slice la t.waits.length lc) ∧ w.cell? ⟨F, 2, none⟩ = some (.bool t.down) ∧ w.cell? ⟨F, 4, none⟩ = some (.int .i64 (t.age : Int)) := by
  obtain ⟨O, wv, Q, pv, lv, h, k, _⟩ := H
  have c0 := k.c0
  have c1 := k.c1
  obtain ⟨pg, pc, rfl, _⟩ := k.pshape
  obtain ⟨la, lc, rfl, _⟩ := k.lshape
  exact ⟨pg, pc, la, lc, c0, c1, k.c2, k.c4⟩
end
theorem two_new {w0 w wx w' : World} {n D S c F : Nat} {s : St} (H : Has w0 w D S c s) (hb : Below w.heap.size w wx) (h : ∃ O pv lv, RDsk O w' F pv lv s ∧ ∀ k, O k → wx.heap.size ≤ k) (hb' : Below wx.heap.size wx w') : TwoE (fun _ => False) w0 w' D S c F s s := by
  obtain ⟨O, wv, h1, hO, hB⟩ := H
  obtain ⟨Q, pv, lv, h2, hQ⟩ := h
  have hb2 : Below w.heap.size w w' := hb.trans (hb'.mono hb.size)
  exact ⟨O, wv, Q, pv, lv, h1.below hb2, h2, fun k hk => ⟨hO k hk, id⟩, fun k hk => ⟨fun _ => Nat.le_trans hB.size (Nat.le_trans hb.size (hQ k hk)), id⟩, fun k hk e => by have := h1.lt k hk; have := hQ k e; have := hb.size; omega, fun _ e => e.elim, hB.trans (hb2.mono hB.size)⟩
theorem wrote_small (s : St) (i : Int) (l : List UInt8) : (s.wrote i l).1.waits.length ≤ s.waits.length + 1 ∧ (s.wrote i l).1.age = s.age ∧ (s.wrote i l).1.sure.length = s.sure.length := by
  unfold St.wrote St.go
  repeat' split
  all_goals simp_all
theorem flushed_small (s : St) : s.flushed.1.waits.length ≤ s.waits.length + 1 ∧ s.flushed.1.age = s.age ∧ s.flushed.1.sure.length = s.sure.length := by
  unfold St.flushed St.go
  repeat' split
  all_goals simp_all [laid_len]
theorem cut_small (s : St) (n : Int) : (s.cutS n).waits.length ≤ s.waits.length + 1 ∧ (s.cutS n).age = s.age ∧ (s.cutS n).sure.length = s.sure.length := by
  unfold St.cutS
  repeat' split
  all_goals simp_all
theorem crashed_small (s : St) (keep : List Bool) (torn at' : Int) : (s.crashed keep torn at').waits.length ≤ s.waits.length + 1 ∧ (s.crashed keep torn at').age = s.age + 1 ∧ (s.crashed keep torn at').sure.length = s.sure.length := by
  unfold St.crashed
  exact ⟨by simp, rfl, crashL_len ..⟩
end Go.Proofs.Ytohmofhpbmhhjaa
