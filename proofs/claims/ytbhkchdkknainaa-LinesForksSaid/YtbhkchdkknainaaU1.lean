import Derived.Test.YtbhkchdkknainaaEqs
import Derived.StillTailTactics
namespace Go.Proofs.Ytbhkchdkknainaa
open Go.RowKit

/-- What stands but for the blocks of S. -/
structure Fr (S : Nat → Prop) (w w' : World) : Prop where
  os : w'.os = w.os
  tape : w'.tape = w.tape
  output : w'.output = w.output
  size : w.heap.size ≤ w'.heap.size
  block : ∀ k, k < w.heap.size → ¬ S k → w'.heap[k]? = w.heap[k]?
theorem Fr.refl (S : Nat → Prop) (w : World) : Fr S w w := ⟨rfl, rfl, rfl, Nat.le_refl _, fun _ _ _ => rfl⟩
theorem Fr.trans {S T U : Nat → Prop} {a b c : World} (h : Fr S a b) (k : Fr T b c) (hs : ∀ i, S i → U i) (ht : ∀ i, i < a.heap.size → T i → U i) : Fr U a c :=
  ⟨k.os.trans h.os, k.tape.trans h.tape, k.output.trans h.output, Nat.le_trans h.size k.size, fun i hi hn => (k.block i (Nat.lt_of_lt_of_le hi h.size) (fun ht' => hn (ht i hi ht'))).trans (h.block i hi (fun hs' => hn (hs i hs')))⟩
theorem Fr.of_below {S : Nat → Prop} {w w' : World} (h : Below w.heap.size w w') : Fr S w w' := ⟨h.os, h.tape, h.output, h.size, fun k hk _ => h.block k hk⟩
theorem Fr.to_below {S : Nat → Prop} {B : Nat} {a w w' : World} (h : Fr S w w') (hb : Below B a w) (hB : B ≤ w.heap.size) (hS : ∀ k, S k → B ≤ k) : Below B a w' :=
  hb.trans ⟨h.os, h.tape, h.output, h.size, fun k hk => h.block k (by omega) (fun hs => by have := hS k hs; omega)⟩
theorem Fr.set {S : Nat → Prop} (w : World) (b : Nat) (v : Value) (hS : S b) : Fr S w (w.setCell ⟨b, 0, none⟩ v) :=
  ⟨rfl, rfl, rfl, by simp [World.setCell], fun k _ hk => Below.heap_setCell _ _ _ _ (fun e => hk (e ▸ hS))⟩
theorem Byt.fr {S : Nat → Prop} {w w' : World} {v : Value} {l : List UInt8} (h : Byt w v l) (hf : Fr S w w') (hS : ∀ g, v.ownBlock = some g → ¬ S g) : Byt w' v l :=
  h.kept hf.size fun g hg => hf.block g (h.lt g hg) (hS g hg)
theorem Row.fr {S : Nat → Prop} {B : Nat} {w w' : World} {v : Value} {l : List UInt8} (h : Row B w v l) (hf : Fr S w w') (hS : ∀ g, v.ownBlock = some g → ¬ S g) : Row B w' v l :=
  h.kept hf.size fun g hg => hf.block g (h.1.lt g hg) (hS g hg)
theorem Ml.fr {S : Nat → Prop} {w w' : World} (h : Ml w) (hf : Fr S w w') (hS : ¬ S 0) : Ml w' := by
  obtain ⟨m, hm⟩ := h
  exact ⟨m, (World.cell?_of_block (w := w) (hf.block 0 (World.block_lt_of_cell? w _ hm) hS)).trans hm⟩

/-- A buffer of the program's at block b: its bytes' slice, and the bytes. -/
structure LB (B : Nat) (w : World) (b : Nat) (v : Value) (l : List UInt8) : Prop where
  cell : w.cell? ⟨b, 0, none⟩ = some v
  free : w.frozen? ⟨b, 0, none⟩ = false
  own : B ≤ b
  row : Row B w v l
  apart : v.ownBlock ≠ some b
theorem LB.lt {B : Nat} {w : World} {b : Nat} {v : Value} {l : List UInt8} (h : LB B w b v l) : b < w.heap.size := World.block_lt_of_cell? w _ h.cell
theorem LB.fr {S : Nat → Prop} {B : Nat} {w w' : World} {b : Nat} {v : Value} {l : List UInt8} (h : LB B w b v l) (hf : Fr S w w') (hb : ¬ S b) (hv : ∀ g, v.ownBlock = some g → ¬ S g) : LB B w' b v l :=
  ⟨(World.cell?_of_block (a := ⟨b, 0, none⟩) (hf.block b h.lt hb)).trans h.cell, (World.frozen?_of_block (a := ⟨b, 0, none⟩) (hf.block b h.lt hb)).trans h.free, h.own, h.row.fr hf hv, h.apart⟩
/-- Its slice is laid anew. -/
theorem LB.set {B : Nat} {w : World} {b : Nat} {v' : Value} {l' : List UInt8} (hc : (w.cell? ⟨b, 0, none⟩).isSome = true) (hf : w.frozen? ⟨b, 0, none⟩ = false) (ho : B ≤ b) (hr : Row B w v' l') (ha : v'.ownBlock ≠ some b) : LB B (w.setCell ⟨b, 0, none⟩ v') b v' l' := by
  obtain ⟨x, hx⟩ := Option.isSome_iff_exists.1 hc
  exact ⟨World.cell?_setCell_same w _ v' hx, by rw [World.frozen?_setCell]; exact hf, ho, hr.fr (S := fun k => k = b) (Fr.set w b v' rfl) (fun g hg e => ha (e ▸ hg)), ha⟩

theorem new_any (w : World) : Calls Try.prog 11 #[] w fun e w' => e = .returned (.pointer (some ⟨w.heap.size, 0, none⟩)) ∧ LB w.heap.size w' w.heap.size (.slice none 0 0) [] ∧ Below w.heap.size w w' := by
  go_enter Try.func11, Try.ntmps11
  go_wp2
  go_ret
  refine ⟨rfl, ⟨?_, ?_, Nat.le_refl _, Row.nil _ _, by simp [Value.ownBlock]⟩, (Below.refl _ w).alloc (Nat.le_refl _) _⟩
  · rw [World.cell?_alloc_mark]; rfl
  · exact World.frozen?_alloc_new w _ _ 0

theorem wait_any {B b : Nat} {v : Value} {l : List UInt8} (w : World) (h : LB B w b v l) : Calls Try.prog 14 #[.pointer (some ⟨b, 0, none⟩)] w fun e w' => e = .returned (.int .i64 (l.length : Int)) ∧ w' = w := by
  obtain ⟨a, cap, rfl, hcap⟩ := h.row.1.shape
  have hc := h.cell
  go_enter Try.func14, Try.ntmps14
  go_wp2
  go_ret
  exact ⟨rfl, rfl⟩

set_option maxHeartbeats 800000 in
theorem feed_any {B b : Nat} {v p : Value} {l q : List UInt8} (w : World) (h : LB B w b v l) (hp : Byt w p q) (hB : B ≤ w.heap.size) (hl : l.length ≤ 16384) (hfit : l.length + q.length ≤ 16384) :
    Calls Try.prog 12 #[.pointer (some ⟨b, 0, none⟩), p] w fun e w' => e = .returned (.int .i64 0) ∧ ∃ v', LB B w' b v' (l ++ q) ∧ Fr (fun k => k = b ∨ v.ownBlock = some k) w w' ∧ (v'.ownBlock = v.ownBlock ∨ ∀ g, v'.ownBlock = some g → w.heap.size ≤ g) := by
  obtain ⟨v2, w2, hr2, hrow2, hg2, hor⟩ := app_row w h.row hp hB (by omega)
  obtain ⟨a, cap, rfl, hcap⟩ := h.row.1.shape
  obtain ⟨a2, cap2, rfl, hcap2⟩ := hp.shape
  obtain ⟨a3, cap3, rfl, hcap3⟩ := hrow2.1.shape
  have hc := h.cell
  have hf := h.free
  have hblt := h.lt
  have hap := h.apart
  have hne : some b ≠ (Value.slice a l.length cap).ownBlock := fun e => hap e.symm
  have hbk : w2.heap[b]? = w.heap[b]? := hg2.block b hblt hne
  have hc2 : w2.cell? ⟨b, 0, none⟩ = some (.slice a l.length cap) := (World.cell?_of_block (a := ⟨b, 0, none⟩) hbk).trans hc
  have hf2 : w2.frozen? ⟨b, 0, none⟩ = false := (World.frozen?_of_block (a := ⟨b, 0, none⟩) hbk).trans hf
  have hap3 : (Value.slice a3 (l ++ q).length cap3).ownBlock ≠ some b := by
    rcases hor with e | e
    · rw [e]; exact hap
    · intro hh; have := e b hh; omega
  have hfin : LB B (w2.setCell ⟨b, 0, none⟩ (.slice a3 (l ++ q).length cap3)) b (.slice a3 (l ++ q).length cap3) (l ++ q) := LB.set (by rw [hc2]; rfl) hf2 h.own hrow2 hap3
  have hfr : Fr (fun k => k = b ∨ (Value.slice a l.length cap).ownBlock = some k) w (w2.setCell ⟨b, 0, none⟩ (.slice a3 (l ++ q).length cap3)) :=
    Fr.trans (S := fun k => (Value.slice a l.length cap).ownBlock = some k) (T := fun k => k = b) ⟨hg2.os, hg2.tape, hg2.output, hg2.size, fun k hk hn => hg2.block k hk (fun e => hn e.symm)⟩ (Fr.set w2 b _ rfl) (fun _ hi => Or.inr hi) (fun _ _ hi => Or.inl hi)
  have hle : ¬ ((16384 : Int) - (l.length : Int) < (q.length : Int)) := by omega
  have R2 := Lib.hid hr2
  have HFIN := Lib.hid hfin
  have HFR := Lib.hid hfr
  have HOR := Lib.hid hor
  generalize hn3 : (l ++ q).length = n3 at hc2 R2 HFIN HFR HOR
  clear hr2 hfin hfr hor hrow2 hg2 hap3 hn3
  go_enter Try.func12, Try.ntmps12
  go_wp2_with (at_builtin; refine wpList_append_run _ rfl _ _ 31 31 rfl _ _ rfl rfl _ w2 R2.out ?_)
  go_ret
  exact ⟨rfl, _, HFIN.out, HFR.out, HOR.out⟩

set_option maxHeartbeats 800000 in
theorem feed_full {B b : Nat} {v p : Value} {l q : List UInt8} (w : World) (h : LB B w b v l) (hp : Byt w p q) (hl : l.length ≤ 16384) (hfit : ¬ l.length + q.length ≤ 16384) :
    Calls Try.prog 12 #[.pointer (some ⟨b, 0, none⟩), p] w fun e w' => e = .returned (.int .i64 8) ∧ w' = w := by
  obtain ⟨a, cap, rfl, hcap⟩ := h.row.1.shape
  obtain ⟨a2, cap2, rfl, hcap2⟩ := hp.shape
  have hc := h.cell
  have hle : ((16384 : Int) - (l.length : Int) < (q.length : Int)) := by omega
  clear hp h
  go_enter Try.func12, Try.ntmps12
  go_wp2
  go_ret
  exact ⟨rfl, rfl⟩

set_option maxHeartbeats 800000 in
theorem take_any {B b : Nat} {v : Value} {l : List UInt8} (w : World) (k : Nat) (h : LB B w b v l) (hk : k ≤ l.length) :
    Calls Try.prog 26 #[.pointer (some ⟨b, 0, none⟩), .int .i64 (k : Int)] w fun e w' => ∃ t v', e = .returned t ∧ Byt w' t (l.take k) ∧ t.ownBlock = v.ownBlock ∧ LB B w' b v' (l.drop k) ∧ v'.ownBlock = v.ownBlock ∧ Fr (fun j => j = b) w w' := by
  have hd : Fr (fun _ => False) w w.drew := ⟨rfl, rfl, rfl, Nat.le_refl _, fun _ _ _ => rfl⟩
  have h' := h.fr hd (fun e => e) (fun _ _ e => e)
  obtain ⟨a, cap, rfl, hcap⟩ := h.row.1.shape
  have hc := h.cell
  generalize hwd : w.drew = wd at hd h'
  have HWD := Lib.hid hwd
  have hcd := h'.cell
  have hf := h'.free
  clear hwd
  have h1 := run_cut_to_max (P := Try.prog) w 31 5 Try.underlying31 sz5 a l.length cap k k (Nat.le_refl _) (by omega)
  have h2 := run_cut_max (P := Try.prog) w 31 5 Try.underlying31 sz5 a l.length cap k l.length l.length (by omega) (Nat.le_refl _) hcap
  have hb1 : (Value.slice (cutA a 0 k) k k).ownBlock = (Value.slice a l.length cap).ownBlock := cut_block a 0 k _ _ _ _
  have hb2 : (Value.slice (cutA a k l.length) (l.length - k) (l.length - k)).ownBlock = (Value.slice a l.length cap).ownBlock := cut_block a k l.length _ _ _ _
  have ht := h'.row.1.cut 0 k k (Nat.zero_le _) hk (Nat.le_refl _) (by omega)
  rw [Nat.sub_zero, List.drop_zero] at ht
  have hr := h'.row.cut k l.length l.length hk (Nat.le_refl _) (Nat.le_refl _) hcap
  rw [List.take_of_length_le (by rw [List.length_drop]; omega)] at hr
  have hap := h.apart
  have hfr : Fr (fun j => j = b) wd (wd.setCell ⟨b, 0, none⟩ (.slice (cutA a k l.length) (l.length - k) (l.length - k))) := Fr.set wd b _ rfl
  have hfin : LB B (wd.setCell ⟨b, 0, none⟩ (.slice (cutA a k l.length) (l.length - k) (l.length - k))) b _ (l.drop k) := LB.set (by rw [hcd]; rfl) hf h.own hr (by rw [hb2]; exact hap)
  have hfint := ht.fr hfr (fun g hg e => hap (by rw [← hb1, hg, e]))
  obtain ⟨ca, hca⟩ : ∃ ca, cutA a k l.length = ca := ⟨_, rfl⟩
  rw [hca] at hfin hfint hfr hb2
  have HCA := Lib.hid hca
  have HFIN := Lib.hid hfin
  have HFINT := Lib.hid hfint
  have HFR := Lib.hid (hd.trans hfr (U := fun j => j = b) (fun _ e => e.elim) (fun _ _ e => e))
  have HB1 := Lib.hid hb1
  have HB2 := Lib.hid hb2
  clear hfin hfint hfr hb1 hb2 ht hr hap hd h h' hca h2
  go_enter Try.func26, Try.ntmps26
  go_wp2
  go_still_tail 17, (by kernel_rfl)
  change wpList _ _ _ _ _ w.drew
  rw [HWD.out, show (if l.length = k then a else Option.map (fun x => x.add k) a) = ca from HCA.out]
  go_wp2
  go_ret
  exact ⟨_, _, rfl, HFINT.out, HB1.out, HFIN.out, HB2.out, HFR.out⟩
end Go.Proofs.Ytbhkchdkknainaa
