/- Deed: the document's TakeUser. -/
import Derived.Test.YtjljbnilckkjnaaDoorGR2
import Derived.Test.YtjljbnilckkjnaaDoorGR3
namespace Go.Proofs.YtjljbnilckkjnaaDoor
open Go Go.RowKit

/-- A reader, what it reads lies below N. -/
structure RdS (w : World) (N D : Nat) (sv : Value) (s : RS) : Prop where
  rd : Rd w D sv s
  ob : ∀ g, sv.ownBlock = some g → s.2 ≠ [] → g < N
  len : s.2.length ≤ 9223372036854775807
theorem RdS.fr {o : Nat → Prop} {w w' : World} {N D : Nat} {sv : Value} {s : RS} (h : RdS w N D sv s) (hf : Fr o w w') (ho : ∀ k, k < w.heap.size → o k → N ≤ k ∧ k ≠ D) : RdS w' N D sv s :=
  ⟨h.rd.fr hf (fun e => (ho D h.rd.lt e).2 rfl) (fun g hg hn e => by have h1 := h.ob g hg hn; have h2 := (ho g (h.rd.byz.lt g hg hn) e).1; omega), h.ob, h.len⟩
theorem RdS.below {w w' : World} {N D : Nat} {sv : Value} {s : RS} (h : RdS w N D sv s) (hb : Below w.heap.size w w') : RdS w' N D sv s :=
  ⟨⟨(hb.block D h.rd.lt).trans h.rd.blk, h.rd.byz.below hb, h.rd.ne⟩, h.ob, h.len⟩
def RsN (w : World) (N D : Nat) (s : RS) (n : Nat) (e : Ending) (w' : World) : Prop := ∃ sv', e = .returned (.int .i64 ((rNum s n).1 : Int)) ∧ RdS w' N D sv' (rNum s n).2 ∧ Fr (· = D) w w'
def RsC (w : World) (N D : Nat) (s : RS) (n : Nat) (e : Ending) (w' : World) : Prop := ∃ pv sv', e = .returned pv ∧ Row w.heap.size w' pv (rCut s n).1 ∧ RdS w' N D sv' (rCut s n).2 ∧ Fr (· = D) w w'
theorem ob_next {N : Nat} {sv sv' : Value} {s : RS} {n : Nat} (h : ∀ g, sv.ownBlock = some g → s.2 ≠ [] → g < N) (ho : sv'.ownBlock = sv.ownBlock) : ∀ g, sv'.ownBlock = some g → (rCut s n).2.2 ≠ [] → g < N := fun g hg hn =>
  h g (by rw [← ho]; exact hg) (fun e => hn (List.eq_nil_of_length_eq_zero (by have := (rCut_len s n).2; rw [e] at this; simpa using this)))
theorem rs_num (w : World) (N D : Nat) (sv : Value) (s : RS) (n : Nat) (h : RdS w N D sv s) (hn4 : n ≤ 4) :
    Calls Tryd.prog 49 #[.pointer (some ⟨D, 0, none⟩), .int .i64 (n : Int)] w (RsN w N D s n) := by
  refine (rnum_any w D sv s n h.rd h.len hn4).mono fun e w' ⟨sv', he, hr, ho, hf⟩ => ⟨sv', he, ⟨hr, ob_next h.ob ho, ?_⟩, hf⟩
  have := (rCut_len s n).2
  have h1 := h.len
  show (rCut s n).2.2.length ≤ _
  omega
theorem rs_cut (w : World) (N D : Nat) (sv : Value) (s : RS) (n : Nat) (h : RdS w N D sv s) (hn5 : n ≤ 100000) :
    Calls Tryd.prog 50 #[.pointer (some ⟨D, 0, none⟩), .int .i64 (n : Int)] w (RsC w N D s n) := by
  refine (rcut_any w D sv s n h.rd h.len hn5).mono fun e w' ⟨pv, sv', he, hp, hr, ho, hf⟩ => ⟨pv, sv', he, hp, ⟨hr, ob_next h.ob ho, ?_⟩, hf⟩
  have := (rCut_len s n).2
  have h1 := h.len
  omega
theorem rLets_stop (n : Nat) (s : RS) (acc : List Letr) (h : n = 0 ∨ s.1 = true) : rLets n s acc = (acc, s) := by
  rcases h with rfl | h
  · rfl
  · cases n with
    | zero => rfl
    | succ n => unfold rLets; rw [if_pos h]
theorem rLets_go (n : Nat) (s : RS) (acc : List Letr) (h : s.1 = false) : rLets (n + 1) s acc = rLets n (rLet s).2 (acc ++ [(rLet s).1]) := by
  rw [rLets, if_neg (by rw [h]; simp)]
theorem rBoxs_stop (n : Nat) (s : RS) (acc : List BxD) (h : n = 0 ∨ s.1 = true) : rBoxs n s acc = (acc, s) := by
  rcases h with rfl | h
  · rfl
  · cases n with
    | zero => rfl
    | succ n => unfold rBoxs; rw [if_pos h]
theorem rBoxs_go (n : Nat) (s : RS) (acc : List BxD) (h : s.1 = false) : rBoxs (n + 1) s acc = rBoxs n (rBox s).2 (acc ++ [(rBox s).1]) := by
  rw [rBoxs, if_neg (by rw [h]; simp)]
theorem u8_wrap (x : Nat) (h : x < 256) : IntKind.u8.wrap (x : Int) = ((UInt8.ofNat x).toNat : Int) := by
  have : (UInt8.ofNat x).toNat = x := by simp only [UInt8.toNat_ofNat']; omega
  rw [this]
  show ((x : Int) % 256) = (x : Int)
  omega
def zUs : Array Value := #[.string ⟨#[]⟩, .int .i64 0, .slice none 0 0]
/-- The state of the outer loop. -/
structure OutS (w0 wr : World) (D V : Nat) (sv : Value) (s : RS) (name : ByteArray) (valid : Int) (lv : Value) (bs : List Bx) : Prop where
  rd : RdS wr w0.heap.size D sv s
  var : wr.heap[V]? = some (.cells #[.string name, .int .i64 valid, lv] 43 (0, 0))
  bsat : BsAt (V + 1) wr lv bs
  res : wr.heap[w0.heap.size]? = some (.cells #[.string ⟨#[]⟩, .int .i64 0, .slice none 0 0] 43 (0, 0))
  below : Below w0.heap.size w0 wr
/-- The state of the inner loop. -/
structure InS (w0 wX wr : World) (D X : Nat) (sv : Value) (s : RS) (bn : ByteArray) (bv bx : Int) (lv : Value) (ls : List LV) : Prop where
  rd : RdS wr w0.heap.size D sv s
  box : wr.heap[X]? = some (.cells #[.string bn, .int .i64 bv, .int .i64 bx, lv] 52 (0, 0))
  lsat : LsAt (X + 1) wr lv ls
  fr : Fr (fun k => k = D ∨ X ≤ k) wX wr
theorem InS.read {w0 wX wr w' : World} {D X : Nat} {sv sv' : Value} {s s' : RS} {bn : ByteArray} {bv bx : Int} {lv : Value} {ls : List LV} (h : InS w0 wX wr D X sv s bn bv bx lv ls) (hD : D < X) (hr : RdS w' w0.heap.size D sv' s') (hf : Fr (· = D) wr w') : InS w0 wX w' D X sv' s' bn bv bx lv ls :=
  ⟨hr, (hf.block X (Array.getElem?_eq_some_iff.1 h.box).1 (by omega)).trans h.box, h.lsat.fr hf (fun g e => Or.inl (by omega)), h.fr.trans hf (fun _ _ h => h) (fun _ _ h => Or.inl h)⟩
theorem InS.new {w0 wX wr w' : World} {D X : Nat} {sv : Value} {s : RS} {bn : ByteArray} {bv bx : Int} {lv : Value} {ls : List LV} (h : InS w0 wX wr D X sv s bn bv bx lv ls) (hb : Below wr.heap.size wr w') : InS w0 wX w' D X sv s bn bv bx lv ls :=
  ⟨h.rd.below hb, (hb.block X (Array.getElem?_eq_some_iff.1 h.box).1).trans h.box, h.lsat.fr (Fr.of_below (fun _ => False) hb) (fun _ e => e.elim), h.fr.trans (Fr.of_below (fun _ => False) hb) (fun _ _ h => h) (fun _ _ h => h.elim)⟩
/-- A cell of a block that is nobody's is laid. -/
theorem InS.put {w0 wX wr : World} {D X Y : Nat} {sv : Value} {s : RS} {bn : ByteArray} {bv bx : Int} {lv : Value} {ls : List LV} (h : InS w0 wX wr D X sv s bn bv bx lv ls) (hN : w0.heap.size ≤ X) (hD : D < X) (hY : X < Y) (hls : ∀ g, (lv.ownBlock = some g ∨ ∃ p ∈ ls, p.2.ownBlock = some g) → g ≠ Y) (j : Nat) (u : Value) : InS w0 wX (wr.setCell ⟨Y, j, none⟩ u) D X sv s bn bv bx lv ls := by
  have hf : Fr (· = Y) wr (wr.setCell ⟨Y, j, none⟩ u) := (Fr.refl (· = Y) wr).setCell ⟨Y, j, none⟩ (Or.inl rfl) u
  refine ⟨h.rd.fr hf (fun k _ e => by omega), (hf.block X (Array.getElem?_eq_some_iff.1 h.box).1 (by omega)).trans h.box, ?_, h.fr.trans hf (fun _ _ h => h) (fun k _ e => Or.inr (by omega))⟩
  have hk : ∀ g, g < wr.heap.size → g ≠ Y → (wr.setCell ⟨Y, j, none⟩ u).heap[g]? = wr.heap[g]? := fun g hg hn => hf.block g hg hn
  exact ⟨owns_frame h.lsat.own (fun g hg => hk g (World.ownsRow.lt h.lsat.own g hg).2 (hls g (Or.inl hg))), fun p hp => (h.lsat.rows p hp).kept hf.size (fun g hg => hk g ((h.lsat.rows p hp).1.lt g hg) (hls g (Or.inr ⟨p, hp, hg⟩))), h.lsat.ne⟩
theorem OutS.read {w0 wr w' : World} {D V : Nat} {sv sv' : Value} {s s' : RS} {name : ByteArray} {valid : Int} {lv : Value} {bs : List Bx} (h : OutS w0 wr D V sv s name valid lv bs) (hD : w0.heap.size < D ∧ D < V) (hr : RdS w' w0.heap.size D sv' s') (hf : Fr (· = D) wr w') : OutS w0 w' D V sv' s' name valid lv bs :=
  ⟨hr, (hf.block V (Array.getElem?_eq_some_iff.1 h.var).1 (by omega)).trans h.var, h.bsat.fr hf (fun g e => Or.inl (by omega)), (hf.block _ (Array.getElem?_eq_some_iff.1 h.res).1 (by omega)).trans h.res, h.below.trans (hf.below h.below.size (fun k e => by omega))⟩
end Go.Proofs.YtjljbnilckkjnaaDoor
