/- Lines: Raw, Body, Feed of both, at every state. -/
import Derived.Test.YtbhkchdkknainaaU7
namespace Go.Proofs.Ytbhkchdkknainaa
open Go.RowKit

def rawE (l : List UInt8) (k : Int) : Int := if k < 0 then 2 else if (l.length : Int) < k then 3 else 0
def rawT (l : List UInt8) (k : Int) : List UInt8 := if k < 0 then [] else if (l.length : Int) < k then [] else l.take k.toNat
def rawD (l : List UInt8) (k : Int) : List UInt8 := if k < 0 then l else if (l.length : Int) < k then l else l.drop k.toNat
def bodE (l : List UInt8) : Int := match unstL l with | none => 3 | some _ => 0
def bodT (l : List UInt8) : List UInt8 := match unstL l with | none => [] | some (p, _) => p
def bodD (l : List UInt8) : List UInt8 := match unstL l with | none => l | some (_, n) => l.drop n

/-- What a call leaves of the program's buffer. -/
def LBNow (B : Nat) (w : World) (b : Nat) (v : Value) (l : List UInt8) (w' : World) : Prop := ∃ v', LB B w' b v' l ∧ (v'.ownBlock = v.ownBlock ∨ ∀ g, v'.ownBlock = some g → w.heap.size ≤ g) ∧ Fr (fun k => k = b ∨ v.ownBlock = some k) w w'
/-- What a call tells of bytes, in memory of its own, beside it. -/
def Took (w w' : World) (t : Value) (p : List UInt8) : Prop := Row w.heap.size w' t p
theorem LBNow.same {B b : Nat} {v : Value} {l : List UInt8} {w : World} (h : LB B w b v l) : LBNow B w b v l w := ⟨v, h, Or.inl rfl, Fr.refl _ _⟩
theorem LBNow.stay {B b : Nat} {v : Value} {l : List UInt8} {w w' : World} (h : LB B w b v l) (hb : Below w.heap.size w w') : LBNow B w b v l w' := ⟨v, h.stay hb, Or.inl rfl, Fr.of_below hb⟩
theorem LBNow.one {B b : Nat} {v v' : Value} {l : List UInt8} {w w' : World} (h : LB B w' b v' l) (hv : v'.ownBlock = v.ownBlock) (hf : Fr (fun j => j = b) w w') : LBNow B w b v l w' :=
  ⟨v', h, Or.inl hv, hf.trans (Fr.refl (fun _ => False) w') (fun _ e => Or.inl e) (fun _ _ e => e.elim)⟩

theorem lfeed (w : World) {B b : Nat} {v p : Value} {l q : List UInt8} (h : LB B w b v l) (hp : Rd w p q) (hB : B ≤ w.heap.size) (hl : l.length ≤ 16384) :
    Calls Try.prog 12 #[.pointer (some ⟨b, 0, none⟩), p] w fun e w' => e = .returned (.int .i64 (feedE l q)) ∧ LBNow B w b v (feedL l q) w' := by
  by_cases hfit : fits l q
  · refine (feed_rd w h hp hB hl hfit).mono ?_
    rintro e w' ⟨rfl, v', h1, h2, h3⟩
    refine ⟨by rw [feedE, if_pos hfit], v', ?_, h3, h2⟩
    rw [feedL, if_pos hfit]
    exact h1
  · obtain ⟨a, cap, rfl, hcap⟩ := h.row.1.shape
    obtain ⟨a2, cap2, rfl, hcap2⟩ := hp.shape
    have hc := h.cell
    have hle : ((16384 : Int) - (l.length : Int) < (q.length : Int)) := by unfold fits at hfit; omega
    have hE : feedE l q = 8 := if_neg hfit
    have hL : feedL l q = l := if_neg hfit
    rw [hE, hL]
    have FIN := Lib.hid (LBNow.same h)
    clear hp h hE hL hfit
    go_enter Try.func12, Try.ntmps12
    go_wp2
    go_ret
    exact ⟨rfl, FIN.out⟩

theorem lline (w : World) {B b : Nat} {v : Value} {l : List UInt8} (h : LB B w b v l) (hl : l.length ≤ 16384) (hM : Ml w) :
    Calls Try.prog 13 #[.pointer (some ⟨b, 0, none⟩)] w fun e w' => e = .returned (lineR l) ∧ LBNow B w b v (lineD l) w' := by
  unfold lineR lineD
  cases hn : lineLen l with
  | none => exact (line_short w h hl hM hn).mono fun e w' ⟨h1, h2⟩ => ⟨h1, LBNow.stay h h2⟩
  | some n => exact (line_some w n h hl hM hn).mono fun e w' ⟨h1, v', h2, h3, h4⟩ => ⟨h1, LBNow.one h2 h3 h4⟩

/-- .. of one whose bytes stay where they are. -/
def LBOne (B : Nat) (w : World) (b : Nat) (v : Value) (l : List UInt8) (w' : World) : Prop := ∃ v', LB B w' b v' l ∧ v'.ownBlock = v.ownBlock ∧ Fr (fun j => j = b) w w'
theorem LBOne.same {B b : Nat} {v : Value} {l : List UInt8} {w : World} (h : LB B w b v l) : LBOne B w b v l w := ⟨v, h, rfl, Fr.refl _ _⟩
theorem LBOne.stay {B b : Nat} {v : Value} {l : List UInt8} {w w' : World} (h : LB B w b v l) (hb : Below w.heap.size w w') : LBOne B w b v l w' := ⟨v, h.stay hb, rfl, Fr.of_below hb⟩
theorem LBOne.now {B b : Nat} {v : Value} {l : List UInt8} {w w' : World} (h : LBOne B w b v l w') : LBNow B w b v l w' := by obtain ⟨v', h1, h2, h3⟩ := h; exact LBNow.one h1 h2 h3

set_option maxHeartbeats 800000 in
theorem lraw (w : World) (k : Int) {B b : Nat} {v : Value} {l : List UInt8} (h : LB B w b v l) (hl : l.length ≤ 16384) :
    Calls Try.prog 15 #[.pointer (some ⟨b, 0, none⟩), .int .i64 k] w fun e w' => ∃ t, e = .returned (.tuple #[t, .int .i64 (rawE l k)]) ∧ Took w w' t (rawT l k) ∧ LBOne B w b v (rawD l k) w' := by
  by_cases h0 : k < 0
  · obtain ⟨a, cap, rfl, hcap⟩ := h.row.1.shape
    have FIN := Lib.hid (LBOne.same h)
    unfold rawE rawT rawD
    rw [if_pos h0, if_pos h0, if_pos h0]
    clear h
    go_enter Try.func15, Try.ntmps15
    go_wp2
    go_ret2
    exact ⟨_, rfl, Row.nil _ _, FIN.out⟩
  · by_cases h1 : (l.length : Int) < k
    · obtain ⟨a, cap, rfl, hcap⟩ := h.row.1.shape
      have FIN := Lib.hid (LBOne.same h)
      have hc := h.cell
      unfold rawE rawT rawD
      rw [if_neg h0, if_neg h0, if_neg h0, if_pos h1, if_pos h1, if_pos h1]
      clear h
      go_enter Try.func15, Try.ntmps15
      go_wp2
      go_ret2
      exact ⟨_, rfl, Row.nil _ _, FIN.out⟩
    · unfold rawE rawT rawD
      rw [if_neg h0, if_neg h0, if_neg h0, if_neg h1, if_neg h1, if_neg h1]
      obtain ⟨n, rfl⟩ : ∃ n : Nat, k = (n : Int) := ⟨k.toNat, by omega⟩
      rw [Int.toNat_natCast]
      exact (raw_any w n h hl (by omega)).mono fun e w' ⟨t, v', h1, h2, h3, h4, h5⟩ => ⟨t, h1, h2, ⟨v', h3, h4, h5⟩⟩

theorem lbody (w : World) {B b : Nat} {v : Value} {l : List UInt8} (h : LB B w b v l) (hl : l.length ≤ 16384) (hM : Ml w) :
    Calls Try.prog 23 #[.pointer (some ⟨b, 0, none⟩)] w fun e w' => ∃ t, e = .returned (.tuple #[t, .int .i64 (bodE l)]) ∧ Took w w' t (bodT l) ∧ LBOne B w b v (bodD l) w' := by
  unfold bodE bodT bodD
  cases hn : unstL l with
  | none => exact (body_no w h hl hM hn).mono fun e w' ⟨h1, h2⟩ => ⟨_, h1, Row.nil _ _, LBOne.stay h h2⟩
  | some r =>
    obtain ⟨p, n⟩ := r
    exact (body_some w n h hl hM hn).mono fun e w' ⟨t, v', h1, h2, h3, h4, h5⟩ => ⟨t, h1, h2, ⟨v', h3, h4, h5⟩⟩

/-- What a call leaves of the document's buffer. -/
def ROr (B : Nat) (w : World) (b : Nat) (v : Value) (l l' : List UInt8) (w' : World) : Prop := RBNow B w b l' w' ∨ (l' = l ∧ RBSame B w b v l w')
theorem rline (w : World) {B b : Nat} {v : Value} {l : List UInt8} (h : RB B w b v l) (hl : l.length ≤ 16384) :
    Calls Try.prog 31 #[.pointer (some ⟨b, 0, none⟩)] w fun e w' => e = .returned (lineR l) ∧ ROr B w b v l (lineD l) w' := by
  unfold lineR lineD
  cases hn : lineLen l with
  | none => exact (rline_none w h hl hn).mono fun e w' ⟨h1, h2⟩ => ⟨h1, Or.inr ⟨rfl, h2⟩⟩
  | some n => exact (rline_some w n h hl hn).mono fun e w' ⟨h1, h2⟩ => ⟨h1, Or.inl h2⟩

set_option maxHeartbeats 800000 in
theorem rraw (w : World) (k : Int) {B b : Nat} {v : Value} {l : List UInt8} (h : RB B w b v l) (hl : l.length ≤ 16384) :
    Calls Try.prog 32 #[.pointer (some ⟨b, 0, none⟩), .int .i64 k] w fun e w' => ∃ t, e = .returned (.tuple #[t, .int .i64 (rawE l k)]) ∧ Took w w' t (rawT l k) ∧ ROr B w b v l (rawD l k) w' := by
  have SAME := Lib.hid (show RBSame B w b v l w from ⟨h, Below.refl _ _⟩)
  obtain ⟨a, cap, rfl, hcap⟩ := h.byt.shape
  have hc := h.cell
  by_cases h0 : k < 0
  · unfold rawE rawT rawD
    rw [if_pos h0, if_pos h0, if_pos h0]
    clear h
    go_enter Try.func32, Try.ntmps32
    go_wp2
    go_ret2
    exact ⟨_, rfl, Row.nil _ _, Or.inr ⟨rfl, SAME.out⟩⟩
  · by_cases h1 : (l.length : Int) < k
    · unfold rawE rawT rawD
      rw [if_neg h0, if_neg h0, if_neg h0, if_pos h1, if_pos h1, if_pos h1]
      clear h
      go_enter Try.func32, Try.ntmps32
      go_wp2
      go_ret2
      exact ⟨_, rfl, Row.nil _ _, Or.inr ⟨rfl, SAME.out⟩⟩
    · unfold rawE rawT rawD
      rw [if_neg h0, if_neg h0, if_neg h0, if_neg h1, if_neg h1, if_neg h1]
      obtain ⟨n, rfl⟩ : ∃ n : Nat, k = (n : Int) := ⟨k.toNat, by omega⟩
      rw [Int.toNat_natCast]
      have HT := Lib.hid (rtake_any w n h hl (by omega))
      clear h SAME
      go_enter Try.func32, Try.ntmps32
      go_wp2_with fail
      refine HT.out.mono ?_
      rintro e w1 ⟨t, rfl, ht, hnow⟩
      have FIN := Lib.hid (And.intro ht hnow)
      clear ht hnow HT
      go_wp2
      go_ret2
      exact ⟨_, rfl, FIN.out.1, Or.inl FIN.out.2⟩

set_option maxHeartbeats 800000 in
theorem rbody (w : World) {B b : Nat} {v : Value} {l : List UInt8} (h : RB B w b v l) (hl : l.length ≤ 16384) :
    Calls Try.prog 33 #[.pointer (some ⟨b, 0, none⟩)] w fun e w' => ∃ t, e = .returned (.tuple #[t, .int .i64 (bodE l)]) ∧ Took w w' t (bodT l) ∧ ROr B w b v l (bodD l) w' := by
  obtain ⟨a, cap, rfl, hcap⟩ := h.byt.shape
  have hc := h.cell
  have hu := runst_any a cap l w h.byt (by omega)
  rw [← unst_eq] at hu
  unfold bodE bodT bodD
  cases hn : unstL l with
  | none =>
    rw [hn] at hu
    simp only at hu
    have HU := Lib.hid hu
    have HH := Lib.hid h
    clear hu h hn
    simp only
    go_enter Try.func33, Try.ntmps33
    go_wp2_with fail
    refine HU.out.mono ?_
    rintro e w1 ⟨b1, rfl⟩
    have FIN := Lib.hid (show RBSame B w b (.slice a l.length cap) l w1 from ⟨HH.out.stay b1, b1⟩)
    clear b1 HU HH hc
    go_wp2
    go_ret2
    exact ⟨_, rfl, Row.nil _ _, Or.inr ⟨rfl, FIN.out⟩⟩
  | some r =>
    obtain ⟨p, n⟩ := r
    have hle := unstL_le l p n hn
    rw [hn] at hu
    simp only at hu
    have HU := Lib.hid hu
    have HH := Lib.hid h
    clear hu h hn
    simp only
    go_enter Try.func33, Try.ntmps33
    go_wp2_with fail
    refine HU.out.mono ?_
    rintro e w1 ⟨b1, t, rfl, ht⟩
    have HT := Lib.hid (rtake_any w1 n (HH.out.stay b1) hl hle)
    have HR := Lib.hid ht
    have HB := Lib.hid b1
    have HW := Lib.hid HH.out.lt
    clear b1 HU HH hc ht
    go_wp2_with fail
    refine HT.out.mono ?_
    rintro e w2 ⟨t2, rfl, _, hnow⟩
    have FIN := Lib.hid (show Took w w2 t p from by
      obtain ⟨v', _, _, hf⟩ := hnow
      exact HR.out.fr hf (fun g hg e => by have := HR.out.own g hg; have := HW.out; omega))
    have FIN2 := Lib.hid (hnow.after HB.out)
    clear HT HR HB hnow HW
    go_wp2
    go_ret2
    exact ⟨_, rfl, FIN.out, Or.inl FIN2.out⟩
end Go.Proofs.Ytbhkchdkknainaa
