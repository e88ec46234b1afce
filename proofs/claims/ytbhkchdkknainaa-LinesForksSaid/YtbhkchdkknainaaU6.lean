/- Lines, the document's own: Feed, take, Line, Raw, Body. -/
import Derived.Test.YtbhkchdkknainaaU5
namespace Go.Proofs.Ytbhkchdkknainaa
open Go.RowKit

def fits (l q : List UInt8) : Prop := l.length + q.length ≤ 16384
instance (l q : List UInt8) : Decidable (fits l q) := by unfold fits; infer_instance
def feedE (l q : List UInt8) : Int := if fits l q then 0 else 8
def feedL (l q : List UInt8) : List UInt8 := if fits l q then l ++ q else l

/-- What is left at y behind a call that only writes there. -/
def RBNow (B : Nat) (w : World) (y : Nat) (l : List UInt8) (w' : World) : Prop := ∃ v', RB B w' y v' l ∧ (∀ g, v'.ownBlock = some g → w.heap.size ≤ g) ∧ Fr (fun k => k = y) w w'
def RBOr (B : Nat) (w : World) (y : Nat) (v : Value) (l l' : List UInt8) (w' : World) : Prop := RBNow B w y l' w' ∨ (l' = l ∧ w' = w ∧ RB B w' y v l)

set_option maxHeartbeats 1600000 in
theorem rfeed_any {B b : Nat} {v p : Value} {l q : List UInt8} (w : World) (h : RB B w b v l) (hp : Rd w p q) (hl : l.length ≤ 16384) (hq : q.length ≤ 140737488351232) :
    Calls Try.prog 30 #[.pointer (some ⟨b, 0, none⟩), p] w fun e w' => e = .returned (.int .i64 (feedE l q)) ∧ RBOr B w b v l (feedL l q) w' := by
  obtain ⟨a, cap, rfl, hcap⟩ := h.byt.shape
  have hlt := h.lt
  have hc := h.cell
  have hap := h.apart
  by_cases hfit : l.length + q.length ≤ 16384
  · obtain ⟨v2, w2, hr2, R2, b2⟩ := copy_run w h.byt (by omega)
    obtain ⟨v3, w3, hr3, R3, hg3, ho3⟩ := app_rd w2 R2 (hp.below b2) b2.size (by omega)
    have b3 : Below w.heap.size w w3 := below_grow b2 R2 b2.size hg3
    obtain ⟨a2, cap2, rfl, hcap2⟩ := hp.shape
    obtain ⟨a3, cap3, rfl, hcap3⟩ := R3.1.shape
    have hc3 := (b3.cell (p := ⟨b, 0, none⟩) hlt).trans hc
    have hf3 := (b3.frozen (p := ⟨b, 0, none⟩) hlt).trans h.free
    have hn3 : ∀ g, (Value.slice a3 (l ++ q).length cap3).ownBlock = some g → w.heap.size ≤ g := R3.own
    have hfin : RBNow B w b (l ++ q) (w3.setCell ⟨b, 0, none⟩ (.slice a3 (l ++ q).length cap3)) :=
      ⟨_, RB.set (by rw [hc3]; rfl) hf3 h.own R3.1 (fun e => by have := hn3 b e; omega), hn3, (Fr.of_below (S := fun _ => False) b3).trans (Fr.set (S := fun k => k = b) w3 b _ rfl) (fun _ e => e.elim) (fun _ _ e => e)⟩
    have hE : feedE l q = 0 := if_pos hfit
    have hL : feedL l q = l ++ q := if_pos hfit
    have hle : ¬ ((16384 : Int) < (l.length : Int) + (q.length : Int)) := by omega
    rw [hE, hL]
    have FIN := Lib.hid hfin
    have RUN2 := Lib.hid hr2
    have RUN3 := Lib.hid hr3
    have m1 := made_below w #[] (0, 0)
    have hcA := (m1.cell (p := ⟨b, 0, none⟩) hlt).trans hc
    generalize hn : (l ++ q).length = n3 at *
    clear hfin hr2 hr3 R2 R3 hg3 ho3 b3 hn3 hE hL hp h b2 hap hfit hn m1
    have tok1 : True := trivial
    go_enter Try.func30, Try.ntmps30
    go_wp2_with (at_builtin; first | (have _t := tok1; refine wpList_append_run _ rfl _ _ 31 31 rfl _ _ rfl rfl v2 w2 RUN2.out ?_; clear _t tok1) | (refine wpList_append_run _ rfl _ _ 31 31 rfl _ _ rfl rfl _ w3 RUN3.out ?_))
    go_ret
    exact ⟨rfl, Or.inl FIN.out⟩
  · have hE : feedE l q = 8 := if_neg hfit
    have hL : feedL l q = l := if_neg hfit
    obtain ⟨a2, cap2, rfl, hcap2⟩ := hp.shape
    have hle : ((16384 : Int) < (l.length : Int) + (q.length : Int)) := by omega
    rw [hE, hL]
    have FIN := Lib.hid h
    clear hE hL hp h hap hfit
    go_enter Try.func30, Try.ntmps30
    go_wp2
    go_ret
    exact ⟨rfl, Or.inr ⟨rfl, rfl, FIN.out⟩⟩

set_option maxHeartbeats 1600000 in
theorem rtake_any {B b : Nat} {v : Value} {l : List UInt8} (w : World) (k : Nat) (h : RB B w b v l) (hl : l.length ≤ 16384) (hk : k ≤ l.length) :
    Calls Try.prog 35 #[.pointer (some ⟨b, 0, none⟩), .int .i64 (k : Int)] w fun e w' => ∃ t, e = .returned t ∧ Row w.heap.size w' t (l.take k) ∧ RBNow B w b (l.drop k) w' := by
  obtain ⟨a, cap, rfl, hcap⟩ := h.byt.shape
  have hlt := h.lt
  have hc := h.cell
  have hz := cutA_zero h.byt
  have hcut1 := run_cut_to (P := Try.prog) (w.alloc (.cells #[] 5)) 31 5 Try.underlying31 sz5 a l.length cap k (by omega)
  have hB1 := h.byt.cut 0 k cap (Nat.zero_le _) hk (by omega) (Nat.le_refl _)
  rw [hz] at hcut1 hB1
  rw [Nat.sub_zero, Nat.sub_zero, List.drop_zero] at hB1
  obtain ⟨v2, w2, hr2, R2, b2⟩ := copy_run w hB1 (by rw [List.length_take]; omega)
  have h2 : RB B w2 b (.slice a l.length cap) l := h.stay b2
  have hcut2 := run_cut_from (P := Try.prog) (w2.alloc (.cells #[] 5)) 31 5 Try.underlying31 sz5 a l.length cap k hk
  have hB2 := h2.byt.cut k l.length cap hk (Nat.le_refl _) hcap (Nat.le_refl _)
  rw [List.take_of_length_le (by rw [List.length_drop]; omega)] at hB2
  obtain ⟨v3, w3, hr3, R3, b3⟩ := copy_run w2 hB2 (by rw [List.length_drop]; omega)
  have hlt2 := h2.lt
  have hc2 := h2.cell
  have hc3 := (b3.cell (p := ⟨b, 0, none⟩) hlt2).trans hc2
  have hf3 := (b3.frozen (p := ⟨b, 0, none⟩) hlt2).trans h2.free
  have hz2 := b2.size
  have hn3 : ∀ g, v3.ownBlock = some g → w.heap.size ≤ g := fun g hg => Nat.le_trans hz2 (R3.own g hg)
  have hap3 : v3.ownBlock ≠ some b := fun e => by have := R3.own b e; omega
  have b23 : Below w.heap.size w w3 := b2.trans (b3.mono hz2)
  have hfin : RBNow B w b (l.drop k) (w3.setCell ⟨b, 0, none⟩ v3) :=
    ⟨_, RB.set (by rw [hc3]; rfl) hf3 h.own R3.1 hap3, hn3, (Fr.of_below (S := fun _ => False) b23).trans (Fr.set (S := fun k => k = b) w3 b _ rfl) (fun _ e => e.elim) (fun _ _ e => e)⟩
  have hfin2 : Row w.heap.size (w3.setCell ⟨b, 0, none⟩ v3) v2 (l.take k) := (R2.below b3).fr (Fr.set w3 b v3 (S := fun j => j = b) rfl) (fun g hg e => by have := R2.own g hg; omega)
  have m1 := made_below w #[] (0, 0)
  have hcA := (m1.cell (p := ⟨b, 0, none⟩) hlt).trans hc
  have m2 := made_below w2 #[] (0, 0)
  have hcB := (m2.cell (p := ⟨b, 0, none⟩) hlt2).trans hc2
  obtain ⟨ca, hca⟩ : ∃ ca, cutA a k cap = ca := ⟨_, rfl⟩
  rw [hca] at hcut2 hr3
  have FIN := Lib.hid hfin
  have FIN2 := Lib.hid hfin2
  have RUN2 := Lib.hid hr2
  have RUN3 := Lib.hid hr3
  have HZ := Lib.hid hz
  have HCA := Lib.hid hca
  obtain ⟨a2, cap2, rfl, hcap2⟩ := R2.1.shape
  obtain ⟨a3, cap3, rfl, hcap3⟩ := R3.1.shape
  generalize hn3 : (List.drop k l).length = n3 at *
  generalize hn2 : (List.take k l).length = n2 at *
  clear hfin hfin2 hr2 hr3 R2 R3 b2 b3 b23 hn3 hap3 h h2 hB1 hB2 m1 m2 hz hca hn2
  have tok1 : True := trivial
  go_enter Try.func35, Try.ntmps35
  go_wp2_with (at_builtin; first | (have _t := tok1; refine wpList_append_run _ rfl _ _ 31 31 rfl _ _ rfl rfl _ w2 RUN2.out ?_; clear _t tok1) | (refine wpList_append_run _ rfl _ _ 31 31 rfl _ _ rfl rfl _ w3 RUN3.out ?_))
  go_ret
  exact ⟨_, rfl, FIN2.out, FIN.out⟩
end Go.Proofs.Ytbhkchdkknainaa
