import Derived.Test.YtbhkchdkknainaaU3
namespace Go.Proofs.Ytbhkchdkknainaa
open Go.RowKit

theorem Row.of_owns {w : World} {B : Nat} {v : Value} {l : List UInt8} (h : w.ownsRow B 5 1 v l.length ((l.map fun b => (b.toNat : Int)).map (Value.int .u8))) : Row B w v l := by
  obtain ⟨_, ⟨rfl, h0⟩ | ⟨g, cap, cur, rfl, hg, hh, hn, hm, hs, ht⟩⟩ := h
  · have : l = [] := List.eq_nil_of_length_eq_zero h0
    subst this
    exact Row.nil _ _
  · rw [Nat.mul_one] at hs ht
    have hcell : ∀ j, w.cell? ⟨g, j, none⟩ = cur[j]? := fun j => by simp [World.cell?, hh]
    have hfr : ∀ j, w.frozen? ⟨g, j, none⟩ = false := fun j => by simp [World.frozen?, hh]
    have hgl : g < w.heap.size := by
      by_cases hlt : g < w.heap.size
      · exact hlt
      · rw [Array.getElem?_eq_none (by omega)] at hh; cases hh
    refine ⟨⟨_, _, rfl, hn, (fun h => by cases h), fun ad had => ?_⟩, fun ad n' cap' hv => ?_⟩
    · injection had with had
      subst had
      refine ⟨g, 0, rfl, hgl, fun j hj => ?_⟩
      rw [Nat.zero_add, hcell, ← Array.getElem?_toList]
      have h1 : (cur.toList.take l.length)[j]? = some (.int .u8 (l[j].toNat : Int)) := by rw [ht]; simp [hj]
      rwa [List.getElem?_take_of_lt hj] at h1
    · injection hv with e1 _ e3
      injection e1 with e1
      subst e1 e3
      refine ⟨hg, hm, fun j hj => ⟨?_, hfr _⟩⟩
      rw [Nat.zero_add, hcell, Array.getElem?_eq_getElem (by omega)]
      rfl
/-- bytes.Clone of what reads as l: it reads as l, in a block of its own. -/
theorem clone_any (v : Value) (l : List UInt8) (w : World) (hv : Byt w v l) (hl : l.length ≤ 16384) :
    Calls Try.prog 27 #[v] w fun e w' => ∃ v', e = .returned v' ∧ Row w.heap.size w' v' l ∧ Below w.heap.size w w' := by
  obtain ⟨a, cap, rfl, hcap, hnil, hsome⟩ := hv
  cases a with
  | none =>
    have hc := hnil rfl
    have h0 : l = [] := List.eq_nil_of_length_eq_zero (by omega)
    subst h0
    refine (Try.bytes_Clone_nil _ cap w).mono ?_
    rintro e w' ⟨rfl, rfl⟩
    exact ⟨_, rfl, Row.nil _ _, Below.refl _ _⟩
  | some ad =>
    obtain ⟨g, off, rfl, hg, hc⟩ := hsome _ rfl
    refine (Try.bytes_Clone_at ⟨g, off, none⟩ l.length cap (l.map fun b => (b.toNat : Int)) w (by simp) (by omega) (fun i hi => by rw [addr_plus, hc i hi, nat_getD l i hi])).mono ?_
    rintro e w' ⟨v', rfl, hown, _, hb⟩
    exact ⟨v', rfl, Row.of_owns hown, hb⟩

set_option maxHeartbeats 800000 in
theorem raw_any {B b : Nat} {v : Value} {l : List UInt8} (w : World) (k : Nat) (h : LB B w b v l) (hl : l.length ≤ 16384) (hk : k ≤ l.length) :
    Calls Try.prog 15 #[.pointer (some ⟨b, 0, none⟩), .int .i64 (k : Int)] w fun e w' => ∃ t v', e = .returned (.tuple #[t, .int .i64 0]) ∧ Row w.heap.size w' t (l.take k) ∧ LB B w' b v' (l.drop k) ∧ v'.ownBlock = v.ownBlock ∧ Fr (fun j => j = b) w w' := by
  obtain ⟨a, cap, rfl, hcap⟩ := h.row.1.shape
  have ht := take_any w k h hk
  have hc := h.cell
  have hn0 : ¬ ((k : Int) < 0) := by omega
  have hn1 : ¬ ((l.length : Int) < (k : Int)) := by omega
  have hblt := h.lt
  clear h
  go_enter Try.func15, Try.ntmps15
  go_wp2_with fail
  refine ht.mono ?_
  rintro e w1 ⟨t, v', rfl, ht1, ho1, h1, hv', hF⟩
  clear ht hc
  go_wp2_with fail
  refine (clone_any t _ w1 ht1 (by rw [List.length_take]; omega)).mono ?_
  rintro e w2 ⟨t2, rfl, R2, b2⟩
  have hz := hF.size
  have hR : Row w.heap.size w2 t2 (l.take k) := ⟨R2.1, fun ad n cap hv => by have := R2.2 ad n cap hv; exact ⟨Nat.le_trans hz this.1, this.2⟩⟩
  have h2 := h1.stay b2
  have hF2 : Fr (fun j => j = b) w w2 := hF.trans (Fr.of_below (S := fun _ => False) b2) (fun _ e => e) (fun _ _ e => e.elim)
  go_wp2
  go_ret2
  exact ⟨_, _, rfl, hR, h2, hv', hF2⟩
end Go.Proofs.Ytbhkchdkknainaa
