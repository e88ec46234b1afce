/- Frame: Scan by the reference; Same. -/
import Derived.Test.YtjlhcgimijcghaaF17
namespace Go.Proofs.Ytjlhcgimijcghaa
open Go Go.RowKit

/-- A slice of slices of bytes reads as ls. -/
def RdS (w : World) (v : Value) (ls : List (List UInt8)) : Prop := ∃ xs : List Value, xs.length = ls.length ∧ VByt w v xs ∧ ∀ (i : Nat) (x : Value) (l : List UInt8), xs[i]? = some x → ls[i]? = some l → Byt w x l
theorem Held.rds {B : Nat} {w : World} {v : Value} {ls : List (List UInt8)} (h : Held B w v ls) : RdS w v ls := by
  obtain ⟨xs, h1, h2, _, h4⟩ := h
  exact ⟨xs, h1, h2.1, fun i x l hx hl => (h4 i x l hx hl).1⟩
theorem RdS.below {w w' : World} {v : Value} {ls : List (List UInt8)} (h : RdS w v ls) (hb : Below w.heap.size w w') : RdS w' v ls := by
  obtain ⟨xs, h1, h2, h4⟩ := h
  exact ⟨xs, h1, h2.below hb, fun i x l hx hl => (h4 i x l hx hl).below hb⟩
theorem RdS.shape {w : World} {v : Value} {ls : List (List UInt8)} (h : RdS w v ls) : ∃ a c, v = .slice a ls.length c ∧ ls.length ≤ c := by
  obtain ⟨xs, h1, h2, _⟩ := h
  rw [← h1]
  exact h2.shape
theorem RdS.at {w : World} {a : Option Addr} {n c : Nat} {ls : List (List UInt8)} (h : RdS w (.slice a n c) ls) {j : Nat} (hj : j < ls.length) :
    ∃ g off ax cx, a = some ⟨g, off, none⟩ ∧ w.cell? ⟨g, off + j, none⟩ = some (.slice ax (ls[j]).length cx) ∧ Byt w (.slice ax (ls[j]).length cx) ls[j] := by
  obtain ⟨xs, h1, ⟨a', c', hv, k2, k3, k4⟩, h4⟩ := h
  injection hv with e1 e2 e3
  subst e1 e2 e3
  cases a with
  | none => have := k3 rfl; omega
  | some ad =>
    obtain ⟨g, off, rfl, _, hc⟩ := k4 _ rfl
    have hx := h4 j (xs[j]'(by omega)) ls[j] (List.getElem?_eq_getElem _) (List.getElem?_eq_getElem _)
    obtain ⟨ax, cx, hs, _⟩ := hx.shape
    have := hc j (by omega)
    rw [hs] at this hx
    exact ⟨g, off, ax, cx, rfl, this, hx⟩

set_option maxHeartbeats 2000000 in
theorem same_any (v u : Value) (ls : List (List UInt8)) (w : World) (hv : RdS w v ls) (hu : RdS w u ls) (hl : ls.length ≤ 1000000000) :
    Calls Try.prog 18 #[v, u] w fun e w' => e = .returned (.bool true) ∧ Below w.heap.size w w' := by
  obtain ⟨a, c, rfl, hcap⟩ := hv.shape
  obtain ⟨b, d, rfl, hcap2⟩ := hu.shape
  have HV := Lib.hid hv
  have HU := Lib.hid hu
  clear hv hu
  go_enter Try.func18, Try.ntmps18
  go_wp2
  go_loopw [5] (fun iv wr => ∃ k : Nat, iv = .int .i64 (k : Int) ∧ k ≤ ls.length ∧ Below w.heap.size w wr) (fun iv _ => ls.length - (intOf iv).toNat)
  case atStart => exact ⟨0, rfl, Nat.zero_le _, Below.refl _ _⟩
  case round =>
    obtain ⟨k, rfl, hk, hB⟩ := hrel
    by_cases hlt : k < ls.length
    · obtain ⟨g, off, ax, cx, rfl, hc1, hx1⟩ := (HV.out.below hB).at hlt
      obtain ⟨g2, off2, ay, cy, rfl, hc2, hx2⟩ := (HU.out.below hB).at hlt
      have hs1 := fun m => run_byt_string (P := Try.prog) (wr.drewN m) 22 9 5 Try.underlying22 Try.underlying5 Try.underlying9 (hx1.below (bel_draws (Below.refl _ wr) m))
      have hs2 := fun m => run_byt_string (P := Try.prog) (wr.drewN m) 22 9 5 Try.underlying22 Try.underlying5 Try.underlying9 (hx2.below (bel_draws (Below.refl _ wr) m))
      generalize ls[k] = X at *
      have HB := Lib.hid hB
      clear hx1 hx2 hB HV HU
      go_wp2_with fail
      go_quiet (fail)
      have HB3 := Lib.hid (bel_draws HB.out nq)
      clear hs1 hs2 hc1 hc2 HB
      generalize wr.drewN nq = w3 at *
      go_wp2
      go_roundw
      case rel => exact ⟨k + 1, by go_num, by omega, HB3.out⟩
      case measure => simp [intOf]; omega
    · have HB := Lib.hid hB
      clear hB
      go_wp2
      go_ret
      exact ⟨rfl, HB.out⟩
end Go.Proofs.Ytjlhcgimijcghaa
