/- Frame: bytes of rows go through a function that is handed on. -/
import Derived.Test.YtjlhcgimijcghaaF3
namespace Go.Proofs.Ytjlhcgimijcghaa
open Go Go.RowKit

theorem sz5 : ∀ w, (sizeOf 5).run Try.prog w = .ok 1 w := fun w => by kernel_rfl
theorem info5 : (Try.prog.info? 5).map (fun i => (i.zero, i.size, i.bytes)) = some (some (.int .u8 0), 1, 1) := by kernel_rfl
theorem app_row (w : World) {B : Nat} {v x : Value} {l p : List UInt8} (hv : Row B w v l) (hx : Byt w x p) (hB : B ≤ w.heap.size) (hlen : l.length + p.length ≤ 140737488355328) :
    ∃ v' w', (∀ ty, (Builtin.append_ #[22, 22] ty #[v, x]).run Try.prog w = .ok v' w') ∧ Row B w' v' (l ++ p) ∧ w.grownBy w' v.ownBlock ∧ (v'.ownBlock = v.ownBlock ∨ ∀ g, v'.ownBlock = some g → w.heap.size ≤ g) := by
  obtain ⟨i0, hi, hz0, hz1, hz2⟩ := info_parts info5
  exact run_append_row w 22 5 i0 Try.underlying22 hi hz0 hz1 hz2 hv hx hB hlen
theorem Row.own {B : Nat} {w : World} {v : Value} {l : List UInt8} (h : Row B w v l) : ∀ g, v.ownBlock = some g → B ≤ g := by
  intro g hg
  obtain ⟨a, cap, rfl, _⟩ := h.1.shape
  cases a with
  | none => simp [Value.ownBlock] at hg
  | some ad =>
    simp [Value.ownBlock] at hg
    subst hg
    exact (h.2 ad _ _ rfl).1

/-- Rows of bytes in block G. -/
def Rd (G : Nat) (vs : List Value) (ls : List (List UInt8)) (w : World) : Prop :=
  vs.length = ls.length ∧ ∀ j v l, vs[j]? = some v → ls[j]? = some l → w.cell? ⟨G, j, none⟩ = some v ∧ Byt w v l

set_option maxHeartbeats 2000000 in
set_option maxRecDepth 100000 in
theorem through_any (K B G cap : Nat) (vs : List Value) (ls : List (List UInt8)) (I : List UInt8 → World → Prop) (w : World) (hn : ls.length ≤ 1000) (hl : ∀ l ∈ ls, l.length ≤ 140737488355328)
    (hread : ∀ d wr, I d wr → Rd G vs ls wr)
    (hstep : ∀ d b wr, I d wr → (d ++ [b]).length ≤ (ls.flatten).length → Calls Try.prog K #[.int .u8 (b.toNat : Int), .pointer (some ⟨B, 0, none⟩)] wr fun e w' => e = .returned (.tuple #[]) ∧ I (d ++ [b]) w')
    (hen : ∀ args w, (callFunc K args).run Try.prog w = .ok (.enter K args) w) (h0 : I [] w) :
    Calls Try.prog 24 #[.slice (some ⟨G, 0, none⟩) ls.length cap, .func (.func K) #[] #[.pointer (some ⟨B, 0, none⟩)]] w fun e w' => e = .returned (.tuple #[]) ∧ I ls.flatten w' := by
  go_enter Try.func24, Try.ntmps24
  go_wp2
  go_loopw [5, 7, 10] (fun _ _ iv wr => ∃ k : Nat, iv = .int .i64 k ∧ k ≤ ls.length ∧ I ((ls.take k).flatten) wr) (fun _ _ iv _ => ls.length - (intOf iv).toNat)
  case atStart => exact ⟨0, rfl, Nat.zero_le _, h0⟩
  case round =>
    obtain ⟨k, rfl, hk, hI⟩ := hrel
    by_cases hlt : k < ls.length
    · obtain ⟨hvl, hrd⟩ := hread _ _ hI
      have hkv : vs[k]? = some (vs[k]'(by omega)) := List.getElem?_eq_getElem _
      have hkl : ls[k]? = some (ls[k]'hlt) := List.getElem?_eq_getElem _
      obtain ⟨hck, hbk⟩ := hrd k _ _ hkv hkl
      have hlk := hl ls[k] (List.getElem_mem _)
      have hfl : (ls.take (k + 1)).flatten = (ls.take k).flatten ++ ls[k] := by
        rw [List.take_add_one, hkl]; simp only [Option.toList, List.flatten_append, List.flatten_cons, List.flatten_nil, List.append_nil]
      have hfle : ((ls.take (k + 1)).flatten).length ≤ (ls.flatten).length := by
        conv => rhs; rw [← List.take_append_drop (k + 1) ls, List.flatten_append, List.length_append]
        omega
      rw [hfl] at hfle
      generalize hvk : vs[k]'(by omega) = v at *
      generalize hlk' : ls[k]'hlt = l at *
      obtain ⟨a, c, rfl, hcap⟩ := hbk.shape
      have HR := Lib.hid hrd
      clear hrd
      go_wp2
      go_loopw [7, 16] (fun _ iv wr => ∃ j : Nat, iv = .int .i64 j ∧ j ≤ l.length ∧ I ((ls.take k).flatten ++ l.take j) wr) (fun _ iv _ => l.length - (intOf iv).toNat)
      case atStart => exact ⟨0, rfl, Nat.zero_le _, by simpa using hI⟩
      case round =>
        obtain ⟨j, rfl, hj, hJ⟩ := hrel
        by_cases hjl : j < l.length
        · obtain ⟨_, hrd2⟩ := hread _ _ hJ
          obtain ⟨g, off, rfl, _, _, hc⟩ := (hrd2 k _ _ hkv hkl).2.at hjl
          have hcj := hc j hjl
          have hst := hstep _ l[j] _ hJ (by simp only [List.length_append, List.length_take, List.length_cons, List.length_nil] at hfle ⊢; omega)
          have htk : (ls.take k).flatten ++ l.take j ++ [l[j]] = (ls.take k).flatten ++ l.take (j + 1) := by
            rw [List.append_assoc, List.take_add_one, List.getElem?_eq_getElem hjl]; rfl
          rw [htk] at hst
          generalize l[j] = b at *
          have HST := Lib.hid hst
          clear hst htk hrd2 hc hJ
          go_wp2_with fail
          refine HST.out.mono ?_
          rintro e w1 ⟨rfl, hI1⟩
          go_wp2
          go_roundw
          case rel => exact ⟨j + 1, by go_num, by omega, hI1⟩
          case measure => simp [intOf]; omega
        · have htl : l.take j = l := List.take_of_length_le (by omega)
          rw [htl, ← hfl] at hJ
          go_wp2
          go_roundw
          case rel => exact ⟨k + 1, by go_num, by omega, hJ⟩
          case measure => simp [intOf]; omega
    · rw [List.take_of_length_le (by omega)] at hI
      go_wp2
      go_end0
      exact ⟨rfl, hI⟩
end Go.Proofs.Ytjlhcgimijcghaa
