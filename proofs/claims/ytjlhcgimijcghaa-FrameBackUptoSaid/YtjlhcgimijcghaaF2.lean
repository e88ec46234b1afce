/- Frame: the sum of bytes by the reference. -/
import Derived.Test.YtjlhcgimijcghaaRows
import Derived.Test.YtjlhcgimijcghaaMem
import Derived.Test.YtjlhcgimijcghaaF1
import Derived.Laws.BitsAllLaws
namespace Go.Proofs.Ytjlhcgimijcghaa
open Go Go.RowKit

theorem Byt.at {w : World} {a : Option Addr} {n cap : Nat} {l : List UInt8} (h : Byt w (.slice a n cap) l) {j : Nat} (hj : j < n) :
    ∃ g off, a = some ⟨g, off, none⟩ ∧ n = l.length ∧ g < w.heap.size ∧ ∀ i (hi : i < l.length), w.cell? ⟨g, off + i, none⟩ = some (.int .u8 (l[i].toNat : Int)) := by
  obtain ⟨a', cap', hv, h2, h3, h4⟩ := h
  injection hv with e1 e2 e3
  subst e1 e2 e3
  cases a with
  | none => have := h3 rfl; omega
  | some ad =>
    obtain ⟨g, off, rfl, hg, hc⟩ := h4 _ rfl
    exact ⟨g, off, rfl, rfl, hg, hc⟩

set_option maxHeartbeats 1000000 in
theorem rsum_any (v : Value) (l : List UInt8) (w : World) (hv : Byt w v l) (hlen : l.length ≤ 140737488355328) :
    Calls Try.prog 11 #[v] w fun e w' => e = .returned (.int .u32 (crcN l : Int)) ∧ w' = w := by
  obtain ⟨a, cap, rfl, hcap⟩ := hv.shape
  have hbl := length_bitsOf l
  generalize hF : crcN l = F
  have HF := Lib.hid hF
  clear hF
  go_enter Try.func11, Try.ntmps11
  go_wp2
  go_loop [3, 4, 5, 6] (fun rv iv _ _ => ∃ k r : Nat, iv = .int .i64 k ∧ k ≤ 8 * l.length ∧ rv = .int .u32 r ∧ r < 4294967296 ∧ 4294967295 - ((bitsOf l).drop k).foldl stp r = F) (fun _ iv _ _ => 8 * l.length - (intOf iv).toNat)
  case atStart => exact ⟨0, 4294967295, rfl, Nat.zero_le _, rfl, by omega, HF.out⟩
  case round =>
    obtain ⟨k, r, rfl, hk, rfl, hr, hgo⟩ := hrel
    by_cases hlt : k < 8 * l.length
    · obtain ⟨g, off, rfl, _, _, hc⟩ := hv.at (show k / 8 < l.length by omega)
      have hcc := hc (k / 8) (by omega)
      rw [drop_at _ _ _ (bitsOf_at l k (by omega)), List.foldl_cons] at hgo
      generalize hx : l[k / 8].toNat = x at *
      have hxl : x < 256 := by rw [← hx]; exact UInt8.toNat_lt _
      have hsl := stp_lt (x := x / 2 ^ (k % 8) % 2) hr
      by_cases hq : r % 2 = x / 2 ^ (k % 8) % 2
      · have hn : ((r : Int) % 2 != (x : Int) / 2 ^ (k % 8) % 2) = false := by
          rw [bne_eq_false_iff_eq]; exact_mod_cast hq
        have hs : stp r (x / 2 ^ (k % 8) % 2) = r / 2 := by unfold stp; rw [if_pos hq]
        rw [hs] at hgo hsl
        have HG := Lib.hid hgo
        clear hgo hs hq hx hc hv
        go_wp2
        refine ⟨⟨k + 1, r / 2, by go_num, by omega, by go_num, hsl, HG.out⟩, ?_⟩
        simp [intOf]; omega
      · have hn : ((r : Int) % 2 != (x : Int) / 2 ^ (k % 8) % 2) = true := by
          rw [bne_iff_ne]; exact_mod_cast hq
        have hs : stp r (x / 2 ^ (k % 8) % 2) = r / 2 ^^^ 3988292384 := by unfold stp; rw [if_neg hq]
        have hxo := u32_xor_nat (r / 2) 3988292384 (by omega) (by omega)
        have hxo2 : bits BinOp.xor IntKind.u32 ((r : Int) / 2) 3988292384 = ((r / 2 ^^^ 3988292384 : Nat) : Int) := hxo
        rw [hs] at hgo hsl
        have HG := Lib.hid hgo
        clear hgo hs hq hx hc hv hxo
        go_wp2
        refine ⟨⟨k + 1, r / 2 ^^^ 3988292384, by go_num, by omega, by first | rfl | rw [hxo2] | go_num, hsl, HG.out⟩, ?_⟩
        simp [intOf]; omega
    · rw [List.drop_eq_nil_of_le (by omega)] at hgo
      simp only [List.foldl_nil] at hgo
      have hgo2 : (4294967295 : Int) - (r : Int) = (F : Int) := by omega
      clear hgo
      go_wp2
      go_ret
      exact ⟨rfl, rfl⟩
end Go.Proofs.Ytjlhcgimijcghaa
