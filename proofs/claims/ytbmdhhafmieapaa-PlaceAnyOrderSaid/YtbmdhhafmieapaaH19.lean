/- Place: Seats, Fork of the code; Same. -/
import Derived.Test.YtbmdhhafmieapaaH18
namespace Go.Proofs.Ytbmdhhafmieapaa
open Go Go.RowKit Go.Maps

set_option maxHeartbeats 1000000 in
theorem seats_any (p b : Nat) (n : Int) (k : Nat) (l : List Known) (w : World) (hm : IsMap w p b n k (mapD l)) (hr : Rising l) (hl : l.length ≤ 1000) :
    Calls Try.prog 19 #[.pointer (some ⟨p, 0, none⟩)] w (Gave (· = l) w) := by
  have c1 := hm.c1
  have hal : Below w.heap.size w (w.alloc (.cells #[.map (some b)] 55)) := (Below.refl _ w).alloc (Nat.le_refl _) _
  obtain ⟨W, hW⟩ : ∃ W, w.alloc (.cells #[.map (some b)] 55) = W := ⟨_, rfl⟩
  have hblk : W.heap[w.heap.size]? = some (.cells #[.map (some b)] 55) := by rw [← hW]; exact heap_alloc_last w _
  have hs : W.heap.size = w.heap.size + 1 := by rw [← hW]; simp
  have hv : Calls Try.prog 27 #[.map (some b)] w fun e w' => e = .returned (.func (.func 33) #[] #[.pointer (some ⟨w.heap.size, 0, none⟩)]) ∧ w' = W := by
    rw [← hW]
    go_enter Try.func27, Try.ntmps27
    go_wp2
    go_ret
    exact ⟨rfl, hW.symm⟩
  rw [hW] at hal
  have hmW := hm.below hal hm.lt
  have hsrt := sorted_any w.heap.size b k l hr hl W (by omega) (by rw [cell_of_row _ _ _ _ _ _ hblk]; rfl) hmW.own
  have HS := Lib.hid hsrt
  have HV := Lib.hid hv
  have HB := Lib.hid hal
  clear hW hblk hs hv hal hmW hsrt hm hl
  go_enter Try.func19, Try.ntmps19
  go_wp2_with fail
  refine HV.out.mono ?_
  rintro e w' ⟨rfl, rfl⟩
  go_wp2_with fail
  refine HS.out.mono ?_
  rintro e w2 ⟨v, ss, rfl, rfl, h1, h2⟩
  have FIN := Lib.hid (show Gave (· = ss) w (.returned v) w2 from ⟨v, ss, rfl, rfl, World.ownsRow.mono h1 HB.out.size, HB.out.trans (h2.mono HB.out.size)⟩)
  clear h1 h2 HS HV
  go_wp2
  go_ret
  exact FIN.out
theorem seats_nil (w : World) : Calls Try.prog 19 #[.pointer none] w fun e w' => e = .returned (.slice none 0 0) ∧ w' = w := by
  go_enter Try.func19, Try.ntmps19
  go_wp2
  go_ret
  exact ⟨rfl, rfl⟩

set_option maxHeartbeats 2000000 in
theorem same_any (u v : Value) (l : List Known) (w : World) (hu : Full w u l) (hv : Full w v l) (hl : l.length ≤ 1000000) :
    Calls Try.prog 18 #[u, v] w fun e w' => e = .returned (.bool true) ∧ Below w.heap.size w w' := by
  obtain ⟨ua, uc, hue⟩ := hu.len
  obtain ⟨va, vc, hve⟩ := hv.len
  have HU := Lib.hid hu
  have HV := Lib.hid hv
  have HB := Lib.hid (Below.refl w.heap.size w)
  subst hue hve
  clear hu hv
  go_enter Try.func18, Try.ntmps18
  go_wp2
  go_loopw [5] (fun iv wr => ∃ k : Nat, iv = .int .i64 (k : Int) ∧ k ≤ l.length ∧ Hid (Below w.heap.size w wr)) (fun iv _ => l.length - (intOf iv).toNat)
  case atStart => exact ⟨0, rfl, Nat.zero_le _, HB⟩
  case round =>
    obtain ⟨k, rfl, hk, hH⟩ := hrel
    by_cases hlt : k < l.length
    · obtain ⟨g1, c1, e1, a0, a1, a2⟩ := (HU.out.below hH.out).at k hlt
      obtain ⟨g2, c2, e2, b0, b1, b2⟩ := (HV.out.below hH.out).at k hlt
      cases e1
      cases e2
      have hlt' : (k : Int) < (l.length : Int) := by omega
      generalize l[k] = x at *
      go_wp2_with fail
      go_quiet (fail)
      have HN := Lib.hid (hH.out.trans (Below.mono (show Below wr.heap.size wr (wr.drewN nq) from ⟨rfl, rfl, rfl, Nat.le_refl _, fun _ _ => rfl⟩) hH.out.size))
      clear hH a0 a1 a2 b0 b1 b2
      go_wp2
      go_roundw
      case rel => exact ⟨k + 1, by go_num, by omega, HN⟩
      case measure => simp [intOf]; omega
    · have hlt' : ¬ (k : Int) < (l.length : Int) := by omega
      go_wp2
      go_ret
      exact ⟨rfl, hH.out⟩
end Go.Proofs.Ytbmdhhafmieapaa
