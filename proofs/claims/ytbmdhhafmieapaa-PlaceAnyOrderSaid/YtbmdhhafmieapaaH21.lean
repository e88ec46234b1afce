/- Place: live; PlaceHashes. -/
import Derived.Test.YtbmdhhafmieapaaH20
namespace Go.Proofs.Ytbmdhhafmieapaa
open Go Go.RowKit Go.Maps

theorem live_hash : hashN [] 2166136261 = 2166136261 ∧ hashN [97] 2166136261 = 3826002220 := by decide +kernel
set_option maxRecDepth 100000 in
set_option maxHeartbeats 3200000 in
theorem live_any (w : World) : Calls Try.prog 10 #[] w fun e w' => e = .returned (.bool true) ∧ Below w.heap.size w w' := by
  have HN := Lib.hid (new_any 3 w (by decide))
  go_enter Try.func10, Try.ntmps10
  go_wp2_with fail
  refine HN.out.mono ?_
  rintro e w1 ⟨rfl, b1, hz1, hm1⟩
  have hE : learnE [] 3 ([117], 2, 5) ⟨#[117]⟩ = 0 := by decide +kernel
  have HL := Lib.hid (learn_any (w.heap.size + 1) w.heap.size w.heap.size 3 0 [] ⟨#[117]⟩ 2 5 w1 (by decide) (by decide) (by decide) (by decide) hm1 (fun x hx => by cases hx) (Nat.le_refl _) (by decide))
  have HB1 := Lib.hid b1
  clear b1 hm1 HN hz1
  go_wp2_with fail
  refine HL.out.mono ?_
  rintro e w2 ⟨rfl, ⟨hb2, _⟩, _, hm2⟩
  rw [show learnE [] 3 ((ByteArray.mk #[117]).data.toList, 2, 5) ⟨#[117]⟩ = 0 from hE] at hm2 ⊢
  have hm2 := hm2 rfl
  rw [putK_ins (l := []) List.Pairwise.nil] at hm2
  have hins : ins ((ByteArray.mk #[117]).data.toList, 2, 5) [] = [([117], 2, 5)] := rfl
  rw [hins] at hm2
  have HB2 := Lib.hid (HB1.out.trans hb2)
  have HM2 := Lib.hid hm2
  clear hm2 hb2 HL HB1 hE hins
  have hS : seatOf [([117], 2, 5)] ⟨#[117]⟩ 3 = ([117], 2, 5) := by decide +kernel
  have hs := seat_any (w.heap.size + 1) w.heap.size 3 1 [([117], 2, 5)] ⟨#[117]⟩ w2 (by decide) (by decide) HM2.out (fun x hx => by simp at hx; subst hx; decide)
  rw [hS] at hs
  have HS := Lib.hid hs
  clear hS hs
  go_wp2_with fail
  refine HS.out.mono ?_
  rintro e w3 ⟨rfl, b3⟩
  have hm3 := HM2.out.below b3 HM2.out.lt
  have hb3 := HB2.out.trans (b3.mono HB2.out.size)
  have hal : Below w3.heap.size w3 (w3.alloc (.cells #[.string ⟨#[117]⟩, .int .i64 2, .int .i64 5] 35)) := (Below.refl _ w3).alloc (Nat.le_refl _) _
  obtain ⟨k0, k1, k2⟩ := (Three.new w3 35 (.string ⟨#[117]⟩) (.int .i64 2) (.int .i64 5)).1
  have HM4 := Lib.hid (hm3.below hal hm3.lt)
  have HB4 := Lib.hid (hb3.trans (hal.mono hb3.size))
  unfold seatV
  clear hm3 hb3 hal b3 HS HM2 HB2
  have HH := Lib.hid (fun W => hash_any ⟨#[]⟩ W (by decide))
  have HA := Lib.hid (fun W => hash_any ⟨#[97]⟩ W (by decide))
  have HLH := Lib.hid live_hash
  obtain ⟨w4, hw4⟩ : ∃ w4, w3.alloc (.cells #[.string ⟨#[117]⟩, .int .i64 2, .int .i64 5] 35) = w4 := ⟨_, rfl⟩
  rw [hw4] at HM4 HB4 k0 k1 k2
  go_wp2_with fail
  refine (HH.out _).mono ?_
  rintro e w' ⟨rfl, rfl⟩
  have e0 : ((hashN (ByteArray.mk #[]).data.toList 2166136261 : Nat) : Int) = 2166136261 := by rw [show hashN (ByteArray.mk #[]).data.toList 2166136261 = 2166136261 from HLH.out.1]; rfl
  rw [e0]
  clear HH e0
  go_wp2_with fail
  refine (HA.out _).mono ?_
  rintro e w' ⟨rfl, rfl⟩
  have e1 : ((hashN (ByteArray.mk #[97]).data.toList 2166136261 : Nat) : Int) = 3826002220 := by rw [show hashN (ByteArray.mk #[97]).data.toList 2166136261 = 3826002220 from HLH.out.2]; rfl
  rw [e1]
  clear HA HLH e1
  have HSE := Lib.hid (seats_any _ _ _ _ _ _ HM4.out (List.pairwise_singleton _ _) (by decide))
  clear HM4
  go_wp2_with fail
  refine HSE.out.mono ?_
  rintro e w5 ⟨v, ss, rfl, rfl, h1, h2⟩
  obtain ⟨va, vc, hv⟩ := (h1.full).len
  subst hv
  have FIN := Lib.hid (HB4.out.trans (h2.mono HB4.out.size))
  clear h1 h2 HSE HB4
  go_wp2
  go_ret
  exact ⟨rfl, FIN.out⟩

set_option maxHeartbeats 1600000 in
theorem walk_hashes (u : ByteArray) (n : Int) (w : World) (hu : u.size ≤ 9223372036854775807) : Calls Try.prog 3 #[.string u, .int .i64 n] w fun e w' => e = .returned (.bool true) ∧ Below w.heap.size w w' := by
  have H1 := Lib.hid (fun W => home_any u n W hu)
  have H2 := Lib.hid (fun W => refHome u n W hu)
  have H3 := Lib.hid (fun W => hash_any u W hu)
  have H4 := Lib.hid (fun W => refHash u W hu)
  generalize (homeN u n).1 = x1 at *
  generalize (homeN u n).2 = x2 at *
  generalize (hashN u.data.toList 2166136261 : Int) = x3 at *
  go_enter Try.func3, Try.ntmps3
  go_wp2_with fail
  refine (H1.out _).mono ?_
  rintro e w' ⟨rfl, rfl⟩
  go_wp2_with fail
  refine (H2.out _).mono ?_
  rintro e w' ⟨rfl, rfl⟩
  go_wp2_with fail
  refine (live_any _).mono ?_
  rintro e w1 ⟨rfl, b1⟩
  have FIN := Lib.hid b1
  clear b1 H1 H2
  go_wp2_with fail
  refine (H3.out _).mono ?_
  rintro e w' ⟨rfl, rfl⟩
  go_wp2_with fail
  refine (H4.out _).mono ?_
  rintro e w' ⟨rfl, rfl⟩
  go_wp2
  go_ret
  exact ⟨rfl, FIN.out⟩
end Go.Proofs.Ytbmdhhafmieapaa
