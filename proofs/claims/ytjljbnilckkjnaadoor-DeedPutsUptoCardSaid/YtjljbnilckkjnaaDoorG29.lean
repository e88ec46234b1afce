/- Deed: live. -/
import Derived.Test.YtjljbnilckkjnaaDoorG28
namespace Go.Proofs.YtjljbnilckkjnaaDoor
open Go Go.RowKit

def liveD : Di := ⟨1, ⟨#[117]⟩, ⟨#[]⟩, ⟨#[]⟩, 0, 0, 0, 0, 0, []⟩
def liveL : List UInt8 := [1, 1, 1, 117, 0, 0, 0, 0, 0, 0, 0, 0, 0, 0, 0, 0, 0, 0, 0]
def liveB : Bx := ⟨⟨#[73, 78, 66, 79, 88]⟩, 1, 1, [], .slice none 0 0⟩
theorem live_put : putAllE [liveD] = 0 := by kernel_rfl
theorem live_putL : dsL ([liveD].map Di.nat) = liveL := by kernel_rfl
theorem live_take : takeAllE liveL = 0 := by kernel_rfl
theorem live_takeE : takeE liveL = .ok [liveD.nat] := by kernel_rfl
theorem live_user : ckUser ⟨⟨#[117]⟩, 1, [liveB].map Bx.dat⟩ = 0 := by kernel_rfl
theorem live_userL : (userL ⟨⟨#[117]⟩, 1, [liveB].map Bx.dat⟩).length = 22 := by kernel_rfl
theorem live_fold : foldF ⟨#[105, 110, 66, 111, 120]⟩ = ⟨#[73, 78, 66, 79, 88]⟩ := by kernel_rfl
theorem byz_nil (w : World) : Byz w (.slice none 0 0) [] := ⟨⟨none, 0, rfl⟩, fun h => absurd rfl h⟩
theorem live_deeds (w : World) : Deeds (w.alloc (.cells #[.int .i64 1, .string ⟨#[117]⟩, .string ⟨#[]⟩, .string ⟨#[]⟩, .int .i64 0, .int .i64 0, .int .u8 0, .int .i64 0, .int .i64 0, .slice none 0 0] 28)) (.slice (some ⟨w.heap.size, 0, none⟩) 1 1) [(liveD, .slice none 0 0)] := by
  refine ⟨⟨_, 1, rfl⟩, fun _ => ⟨w.heap.size, 0, 1, rfl, by simp, fun i p hi j u hu => ?_⟩, fun p hp => ?_⟩
  · match i, hi with
    | 0, hi =>
      simp only [List.getElem?_cons_zero, Option.some.injEq] at hi
      subst hi
      rw [show (0 + 0 * 10 + j) = j by omega, cell_of_row _ _ _ _ _ _ (heap_alloc_new w _)]
      simpa [diS, liveD] using hu
  · rw [List.mem_singleton.1 hp]
    exact ⟨byz_nil _, by show ([] : List UInt8).length ≤ _; simp, by show (1 : Nat) ≤ _; omega⟩
theorem live_boxes (w : World) : Boxes (w.alloc (.cells #[.string ⟨#[73, 78, 66, 79, 88]⟩, .int .i64 1, .int .i64 1, .slice none 0 0] 52)) (.slice (some ⟨w.heap.size, 0, none⟩) 1 1) [liveB] := by
  refine ⟨⟨_, 1, rfl⟩, fun _ => ⟨w.heap.size, 0, 1, rfl, by simp, fun i p hi => ?_⟩, fun p hp => ?_⟩
  · match i, hi with
    | 0, hi =>
      simp only [List.getElem?_cons_zero, Option.some.injEq] at hi
      subst hi
      refine ⟨?_, ?_, ?_, ?_⟩ <;> (rw [cell_of_row _ _ _ _ _ _ (heap_alloc_new w _)]; rfl)
  · rw [List.mem_singleton.1 hp]
    exact ⟨Lets.nil _ none 0, by show ([] : List LV).length ≤ _; simp⟩

set_option maxHeartbeats 4000000 in
set_option maxRecDepth 100000 in
theorem live_any (w : World) (hT : Tabs w) : Calls Tryd.prog 11 #[] w fun e w' => e = .returned (.bool true) ∧ Below w.heap.size w w' := by
  obtain ⟨w1, hw1⟩ : ∃ w1, w1 = w.alloc (.cells #[.int .i64 1, .string ⟨#[117]⟩, .string ⟨#[]⟩, .string ⟨#[]⟩, .int .i64 0, .int .i64 0, .int .u8 0, .int .i64 0, .int .i64 0, .slice none 0 0] 28) := ⟨_, rfl⟩
  have hb1 : Below w.heap.size w w1 := by rw [hw1]; exact (Below.refl _ w).alloc (Nat.le_refl _) _
  have hds : Deeds w1 (.slice (some ⟨w.heap.size, 0, none⟩) 1 1) [(liveD, .slice none 0 0)] := by rw [hw1]; exact live_deeds w
  have HC1 := Lib.hid (putAll_any _ _ w1 hds (hT.below hb1 (Nat.le_refl _)))
  have HW1 := Lib.hid (show w.alloc (.cells #[.int .i64 1, .string ⟨#[117]⟩, .string ⟨#[]⟩, .string ⟨#[]⟩, .int .i64 0, .int .i64 0, .int .u8 0, .int .i64 0, .int .i64 0, .slice none 0 0] 28) = w1 from hw1.symm)
  have HT := Lib.hid hT
  have HB1 := Lib.hid hb1
  clear hw1 hb1 hds hT
  go_enter Tryd.func11, Tryd.ntmps11
  go_wp2_with (first | rw [HW1.out])
  refine HC1.out.mono ?_
  rintro e w2 ⟨hb, ⟨h1, _⟩ | ⟨_, v2, rfl, hr2⟩⟩
  · exact absurd live_put h1
  rw [show ([(liveD, Value.slice none 0 0)].map (·.1)) = [liveD] from rfl, live_putL] at hr2
  have HB2 := Lib.hid (HB1.out.trans (hb.mono HB1.out.size))
  obtain ⟨va, vc, rfl, hvc⟩ := hr2.1.shape
  have hbz := hr2.1.z
  have HR2 := Lib.hid hbz
  have HC2 := Lib.hid (takeAll_any w2 _ liveL hbz (by decide) (HT.out.below HB2.out (Nat.le_refl _)))
  have hvc' : 19 ≤ vc := hvc
  rw [show liveL.length = 19 from rfl] at HC2 HR2 ⊢
  clear hb hr2 hbz HC1 HW1 HB1 hvc
  go_wp2_with fail
  refine HC2.out.mono ?_
  rintro e w3 ⟨hb, ⟨h1, _⟩ | ⟨_, ps, lv, ht, hds, rfl⟩⟩
  · exact absurd live_take h1
  rw [live_takeE] at ht
  injection ht with ht
  have hB2 := hb
  have HB3 := Lib.hid (HB2.out.trans (hb.mono HB2.out.size))
  have hpl : ps.length = 1 := by have := congrArg List.length ht; simpa using this.symm
  match ps, hpl, ht, hds with
  | [p], _, ht, hds =>
  have hp1 : p.1 = liveD.nat := by simpa using ht.symm
  have ho := hds.own
  rcases ho.2 with ⟨_, h0⟩ | ⟨g, cap, cur, rfl, _, hg, _⟩
  · cases h0
  have hcg : w3.cell? ⟨g, 1, none⟩ = some (.string ⟨#[117]⟩) := by
    have := World.ownsRow.cells ho (g := g) rfl 1 (.string ⟨#[117]⟩) (by simp [cellsDd, ddC, hp1]; rfl)
    rwa [addr_plus, Nat.zero_add] at this
  have hglt := (Array.getElem?_eq_some_iff.1 hg).1
  have HR3 := Lib.hid (HR2.out.below hb)
  have s3 := hb.size
  obtain ⟨w4, hw4⟩ : ∃ w4, w4 = w3.alloc (.cells #[.string ⟨#[73, 78, 66, 79, 88]⟩, .int .i64 1, .int .i64 1, .slice none 0 0] 52) := ⟨_, rfl⟩
  have hb4 : Below w3.heap.size w3 w4 := by rw [hw4]; exact (Below.refl _ w3).alloc (Nat.le_refl _) _
  have hbx : Boxes w4 (.slice (some ⟨w3.heap.size, 0, none⟩) 1 1) [liveB] := by rw [hw4]; exact live_boxes w3
  have hb5 : Below w4.heap.size w4 (w4.alloc (.cells #[.string ⟨#[117]⟩, .int .i64 1, .slice (some ⟨w3.heap.size, 0, none⟩) 1 1] 43)) := (Below.refl _ w4).alloc (Nat.le_refl _) _
  obtain ⟨w5, hw5⟩ : ∃ w5, w5 = w4.alloc (.cells #[.string ⟨#[117]⟩, .int .i64 1, .slice (some ⟨w3.heap.size, 0, none⟩) 1 1] 43) := ⟨_, rfl⟩
  rw [← hw5] at hb5
  have hb35 : Below w3.heap.size w3 w5 := hb4.trans (hb5.mono hb4.size)
  have HB5 := Lib.hid (HB3.out.trans (hb35.mono HB3.out.size))
  have row5 : w5.heap[w4.heap.size]? = some (.cells #[.string ⟨#[117]⟩, .int .i64 1, .slice (some ⟨w3.heap.size, 0, none⟩) 1 1] 43 (0, 0)) := by rw [hw5]; exact heap_alloc_new w4 _
  have c50 : w5.cell? ⟨w4.heap.size, 0, none⟩ = some (.string ⟨#[117]⟩) := cell_of_row _ _ _ _ _ _ row5
  have c51 : w5.cell? ⟨w4.heap.size, 1, none⟩ = some (.int .i64 1) := cell_of_row _ _ _ _ _ _ row5
  have c52 : w5.cell? ⟨w4.heap.size, 2, none⟩ = some (.slice (some ⟨w3.heap.size, 0, none⟩) 1 1) := cell_of_row _ _ _ _ _ _ row5
  have HC3 := Lib.hid (putUser_any ⟨#[117]⟩ 1 (.slice (some ⟨w3.heap.size, 0, none⟩) 1 1) [liveB] w5 (hbx.below hb5) (by decide) (by decide) (HT.out.below HB5.out (Nat.le_refl _)))
  have HW4 := Lib.hid (show w3.alloc (.cells #[.string ⟨#[73, 78, 66, 79, 88]⟩, .int .i64 1, .int .i64 1, .slice none 0 0] 52) = w4 from hw4.symm)
  have HW5 := Lib.hid (show w4.alloc (.cells #[.string ⟨#[117]⟩, .int .i64 1, .slice (some ⟨w3.heap.size, 0, none⟩) 1 1] 43) = w5 from hw5.symm)
  have HR5 := Lib.hid (HR3.out.below hb35)
  have hcg5 := (hb35.cell (p := ⟨g, 1, none⟩) hglt).trans hcg
  have hgl5 : g < w5.heap.size := Nat.lt_of_lt_of_le hglt hb35.size
  have HCG := Lib.hid hcg5
  clear hb hB2 ht hds hp1 ho hg hcg hglt hw4 hb4 hbx hb5 hw5 hb35 row5 HC2 hcg5 s3
  go_wp2_with (first | rw [HW5.out] | rw [HW4.out])
  refine HC3.out.mono ?_
  rintro e w6 ⟨hb, ⟨h1, _⟩ | ⟨_, v6, rfl, hr6⟩⟩
  · exact absurd live_user h1
  obtain ⟨ua, uc, rfl, _⟩ := hr6.1.shape
  have HB6 := Lib.hid (HB5.out.trans (hb.mono HB5.out.size))
  have hcg6 := (hb.cell (p := ⟨g, 1, none⟩) hgl5).trans HCG.out
  have hcv := run_byz_string w6 _ _ 5 Tryd.underlying26 Tryd.underlying5 Tryd.underlying9 (byz_to (n := 6) (show Byz w6 (.slice va liveL.length vc) liveL from HR5.out.below hb) (by decide))
  rw [show (ByteArray.mk (List.take 6 liveL).toArray) = ⟨#[1, 1, 1, 117, 0, 0]⟩ from rfl] at hcv
  rw [live_userL]
  have HF := Lib.hid (fold_any ⟨#[105, 110, 66, 111, 120]⟩ w6)
  rw [live_fold] at HF

  clear hb hr6 HC3 c50 c51 c52
  go_wp2_with fail
  refine HF.out.mono ?_
  rintro e w7 ⟨rfl, hb7⟩
  have HB7 := Lib.hid (HB6.out.trans (hb7.mono HB6.out.size))
  clear hb7 HF
  go_wp2
  go_ret
  exact ⟨rfl, HB7.out⟩
end Go.Proofs.YtjljbnilckkjnaaDoor
