/- Disk: DiskTorn. -/
import Derived.Test.YtohmofhpbmhhjaaD15
namespace Go.Proofs.Ytohmofhpbmhhjaa
open Go Go.RowKit

theorem torn_facts (was is : List UInt8) (hw : was.length ≤ 64) (hi : is.length ≤ 64) (keep : List Bool) (torn at' : Int) :
    ∃ s1 s2 s3 s4 : St, (St.new 1).wrote 0 was = (s1, 0) ∧ s1.flushed = (s2, 0) ∧ s2.waits.length = 0 ∧ s2.wrote 0 is = (s3, 0) ∧ s3.age = 0 ∧ s3.down = false ∧ s3.sure.length = 1 ∧ s3.sure.getD 0 [] = pad was ∧ s3.reads 0 = pad is ∧
      s3.crashed keep torn at' = s4 ∧ s4.down = false ∧ s4.sure.length = 1 ∧ s4.reads 0 = (pad is).take (outl keep torn at' 0) ++ (pad was).drop (outl keep torn at' 0) := by
  have hg1 : (St.new 1).go = (St.new 1, false) := rfl
  have e1 : (St.new 1).wrote 0 was = ({ St.new 1 with waits := [(0, pad was)] }, 0) := by
    unfold St.wrote
    rw [if_neg (by simp [St.new]), if_neg (by simp [St.new]), if_neg (by omega), if_neg (by rw [hg1]; simp)]
    rfl
  have e2 : ({ St.new 1 with waits := [(0, pad was)] } : St).flushed = ({ St.new 1 with sure := [pad was] }, 0) := rfl
  have e3 : ({ St.new 1 with sure := [pad was] } : St).wrote 0 is = ({ St.new 1 with sure := [pad was], waits := [(0, pad is)] }, 0) := by
    unfold St.wrote
    rw [if_neg (by simp [St.new]), if_neg (by simp), if_neg (by omega), if_neg (by rw [show ({ St.new 1 with sure := [pad was] } : St).go = ({ St.new 1 with sure := [pad was] }, false) from rfl]; simp)]
    rfl
  refine ⟨_, _, _, _, e1, e2, rfl, e3, rfl, rfl, rfl, rfl, rfl, rfl, rfl, rfl, ?_⟩
  rfl
theorem told_byt {p : List UInt8} {w' : World} {b : Nat} (hp : p.length = 64) (h : w'.heap[b]? = some (.cells (pgC p).toArray 61 (0, 0))) : Byt w' (.slice (some ⟨b, 0, none⟩) 64 64) p := by
  refine ⟨some ⟨b, 0, none⟩, 64, by rw [hp], by omega, (fun h => by cases h), fun ad had => ?_⟩
  injection had with had
  subst had
  refine ⟨b, 0, rfl, (Array.getElem?_eq_some_iff.1 h).1, fun j hj => ?_⟩
  rw [Nat.zero_add, cell_of_row _ _ _ _ _ _ h]
  simp [pgC, hj]
theorem made_list (m : Nat) : (madeCells (Value.int .u8 0).cells m).toList = (List.replicate m (0 : UInt8)).map fun b => Value.int .u8 (b.toNat : Int) := by
  apply List.ext_getElem
  · simp [madeCells]
  · intro i h1 h2
    simp [madeCells, Value.cells, Nat.mod_one]
set_option maxHeartbeats 2000000 in
theorem torn_long (u v : Value) (p q : List UInt8) (kv t a : Value) (w : World) (hu : Byt w u p) (hv : Byt w v q) (hl : 64 < p.length ∨ 64 < q.length) :
    Calls Try.prog 5 #[u, v, .agg #[kv, t, a]] w fun e w' => e = .returned (.bool true) ∧ Below w.heap.size w w' := by
  obtain ⟨ua, uc, rfl, _⟩ := hu.shape
  obtain ⟨va, vc, rfl, _⟩ := hv.shape
  clear hu hv
  have hb1 : Below w.heap.size w (w.alloc (.cells #[kv, t, a] 32)) := (Below.refl _ w).alloc (Nat.le_refl _) _
  obtain ⟨wb, hwb⟩ : ∃ wb, w.alloc (.cells #[kv, t, a] 32) = wb := ⟨_, rfl⟩
  rw [hwb] at hb1
  have hnew : Calls Try.prog 10 #[.int .i64 1] wb _ := has_new 1 w _ hb1 (by decide) (by decide)
  have HN := Lib.hid hnew
  clear hnew hb1
  by_cases hp : 64 < (p.length : Int)
  all_goals
    try have hq : 64 < (q.length : Int) := by omega
    clear hl
    go_enter Try.func5, Try.ntmps5
    go_wp2_with fail
    refine HN.out.mono ?_
    rintro e w1 ⟨rfl, h1⟩
    clear hwb
    generalize wb.heap.size + 1 = D at *
    have H1 := Lib.hid h1
    have HL := Lib.hid (live_any w1)
    clear h1
    go_wp2_with fail
    refine HL.out.mono ?_
    rintro e w2 ⟨rfl, b2⟩
    have h2 := H1.out.below b2
    obtain ⟨i0, hi, hz0, hz1, hz2⟩ := info_parts (show (Try.prog.info? 5).map (fun i => (i.zero, i.size, i.bytes)) = some (some (.int .u8 0), 1, 1) by kernel_rfl)
    have hmk := run_make (P := Try.prog) w2 29 5 i0 _ Try.underlying29 hi hz0 .i64 .i64 65 65 (by omega) (Int.le_refl _) (by rw [hz2]; decide) (by omega)
    rw [hz1, show Int.toNat 65 * 1 = 65 from rfl, show Int.toNat 65 = 65 from rfl] at hmk
    have hr0 := Row.made w2 5 (List.replicate 65 0) (madeCells (Value.int .u8 0).cells 65) (made_list 65) (Nat.le_refl _) (by decide)
    have hw := has_write_new h2 (w := w2.alloc (.cells (madeCells (Value.int .u8 0).cells 65) 5)) ((Below.refl _ _).alloc (Nat.le_refl _) _) 0 (.slice (some ⟨w2.heap.size, 0, none⟩) 65 65) _ hr0.1 (fun g hg => by simp [Value.ownBlock] at hg; omega) (by simp [St.new])
    rw [show (St.new 1).wrote 0 (List.replicate 65 0) = (St.new 1, 6) from rfl] at hw
    have HW := Lib.hid hw
    clear hw hr0 b2 HL hi hz0 hz1 hz2
    generalize madeCells (Value.int .u8 0).cells 65 = MC at *
    clear h2
    go_wp2_with fail
    refine HW.out.mono ?_
    rintro e w3 ⟨rfl, h3⟩
    have HB := Lib.hid h3.bel
    clear h3 hmk HW H1 HN
    go_wp2
    go_ret
    exact ⟨rfl, HB.out⟩
end Go.Proofs.Ytohmofhpbmhhjaa
