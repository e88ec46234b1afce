/- Deed: names: RightUser, Fold, RightBox; the code's and the document's. -/
import Derived.Test.YtjljbnilckkjnaaDoorTQ12
import Derived.Deep.QuietTactic
import Derived.BigQuiet
import Derived.WalkSmall
namespace Go.Proofs.YtjljbnilckkjnaaDoor
open Go.RowKit

def goodR (r : Nat) : Bool := decide ((97 ≤ r ∧ r ≤ 122) ∨ (48 ≤ r ∧ r ≤ 57) ∨ r = 46 ∨ r = 45 ∨ r = 95)
def goodB (c : UInt8) : Bool := goodR c.toNat
/-- Which names of users are right. -/
def rightU (s : ByteArray) : Bool := s.data.toList.all goodB && (decide (1 ≤ s.size) && decide (s.size ≤ 24))
theorem below_drewN1 {B : Nat} {w w' : World} (h : Below B w w') (n : Nat) : Below B w (w'.drewN n) := h.trans ⟨rfl, rfl, rfl, Nat.le_refl _, fun _ _ => rfl⟩
theorem all_at1 (s : ByteArray) (i : Nat) (h : i < s.size) (f : UInt8 → Bool) : (s.data.toList.drop i).all f = (f s[i] && (s.data.toList.drop (i + 1)).all f) := by
  rw [List.drop_eq_getElem_cons (by rw [← Lib.size_eq]; exact h), List.all_cons]
  rfl
theorem all_end1 (s : ByteArray) (i : Nat) (h : ¬ i < s.size) (f : UInt8 → Bool) : (s.data.toList.drop i).all f = true := by
  rw [List.drop_eq_nil_of_le (by rw [← Lib.size_eq]; omega)]; rfl
/-- A letter at a place: is it good? -/
theorem good_step (s : ByteArray) (pos r k : Nat) (hp : pos < s.size) (hd : Utf8.decode s pos = (r, k)) :
    (goodR r = true → k = 1 ∧ (s.data.toList.drop pos).all goodB = (s.data.toList.drop (pos + 1)).all goodB) ∧ (goodR r = false → (s.data.toList.drop pos).all goodB = false) := by
  have hl := lead_byte s pos r k hp hd
  have hg : s.get! pos = s[pos] := get_lt s pos hp
  rw [all_at1 s pos hp, ← hg]
  refine ⟨fun h => ?_, fun h => ?_⟩
  · have hr : r < 128 := by unfold goodR at h; have := of_decide_eq_true h; omega
    obtain ⟨h1, h2⟩ := hl.1 hr
    refine ⟨h2, ?_⟩
    unfold goodB
    rw [h1, h, Bool.true_and]
  · have e : goodB (s.get! pos) = false := by
      unfold goodB
      by_cases hr : r < 128
      · rw [(hl.1 hr).1]; exact h
      · have := hl.2 (by omega)
        unfold goodR
        exact decide_eq_false (by omega)
    rw [e, Bool.false_and]

set_option maxHeartbeats 4000000 in
set_option maxRecDepth 100000 in
theorem rightUser_any (s : ByteArray) (w : World) (hs : s.size ≤ 9223372036854775807) :
    Calls Tryd.prog 12 #[.string s] w fun e w' => e = .returned (.bool (rightU s)) ∧ Below w.heap.size w w' := by
  by_cases h0 : s.size = 0
  · have hR : rightU s = false := by unfold rightU; rw [h0]; simp
    have HR := Lib.hid hR
    have he := empty_nil s h0
    clear h0 hR
    go_enter Tryd.func12, Tryd.ntmps12
    go_wp2
    go_ret
    exact ⟨ret_bool HR.out.symm, Below.refl _ _⟩
  · have he := empty_iff s h0
    by_cases h24 : 24 < s.size
    · have hR : rightU s = false := by unfold rightU; rw [decide_eq_false (show ¬ s.size ≤ 24 by omega)]; simp
      have HR := Lib.hid hR
      clear h0 hR
      go_enter Tryd.func12, Tryd.ntmps12
      go_wp2
      go_ret
      exact ⟨ret_bool HR.out.symm, Below.refl _ _⟩
    · have hR : rightU s = s.data.toList.all goodB := by unfold rightU; rw [decide_eq_true (show s.size ≤ 24 by omega), decide_eq_true (show 1 ≤ s.size by omega)]; simp
      rw [hR]
      generalize hF : s.data.toList.all goodB = F
      have HF := Lib.hid hF
      clear hF hR
      go_enter Tryd.func12, Tryd.ntmps12
      go_wp2
      go_loopw [4] (fun _r wr => ∃ pos : Nat, pos ≤ s.size ∧ wr.heap[w.heap.size]? = some (.stringIter s pos) ∧ Below w.heap.size w wr ∧ (s.data.toList.drop pos).all goodB = F) (fun _ wr => s.size - wr.iterPos w.heap.size)
      case atStart =>
        refine ⟨0, Nat.zero_le _, ?_, (Below.refl _ w).alloc (Nat.le_refl _) _, by rw [List.drop_zero]; exact HF.out⟩
        have := World.iter_heap w s 0
        simpa using this
      case round =>
        obtain ⟨pos, hle, hit, hb, hgo⟩ := hrel
        have hsz : w.heap.size < wr.heap.size := (Array.getElem?_eq_some_iff.1 hit).1
        by_cases hp : pos < s.size
        · obtain ⟨r, k, hd⟩ : ∃ r k, Utf8.decode s pos = (r, k) := ⟨_, _, rfl⟩
          have hwd := dec_le s pos hp
          have hd1 := decode_le s pos
          have hnx : ∀ ty, (Instr.next (.pointer (some ⟨w.heap.size, 0, none⟩)) true ty).run Tryd.prog wr = _ := fun ty => Lib.run_next_any_at wr w.heap.size s pos ty hit hp
          rw [hd] at hwd hd1 hnx
          simp only at hwd hd1 hnx
          obtain ⟨hg1, hg2⟩ := good_step s pos r k hp hd
          have hit2 := Lib.iterAt_heap wr w.heap.size s pos (pos + k) hit
          have hb2 := Lib.below_iterAt hb (k := w.heap.size) (by omega) s (pos + k)
          have hmu : s.size - (pos + k) < s.size - wr.iterPos w.heap.size := by simp only [World.iterPos, hit]; omega
          generalize hW : wr.iterAt w.heap.size s (pos + k) = W at *
          clear hW hit hb hsz hd
          have HM := Lib.hid hmu
          have HI := Lib.hid hit2
          clear hmu hit2
          cases hq : goodR r with
          | false =>
            have hno : ¬ ((97 ≤ r ∧ r ≤ 122) ∨ (48 ≤ r ∧ r ≤ 57) ∨ r = 46 ∨ r = 45 ∨ r = 95) := of_decide_eq_false hq
            have HG : Hid (F = false) := Lib.hid (hgo.symm.trans (hg2 hq))
            have b46 : ((r : Int) == 46) = false := by rw [beq_eq_false_iff_ne]; omega
            have b45 : ((r : Int) == 45) = false := by rw [beq_eq_false_iff_ne]; omega
            have b95 : ((r : Int) == 95) = false := by rw [beq_eq_false_iff_ne]; omega
            have hsp : r < 48 ∨ (57 < r ∧ r < 97) ∨ 122 < r := by omega
            clear hg1 hg2 hgo hq hno
            rcases hsp with h | ⟨h, h'⟩ | h
            all_goals
              go_wp2
              go_ret
              exact ⟨ret_bool HG.out.symm, hb2⟩
          | true =>
            obtain ⟨rfl, hall⟩ := hg1 hq
            have hyes : (97 ≤ r ∧ r ≤ 122) ∨ (48 ≤ r ∧ r ≤ 57) ∨ r = 46 ∨ r = 45 ∨ r = 95 := of_decide_eq_true hq
            have HG := Lib.hid (hall.symm.trans hgo)
            clear hg1 hg2 hgo hq hall
            rcases hyes with ⟨h, h'⟩ | ⟨h, h'⟩ | h | h | h
            · go_wp2
              go_roundw
              case rel => exact ⟨pos + 1, hwd.2.2, HI.out, hb2, HG.out⟩
              case measure => simp only [World.iterPos, HI.out]; exact HM.out
            · go_wp2
              go_roundw
              case rel => exact ⟨pos + 1, hwd.2.2, HI.out, hb2, HG.out⟩
              case measure => simp only [World.iterPos, HI.out]; exact HM.out
            · subst h
              go_wp2
              go_roundw
              case rel => exact ⟨pos + 1, hwd.2.2, HI.out, hb2, HG.out⟩
              case measure => simp only [World.iterPos, HI.out]; exact HM.out
            · subst h
              go_wp2
              go_roundw
              case rel => exact ⟨pos + 1, hwd.2.2, HI.out, hb2, HG.out⟩
              case measure => simp only [World.iterPos, HI.out]; exact HM.out
            · subst h
              go_wp2
              go_roundw
              case rel => exact ⟨pos + 1, hwd.2.2, HI.out, hb2, HG.out⟩
              case measure => simp only [World.iterPos, HI.out]; exact HM.out
        · have hnx : ∀ ty, (Instr.next (.pointer (some ⟨w.heap.size, 0, none⟩)) true ty).run Tryd.prog wr = _ := fun ty => Lib.run_next_end_at wr w.heap.size s pos ty hit hp
          have HG : Hid (F = true) := Lib.hid (hgo.symm.trans (all_end1 s pos hp goodB))
          clear hgo hit
          go_wp2
          go_ret
          exact ⟨ret_bool HG.out.symm, hb⟩
end Go.Proofs.YtjljbnilckkjnaaDoor
