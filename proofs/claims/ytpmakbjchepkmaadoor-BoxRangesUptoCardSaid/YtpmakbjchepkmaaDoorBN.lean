/- text.Number (as in text's own seat). -/
import Derived.Test.YtpmakbjchepkmaaDoorBT
namespace Go.Proofs.YtpmakbjchepkmaaDoor
open Go.RowKit

/-- A text as a number, letter by letter; z: does it begin with a 0? -/
def numGo (z : Bool) : List (Nat × Nat × Nat) → Nat → Nat × Nat × Nat
  | [], n => if 4294967295 < n then (0, 0, 6) else (n, 0, 0)
  | (p, r, _) :: t, n => if r < 48 ∨ 57 < r ∨ (0 < p ∧ z = true) then (0, p, 4) else numGo z t (min (n * 10 + (r - 48)) 4294967296)
def zeroB (s : ByteArray) : Bool := decide ((s.get! 0).toNat = 48)
def numF (s : ByteArray) : Nat × Nat × Nat := if s.size = 0 then (0, 0, 3) else numGo (zeroB s) (lets s 0) 0
def resN (x : Nat × Nat × Nat) : Value := .tuple #[.int .i64 x.1, .int .i64 x.2.1, .int .i64 x.2.2]
theorem ret_resN {x : Nat × Nat × Nat} {a b c : Nat} (h : (a, b, c) = x) : Ending.returned (.tuple #[.int .i64 a, .int .i64 b, .int .i64 c]) = .returned (resN x) := by subst h; rfl

theorem empty_iff (s : ByteArray) (h : s.size ≠ 0) : s.toList.isEmpty = false := by
  rw [Lib.toList_data]
  cases h1 : s.data.toList with
  | nil => exact absurd (by rw [Lib.size_eq, h1]; rfl) h
  | cons _ _ => rfl
theorem empty_nil (s : ByteArray) (h : s.size = 0) : s.toList.isEmpty = true := by
  rw [Lib.toList_data]
  have : s.data.toList = [] := List.eq_nil_of_length_eq_zero (by rw [← Lib.size_eq]; exact h)
  rw [this]; rfl

set_option maxHeartbeats 800000 in
set_option maxRecDepth 100000 in
theorem number_any (s : ByteArray) (w : World) (hs : s.size ≤ 9223372036854775807) :
    Calls Tryd.prog 34 #[.string s] w fun e w' => e = .returned (resN (numF s)) ∧ Below w.heap.size w w' := by
  unfold numF
  by_cases h0 : s.size = 0
  · rw [if_pos h0]
    have hne := empty_nil s h0
    go_enter Tryd.func34, Tryd.ntmps34
    go_wp2
    go_ret3
    exact ⟨rfl, Below.refl _ _⟩
  rw [if_neg h0]
  have hne := empty_iff s h0
  have h1 : 0 < s.size := by omega
  generalize hF : numGo (zeroB s) (lets s 0) 0 = F
  have HF := Lib.hid hF
  clear hF h0
  go_enter Tryd.func34, Tryd.ntmps34
  go_wp2
  go_loopw [5, 6, 7] (fun nv _i _r wr => ∃ (pos n : Nat), pos ≤ s.size ∧ nv = .int .i64 n ∧ n ≤ 4294967296 ∧ wr.heap[w.heap.size]? = some (.stringIter s pos) ∧ Below w.heap.size w wr ∧ numGo (zeroB s) (lets s pos) n = F) (fun _ _ _ wr => s.size - wr.iterPos w.heap.size)
  case atStart =>
    refine ⟨0, 0, Nat.zero_le _, rfl, by omega, ?_, (Below.refl _ w).alloc (Nat.le_refl _) _, HF.out⟩
    have := World.iter_heap w s 0
    simpa using this
  case round =>
    obtain ⟨pos, n, hle, rfl, hn, hit, hb, hgo⟩ := hrel
    by_cases hp : pos < s.size
    · obtain ⟨r, k, hd⟩ : ∃ r k, Utf8.decode s pos = (r, k) := ⟨_, _, rfl⟩
      have hwd := dec_le s pos hp
      have hd1 := decode_le s pos
      have hnx : ∀ ty, (Instr.next (.pointer (some ⟨w.heap.size, 0, none⟩)) true ty).run Tryd.prog wr = _ := fun ty => Lib.run_next_any_at wr w.heap.size s pos ty hit hp
      rw [lets_cons s pos hp] at hgo
      rw [hd] at hwd hd1 hnx hgo
      simp only at hwd hd1 hnx hgo
      have hit2 := Lib.iterAt_heap wr w.heap.size s pos (pos + k) hit
      have hsz : w.heap.size < wr.heap.size := (Array.getElem?_eq_some_iff.1 hit).1
      have hb2 := Lib.below_iterAt hb (k := w.heap.size) (by omega) s (pos + k)
      have hmu : s.size - (pos + k) < s.size - wr.iterPos w.heap.size := by simp only [World.iterPos, hit]; omega
      generalize hW : wr.iterAt w.heap.size s (pos + k) = W at *
      clear hW hit hb hsz hd
      have HM := Lib.hid hmu
      have HI := Lib.hid hit2
      clear hmu hit2
      unfold numGo at hgo
      have hz : zeroB s = decide (s[0].toNat = 48) := by unfold zeroB; rw [get_lt s 0 h1]
      by_cases ha : r < 48
      · rw [if_pos (Or.inl ha)] at hgo
        have HG := Lib.hid hgo
        clear hgo hz
        go_wp2
        go_ret3
        exact ⟨ret_resN HG.out, hb2⟩
      · by_cases hb : 57 < r
        · rw [if_pos (Or.inr (Or.inl hb))] at hgo
          have HG := Lib.hid hgo
          clear hgo hz
          go_wp2
          go_ret3
          exact ⟨ret_resN HG.out, hb2⟩
        · by_cases hc : 0 < pos
          · by_cases h48 : s[0].toNat = 48
            · rw [if_pos (Or.inr (Or.inr ⟨hc, by rw [hz]; simp [h48]⟩))] at hgo
              have hb48 : ((s[0].toNat : Int) == 48) = true := by rw [beq_iff_eq]; omega
              have HG := Lib.hid hgo
              clear hgo hz h48
              go_wp2
              go_ret3
              exact ⟨ret_resN HG.out, hb2⟩
            · have hb48 : ((s[0].toNat : Int) == 48) = false := by rw [beq_eq_false_iff_ne]; omega
              rw [if_neg (by rw [hz]; simp [h48]; omega)] at hgo
              have HG := Lib.hid hgo
              clear hgo hz h48
              go_wp2
              refine ⟨⟨pos + k, min (n * 10 + (r - 48)) 4294967296, hwd.2.2, ?_, Nat.min_le_right _ _, HI.out, hb2, HG.out⟩, ?_⟩
              · congr 1; omega
              · simp only [World.iterPos, HI.out]; exact HM.out
          · rw [if_neg (by omega)] at hgo
            have HG := Lib.hid hgo
            clear hgo hz
            go_wp2
            refine ⟨⟨pos + k, min (n * 10 + (r - 48)) 4294967296, hwd.2.2, ?_, Nat.min_le_right _ _, HI.out, hb2, HG.out⟩, ?_⟩
            · congr 1; omega
            · simp only [World.iterPos, HI.out]; exact HM.out
    · have hnx : ∀ ty, (Instr.next (.pointer (some ⟨w.heap.size, 0, none⟩)) true ty).run Tryd.prog wr = _ := fun ty => Lib.run_next_end_at wr w.heap.size s pos ty hit hp
      rw [lets_nil s pos hp] at hgo
      unfold numGo at hgo
      by_cases hm : 4294967295 < n
      · rw [if_pos hm] at hgo
        have HG := Lib.hid hgo
        clear hgo
        go_wp2
        go_ret3
        exact ⟨ret_resN HG.out, hb⟩
      · rw [if_neg hm] at hgo
        have HG := Lib.hid hgo
        clear hgo
        go_wp2
        go_ret3
        exact ⟨ret_resN HG.out, hb⟩

end Go.Proofs.YtpmakbjchepkmaaDoor
