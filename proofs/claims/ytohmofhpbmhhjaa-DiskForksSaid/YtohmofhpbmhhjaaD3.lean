/- Disk: New, Sure. -/
import Derived.Test.YtohmofhpbmhhjaaD2
import Derived.Test.YtohmofhpbmhhjaaD1b
import Derived.Outline
namespace Go.Proofs.Ytohmofhpbmhhjaa
open Go Go.RowKit

theorem infoP : (Try.prog.info? 61).map (fun i => (i.zero, i.size, i.bytes)) = some (some (.agg (Array.replicate 64 (.int .u8 0))), 64, 64) := by kernel_rfl
theorem infoW : (Try.prog.info? 63).map (fun i => (i.zero, i.size, i.bytes)) = some (some (.agg (#[.int .i64 0] ++ Array.replicate 64 (.int .u8 0))), 65, 72) := by kernel_rfl
theorem zeroP_info : (Try.prog.info? 61).map (fun i => (i.zero, i.size)) = some (some (.agg (Array.replicate 64 (.int .u8 0))), 64) := by kernel_rfl
def zeroP : List UInt8 := List.replicate 64 0
theorem pgC_zero : pgC zeroP = List.replicate 64 (.int .u8 0) := by simp [pgC, zeroP]
def St.new (n : Nat) : St := ⟨List.replicate n zeroP, [], 0, false, 0⟩
theorem flat_zero : ∀ n, (List.replicate n zeroP).flatMap pgC = List.replicate (n * 64) (.int .u8 0)
  | 0 => by simp
  | n + 1 => by
    rw [List.replicate_succ, List.flatMap_cons, flat_zero n, pgC_zero, List.replicate_append_replicate, Nat.succ_mul, Nat.add_comm]
theorem made_flat (n : Nat) : (madeCells (Array.replicate 64 (Value.int .u8 0)) (n * 64)).toList = List.replicate (n * 64) (.int .u8 0) := by
  apply List.ext_getElem
  · simp [madeCells]
  · intro i h1 h2
    have : i % 64 < 64 := Nat.mod_lt _ (by decide)
    simp [madeCells, Value.cells, this]
theorem new_bad (n : Int) (w : World) (hn : n < 1 ∨ 512 < n) :
    Calls Try.prog 10 #[.int .i64 n] w fun e w' => e = .returned (.tuple #[.pointer none, .int .i64 2]) ∧ w = w' := by
  by_cases h : n < 1
  · go_enter Try.func10, Try.ntmps10
    go_wp2
    go_ret2
    exact ⟨rfl, rfl⟩
  · have h' : 512 < n := by omega
    clear hn
    go_enter Try.func10, Try.ntmps10
    go_wp2
    go_ret2
    exact ⟨rfl, rfl⟩
set_option maxHeartbeats 800000 in
theorem new_run (n : Nat) (w : World) (h1 : 1 ≤ n) (h2 : n ≤ 512) (C : Array Value) (hmk : (Instr.makeSlice 55 (.int .i64 (n : Int)) (.int .i64 (n : Int))).run Try.prog w = .ok (.slice (some ⟨w.heap.size, 0, none⟩) n n) (w.alloc (.cells C 61))) :
    Calls Try.prog 10 #[.int .i64 (n : Int)] w fun e w' => e = .returned (.tuple #[.pointer (some ⟨w.heap.size + 1, 0, none⟩), .int .i64 0]) ∧
      w' = (w.alloc (.cells C 61)).alloc (.cells #[.slice (some ⟨w.heap.size, 0, none⟩) n n, .slice none 0 0, .int .i64 0, .bool false, .int .i64 0] 58) := by
  have h1' : ¬ (n : Int) < 1 := by omega
  have h2' : ¬ 512 < (n : Int) := by omega
  go_enter Try.func10, Try.ntmps10
  go_wp2
  go_ret2
  exact ⟨by simp, rfl⟩
theorem new_any (n : Nat) (w : World) (h1 : 1 ≤ n) (h2 : n ≤ 512) :
    Calls Try.prog 10 #[.int .i64 (n : Int)] w fun e w' => e = .returned (.tuple #[.pointer (some ⟨w.heap.size + 1, 0, none⟩), .int .i64 0]) ∧
      Dsk (fun k => k = w.heap.size ∨ k = w.heap.size + 1) w' (w.heap.size + 1) w.heap.size n (.slice none 0 0) (St.new n) ∧ Below w.heap.size w w' := by
  obtain ⟨i0, hi, hz0, hz1, hz2⟩ := info_parts infoP
  have hmk := run_make (P := Try.prog) w 55 61 i0 _ Try.underlying55 hi hz0 .i64 .i64 (n : Int) (n : Int) (by omega) (Int.le_refl _) (by rw [hz2]; omega) (by omega)
  rw [hz1, Int.toNat_natCast] at hmk
  refine (new_run n w h1 h2 _ hmk).mono ?_
  rintro e w' ⟨rfl, rfl⟩
  have hC : (madeCells (Value.agg (Array.replicate 64 (Value.int .u8 0))).cells (n * 64)).toList = (List.replicate n zeroP).flatMap pgC := by rw [flat_zero]; exact made_flat n
  generalize madeCells (Value.agg (Array.replicate 64 (Value.int .u8 0))).cells (n * 64) = C at *
  have hb : Below w.heap.size w ((w.alloc (.cells C 61)).alloc (.cells #[.slice (some ⟨w.heap.size, 0, none⟩) n n, .slice none 0 0, .int .i64 0, .bool false, .int .i64 0] 58)) := ((Below.refl _ w).alloc (Nat.le_refl _) _).alloc (by simp) _
  refine ⟨rfl, ⟨⟨?_, (fun x h => by simp [St.new] at h), ?_, ?_, by simp [St.new], by simp [St.new], by simp [St.new]⟩, ?_, ?_, World.ownsRow_nil .., Or.inr rfl, ⟨Or.inl rfl, by omega⟩, (fun g h => by simp [Value.ownBlock] at h), fun k hk => by rcases hk with rfl | rfl <;> simp <;> omega⟩, hb⟩
  · intro p hp
    simp only [St.new, List.mem_replicate] at hp
    rw [hp.2]; simp [zeroP]
  · simp only [St.new, List.length_replicate]; omega
  · simp only [St.new, List.length_replicate]; omega
  · simp only [St.new, List.length_replicate]
    exact heap_alloc2_new w _ _
  · simp only [St.new, List.length_replicate]
    refine ⟨by rw [flat_len pgC 64 _ (fun x h => by rw [(List.mem_replicate.1 h).2]; simp [pgC, zeroP])]; simp, Or.inr ⟨w.heap.size, n, C, rfl, Nat.zero_le _, heap_alloc2_old w _ _, Nat.le_refl _, by unfold maxLen; omega, ?_, ?_⟩⟩
    · have := congrArg List.length hC
      rw [flat_zero] at this
      simpa using this
    · rw [hC]
      exact List.take_of_length_le (by rw [flat_zero]; simp)

/-- Sure. -/
theorem sure_nil (i : Int) (w : World) :
    Calls Try.prog 16 #[.pointer none, .int .i64 i] w fun e w' => e = .returned (.tuple #[.slice none 0 0, .int .i64 1]) ∧ w = w' := by
  go_enter Try.func16, Try.ntmps16
  go_wp2
  go_ret2
  exact ⟨rfl, rfl⟩
theorem sure_arg (w : World) (D S c n : Nat) (i : Int) (c0 : w.cell? ⟨D, 0, none⟩ = some (.slice (some ⟨S, 0, none⟩) n c)) (hi : ¬ (0 ≤ i ∧ i < (n : Int))) :
    Calls Try.prog 16 #[.pointer (some ⟨D, 0, none⟩), .int .i64 i] w fun e w' => e = .returned (.tuple #[.slice none 0 0, .int .i64 2]) ∧ w = w' := by
  have hh := has_no w D S c n i c0 hi
  clear hi
  go_enter Try.func16, Try.ntmps16
  go_wp2_with fail
  refine hh.mono ?_
  rintro e w' ⟨rfl, rfl⟩
  go_wp2
  go_ret2
  exact ⟨rfl, rfl⟩
set_option maxHeartbeats 1000000 in
theorem sure_run (w : World) (D S c n i : Nat) (c0 : w.cell? ⟨D, 0, none⟩ = some (.slice (some ⟨S, 0, none⟩) n c)) (hin : i < n) (hn : n ≤ 512) (C : Array Value) (hC : C.size = 64) (h1 : C.all (·.oneCell') = true)
    (hl : (Instr.loadAt 61 (.pointer (some ⟨S, i * 64, none⟩))).run Try.prog w = .ok (.agg C) w) :
    Calls Try.prog 16 #[.pointer (some ⟨D, 0, none⟩), .int .i64 (i : Int)] w fun e w' => e = .returned (.tuple #[.slice (some ⟨w.heap.size, 0, none⟩) 64 64, .int .i64 0]) ∧ w' = w.alloc (.cells C 61) := by
  have hh := has_yes w D S c n i c0 (by omega) (by omega)
  have hz := (zero_of_info (P := Try.prog) zeroP_info).1
  have hsz := (zero_of_info (P := Try.prog) zeroP_info).2
  have hZ : (Array.replicate 64 (Value.int .u8 0)).size = 64 := by simp
  generalize Array.replicate 64 (Value.int .u8 0) = Z at *
  go_enter Try.func16, Try.ntmps16
  go_wp2_with fail
  refine hh.mono ?_
  rintro e w' ⟨rfl, rfl⟩
  have HZ := Lib.hid hz
  have HS := Lib.hid hsz
  have HZs := Lib.hid hZ
  have HC := Lib.hid hC
  have H1 := Lib.hid h1
  have HL := Lib.hid hl
  clear hz hsz hZ hC h1 hh hl
  go_wp2_with (first
    | (refine wpList_load_known rfl 61 (.tmp 20) rfl _ _ rfl HL.out ?_)
    | (refine wpList_alloc_row rfl 61 rfl Z (HZ.out _) ?_)
    | (refine wpList_store_new rfl 61 (.tmp 6) (.tmp 21) rfl Z C rfl rfl (by rw [HS.out, HC.out]) (by rw [HZs.out, HC.out]) H1.out ?_))
  go_ret2
  exact ⟨rfl, rfl⟩
end Go.Proofs.Ytohmofhpbmhhjaa
