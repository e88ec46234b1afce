import Derived.Test.YtdohgmbchmcemaaDoorL3
namespace Go.Proofs.YtdohgmbchmcemaaDoor
open Go.RowKit

set_option maxRecDepth 100000 in
theorem lowlow_fin : ∀ n : Fin 256, lowB (lowB (UInt8.ofNat n.val)) = lowB (UInt8.ofNat n.val) := by decide
set_option maxRecDepth 100000 in
theorem xor_fin : ∀ n : Fin 256, bits BinOp.xor IntKind.u8 (n.val : Int) 32 = ((UInt8.ofNat n.val ^^^ 32).toNat : Int) := by decide
set_option maxRecDepth 100000 in
theorem or_fin : ∀ n : Fin 256, bits BinOp.or IntKind.u8 (n.val : Int) 32 = ((UInt8.ofNat n.val ||| 32).toNat : Int) := by decide
set_option maxRecDepth 100000 in
theorem fold_fin : ∀ n : Fin 256, (lowB (UInt8.ofNat n.val) == lowB (UInt8.ofNat n.val ^^^ 32)) = (decide (97 ≤ ((UInt8.ofNat n.val ^^^ 32) ||| 32).toNat) && decide (((UInt8.ofNat n.val ^^^ 32) ||| 32).toNat ≤ 122)) := by decide
theorem of_byte (c : UInt8) : UInt8.ofNat c.toNat = c := by simp
theorem xor_byte (c : UInt8) : bits BinOp.xor IntKind.u8 (c.toNat : Int) 32 = ((c ^^^ 32).toNat : Int) := by
  have := xor_fin ⟨c.toNat, c.toNat_lt⟩
  simpa [of_byte] using this
theorem or_byte (c : UInt8) : bits BinOp.or IntKind.u8 (c.toNat : Int) 32 = ((c ||| 32).toNat : Int) := by
  have := or_fin ⟨c.toNat, c.toNat_lt⟩
  simpa [of_byte] using this
theorem fold_byte (c : UInt8) : (lowB c == lowB (c ^^^ 32)) = (decide (97 ≤ ((c ^^^ 32) ||| 32).toNat) && decide (((c ^^^ 32) ||| 32).toNat ≤ 122)) := by
  have := fold_fin ⟨c.toNat, c.toNat_lt⟩
  simp only [of_byte] at this
  exact this
theorem low_set (l : List UInt8) (k : Nat) (y : UInt8) (h : k < l.length) : (low l == low (l.set k y)) = (lowB l[k] == lowB y) := by
  have e : low (l.set k y) = (low l).set k (lowB y) := by unfold low; rw [List.map_set]
  have hk : k < (low l).length := by rw [low_length]; exact h
  have hg : (low l)[k] = lowB l[k] := by simp [low]
  rw [e, Bool.eq_iff_iff, beq_iff_eq, beq_iff_eq, ← hg]
  constructor
  · intro h1
    have h2 := congrArg (·[k]?) h1
    simp only [List.getElem?_set_self hk, List.getElem?_eq_getElem hk, Option.some.injEq] at h2
    exact h2
  · intro h1
    rw [← h1, List.set_getElem_self]
theorem low_low (l : List UInt8) : low (low l) = low l := by
  unfold low
  rw [List.map_map]
  apply List.map_congr_left
  intro c _
  simp only [Function.comp]
  have h := lowlow_fin
  have h2 := h ⟨c.toNat, c.toNat_lt⟩
  simp only [of_byte] at h2
  exact h2

set_option maxHeartbeats 1600000 in
theorem lawFolds (s : ByteArray) (at' : Int) (w : World) (hT : Tabs w) (hs : s.size ≤ 140737488351232) :
    Calls Tryd.prog 4 #[.string s, .int .i64 at'] w fun e w' => e = .returned (.bool true) ∧ Below w.heap.size w w' := by
  have hll := low_low s.data.toList
  have hlen : (low s.data.toList).length = s.size := by rw [low_length, Lib.size_eq]
  generalize hL : low s.data.toList = L at *
  have h2 := fun w => lower ⟨L.toArray⟩ w
  have h3 := fun w => same s ⟨L.toArray⟩ w
  have h1 := lower s w
  simp only [hL, hll] at h1 h2 h3
  have HL := Lib.hid hL
  clear hL hll
  go_enter Tryd.func4, Tryd.ntmps4
  go_wp2_with fail
  refine h1.mono ?_
  rintro e w1 ⟨rfl, b1⟩
  clear h1
  go_wp2_with fail
  refine (h2 w1).mono ?_
  rintro e w2 ⟨rfl, b2⟩
  have b2 := b1.trans (b2.mono b1.size)
  clear h2 b1
  go_wp2_with fail
  refine (h3 w2).mono ?_
  rintro e w3 ⟨rfl, b3⟩
  have b3 := b2.trans (b3.mono b2.size)
  clear h3 b2
  by_cases h0 : s.size = 0
  · go_wp2_with fail
    refine (live_any w3 (hT.below b3 (Nat.le_refl _))).mono ?_
    rintro e w4 ⟨rfl, b4⟩
    have b4 := b3.trans (b4.mono b3.size)
    go_wp2
    go_ret
    exact ⟨rfl, b4⟩
  · have hb0 : ((s.size : Int) == 0) = false := by rw [beq_eq_false_iff_ne]; omega
    have hcv := run_bytes_of_string (P := Tryd.prog) w3 9 25 5 s Tryd.underlying9 Tryd.underlying25 Tryd.underlying5
    generalize hcap : grownCap w3 s.size 0 5 = cap at hcv
    have hnew := bytes_new w3 s cap
    generalize hC : (bytesRow s cap) = C at hcv hnew
    clear hcap hC
    obtain ⟨k, hk, hks⟩ : ∃ k : Nat, wrap64 ((IntKind.u64.wrap at').tmod (s.size : Int)) = (k : Int) ∧ k < s.size := by
      have h1 : 0 ≤ IntKind.u64.wrap at' := by simp only [IntKind.wrap]; simp [IntKind.bits, IntKind.signed]; omega
      have h2 : (IntKind.u64.wrap at').tmod (s.size : Int) = (IntKind.u64.wrap at') % (s.size : Int) := Int.tmod_eq_emod_of_nonneg h1
      have h3 := Int.emod_nonneg (IntKind.u64.wrap at') (show (s.size : Int) ≠ 0 by omega)
      have h4 := Int.emod_lt_of_pos (IntKind.u64.wrap at') (show (0 : Int) < s.size by omega)
      rw [h2]
      refine ⟨((IntKind.u64.wrap at') % (s.size : Int)).toNat, ?_, by omega⟩
      rw [IntWalk.wrap64_in _ ⟨by omega, by omega⟩]
      omega
    have hc := hnew.1 k hks
    have hf := hnew.2 k hks
    have hbk : mixB s 0 k = (s.get! k).toNat := by unfold mixB; rw [if_neg (by omega)]
    rw [hbk] at hc
    have hlt := (s.get! k).toNat_lt
    have hset := hnew.set k ((s.get! k) ^^^ 32).toNat hks (((s.get! k) ^^^ 32).toNat : Int) rfl
    have hlset := low_set s.data.toList k ((s.get! k) ^^^ 32) (by rw [← Lib.size_eq]; exact hks)
    rw [get_list s k hks, fold_byte] at hlset
    have hxor := xor_byte (s.get! k)
    have hor := or_byte ((s.get! k) ^^^ 32)
    have hget : ∀ j (hj : j < (s.data.toList.set k ((s.get! k) ^^^ 32)).length), (if j = k then ((s.get! k) ^^^ 32).toNat else mixB s 0 j) = ((s.data.toList.set k ((s.get! k) ^^^ 32))[j]).toNat := by
      intro j hj
      rw [List.getElem_set]
      by_cases e : j = k
      · subst e; rw [if_pos rfl, if_pos rfl]
      · rw [if_neg e, if_neg (fun h => e h.symm)]
        unfold mixB
        rw [if_neg (by omega)]
        have hj' : j < s.size := by rw [List.length_set, ← Lib.size_eq] at hj; exact hj
        rw [get_list s j hj']
    have hsl : (s.data.toList.set k ((s.get! k) ^^^ 32)).length = s.size := by rw [List.length_set, Lib.size_eq]
    generalize hy : (s.get! k) ^^^ 32 = y at *
    generalize s.data.toList.set k y = l at *
    generalize hz : y ||| 32 = z at *
    generalize s.get! k = x at *
    have HS := Lib.hid hset
    have HG := Lib.hid hget
    have HLS := Lib.hid hlset
    have HSL := Lib.hid hsl
    clear hbk hnew h0 hset hget hlset hsl hy hz
    go_wp2_with fail
    have hzw : (w3.alloc (.cells C 5 (C.size, C.size + 1))).heap.size = w3.heap.size + 1 := by simp
    have b4 : Below w.heap.size w (((w3.alloc (.cells C 5 (C.size, C.size + 1))).setCell ⟨w3.heap.size, k, none⟩ (.int .u8 (y.toNat : Int))).drew) :=
      ((b3.alloc b3.size _).setCell (by simpa using b3.size) _).drew
    have hws : (((w3.alloc (.cells C 5 (C.size, C.size + 1))).setCell ⟨w3.heap.size, k, none⟩ (.int .u8 (y.toNat : Int))).drew).heap.size = w3.heap.size + 1 := by simp [World.setCell]
    have hbw := fun (w' : World) (hb : Below (((w3.alloc (.cells C 5 (C.size, C.size + 1))).setCell ⟨w3.heap.size, k, none⟩ (.int .u8 (y.toNat : Int))).drew).heap.size (((w3.alloc (.cells C 5 (C.size, C.size + 1))).setCell ⟨w3.heap.size, k, none⟩ (.int .u8 (y.toNat : Int))).drew) w') => HS.out.other (w' := w') (hb.block w3.heap.size (by rw [hws]; omega))
    refine (live_any _ (hT.below b4 (Nat.le_refl _))).mono ?_
    rintro e w4 ⟨rfl, b5⟩
    have hbuf := hbw w4 b5
    have b6 := b4.trans (b5.mono b4.size)
    have hback := run_convert_bytes_back (P := Tryd.prog) w4 25 9 5 ⟨w3.heap.size, 0, none⟩ cap l Tryd.underlying25 Tryd.underlying5 Tryd.underlying9 (fun j hj => by
      rw [addr_at, hbuf.1 j (by rw [← HSL.out]; exact hj)]
      have := HG.out j hj
      simp only [this])
    rw [HSL.out] at hback
    clear hbw hbuf b4 b5 hws hzw
    have hsm := same s ⟨l.toArray⟩ w4
    have hsm' : Calls Tryd.prog 15 #[.string s, .string ⟨l.toArray⟩] w4 fun e w' => e = .returned (.bool (decide (97 ≤ z.toNat) && decide (z.toNat ≤ 122))) ∧ Below w4.heap.size w4 w' := by
      rw [← HLS.out]; exact hsm
    clear hsm
    by_cases q1 : 97 ≤ z.toNat
    · by_cases q2 : z.toNat ≤ 122
      · rw [decide_eq_true q1, decide_eq_true q2] at hsm'
        go_wp2_with fail
        refine hsm'.mono ?_
        rintro e w5 ⟨rfl, b7⟩
        have b7 := b6.trans (b7.mono b6.size)
        go_wp2
        go_ret
        exact ⟨ret_bool (by simp; omega), b7⟩
      · rw [decide_eq_true q1, decide_eq_false q2] at hsm'
        go_wp2_with fail
        refine hsm'.mono ?_
        rintro e w5 ⟨rfl, b7⟩
        have b7 := b6.trans (b7.mono b6.size)
        go_wp2
        go_ret
        exact ⟨ret_bool (by simp; omega), b7⟩
    · rw [decide_eq_false q1] at hsm'
      go_wp2_with fail
      refine hsm'.mono ?_
      rintro e w5 ⟨rfl, b7⟩
      have b7 := b6.trans (b7.mono b6.size)
      go_wp2
      go_ret
      exact ⟨ret_bool (by simp), b7⟩
end Go.Proofs.YtdohgmbchmcemaaDoor
