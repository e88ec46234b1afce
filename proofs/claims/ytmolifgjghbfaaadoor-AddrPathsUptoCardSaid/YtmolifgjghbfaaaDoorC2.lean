/- strings.ContainsRune of a rune that is not of one byte, in a text of bytes below 128. -/
import Derived.Test.YtmolifgjghbfaaaDoorC1
import Derived.Test.YtmolifgjghbfaaaDoorShelf
import Derived.Test.YtmolifgjghbfaaaDoorW2
import Derived.Laws.Runes
import Derived.Deep.QuietTactic
import Derived.BigQuiet
import Derived.RegionTactic
import Derived.ChangeAlike
namespace Go.Proofs.YtmolifgjghbfaaaDoor
open Go.RowKit

theorem bel_draws {B : Nat} {a w : World} (h : Below B a w) (n : Nat) : Below B a (w.drewN n) := h.trans ⟨rfl, rfl, rfl, Nat.le_refl _, fun _ _ => rfl⟩
theorem byte_not : ∀ (l : List UInt8) (c : UInt8), (∀ b ∈ l, b ≠ c) → Lib.indexByte l c = -1 := by
  intro l
  induction l with
  | nil => intro c _; rfl
  | cons b t ih =>
    intro c h
    have h1 : b ≠ c := h b (by simp)
    have h2 := ih c fun x hx => h x (by simp [hx])
    unfold Lib.indexByte
    rw [if_neg (by simpa using h1), if_pos (by simpa using h2)]

set_option maxHeartbeats 1000000 in
set_option maxRecDepth 100000 in
theorem indexRune_err (s : ByteArray) (w : World) (hs : ∀ b ∈ s.data.toList, b.toNat < 128) :
    Calls Tryd.prog 53 #[.string s, .int .i32 65533] w fun e w' => e = .returned (.int .i64 (-1)) ∧ Below w.heap.size w w' := by
  have hS : ∀ pos (h : pos < s.size), (s[pos]'h).toNat < 128 := by
    intro pos h
    refine hs _ ?_
    have hp' : pos < s.data.toList.length := by rw [← Lib.size_eq]; exact h
    exact List.getElem_mem hp'
  have HS := Lib.hid hS
  clear hS hs
  go_enter Tryd.func53, Tryd.ntmps53
  go_wp2
  go_loopw [5, 6] (fun _i _r wr => ∃ (pos : Nat), pos ≤ s.size ∧ wr.heap[w.heap.size]? = some (.stringIter s pos) ∧ Below w.heap.size w wr) (fun _ _ wr => s.size - wr.iterPos w.heap.size)
  case atStart =>
    refine ⟨0, Nat.zero_le _, ?_, (Below.refl _ w).alloc (Nat.le_refl _) _⟩
    have := World.iter_heap w s 0
    simpa using this
  case round =>
    obtain ⟨pos, hle, hit, hb⟩ := hrel
    by_cases hp : pos < s.size
    · have hd := dec_ascii s pos hp (HS.out pos hp)
      have hlt := HS.out pos hp
      have hnx : ∀ ty, (Instr.next (.pointer (some ⟨w.heap.size, 0, none⟩)) true ty).run Tryd.prog wr = _ := fun ty => Lib.run_next_any_at wr w.heap.size s pos ty hit hp
      rw [hd] at hnx
      simp only at hnx
      have hit2 := Lib.iterAt_heap wr w.heap.size s pos (pos + 1) hit
      have hsz : w.heap.size < wr.heap.size := (Array.getElem?_eq_some_iff.1 hit).1
      have hb2 := Lib.below_iterAt hb (k := w.heap.size) (by omega) s (pos + 1)
      have hmu : s.size - (pos + 1) < s.size - wr.iterPos w.heap.size := by simp only [World.iterPos, hit]; omega
      generalize s[pos].toNat = r at *
      generalize hW : wr.iterAt w.heap.size s (pos + 1) = W at *
      clear hW hit hb hsz hd
      have e1 : ((r : Int) == 65533) = false := by rw [beq_eq_false_iff_ne]; omega
      have HM := Lib.hid hmu
      have HI := Lib.hid hit2
      clear hmu hit2
      go_wp2
      refine ⟨⟨pos + 1, by omega, HI.out, hb2⟩, ?_⟩
      simp only [World.iterPos, HI.out]; exact HM.out
    · have hnx : ∀ ty, (Instr.next (.pointer (some ⟨w.heap.size, 0, none⟩)) true ty).run Tryd.prog wr = _ := fun ty => Lib.run_next_end_at wr w.heap.size s pos ty hit hp
      go_wp2
      go_ret
      exact ⟨rfl, hb⟩

set_option maxHeartbeats 1000000 in
set_option maxRecDepth 100000 in
theorem indexRune_big (s : ByteArray) (r : Nat) (w : World) (hs : ∀ b ∈ s.data.toList, b.toNat < 128) (h4 : 4 ≤ s.size) (hm : s.size ≤ 1000) (hr : r ≤ 1114111) (hv : ¬ (55296 ≤ r ∧ r ≤ 57343)) (h128 : 128 ≤ r) (hne : r ≠ 65533) :
    Calls Tryd.prog 53 #[.string s, .int .i32 r] w fun e w' => e = .returned (.int .i64 (-1)) ∧ Below w.heap.size w w' := by
  have hval : Lib.validRune (r : Int) = true := by unfold Lib.validRune; simp; omega
  have hvr := Tryd.utf8_ValidRune (r : Int) w
  rw [hval] at hvr
  have e1 : ((r : Int) == 65533) = false := by rw [beq_eq_false_iff_ne]; omega
  have hval2 : Utf8.valid (r : Int) = true := by unfold Utf8.valid; simp; omega
  obtain ⟨f1, f2, f3⟩ := encode_facts (r : Int) hval2 (by omega)
  have hcv := run_convert_int_string (P := Tryd.prog) w 21 9 .i32 (r : Int) (by kernel_rfl) Tryd.underlying9
  generalize hU : Utf8.encode (r : Int) = u at *
  clear hval hval2 hv hne hr
  have hsb : (s.get! (u.size - 1)).toNat < 128 := by
    rw [get_lt s _ (by omega)]
    exact hs _ (by
      have hp' : u.size - 1 < s.data.toList.length := by rw [← Lib.size_eq]; omega
      exact List.getElem_mem hp')
  have hub : 128 ≤ (u.get! (u.size - 1)).toNat := by rw [get_lt u _ (by omega)]; exact f3 (by omega)
  have hib : ∀ (a e : Nat) (y : Int), 128 ≤ y → y < 256 → ∀ W, Calls Tryd.prog 54 #[.string (s.extract a e), .int .u8 y] W fun e w' => e = .returned (.int .i64 (-1)) ∧ w' = W := by
    intro a e y h1 h2 W
    have hc := Tryd.strings_IndexByte (s.extract a e) y W
    rw [byte_not _ _ (fun b hb => ?_)] at hc
    · exact hc
    · have h3 := hs b (mem_extract hb)
      intro h4
      rw [h4] at h3
      have h5 : (y.toNat.toUInt8).toNat = y.toNat := by simp; omega
      omega
  have HX := Lib.hid hsb
  have HY := Lib.hid hub
  clear f3 hs hU hsb hub
  go_enter Tryd.func53, Tryd.ntmps53
  have HIB := Lib.hid hib
  have g1 : 1 ≤ (u.size : Int) := by omega
  have g2 : (u.size : Int) - 1 < (s.size : Int) := by omega
  have g3 : 0 ≤ (u.size : Int) - 1 := by omega
  have g4 : (u.size : Int) - 1 < (u.size : Int) := by omega
  have g5 : ((u.size : Int) - 1).toNat = u.size - 1 := by omega
  have g6 : u.size - 1 < u.size := by omega
  have g7 : u.size - 1 < s.size := by omega
  clear hib
  go_wp2_with (go_at_call 55; refine hvr.mono ?_; rintro e w' ⟨rfl, rfl⟩)
  go_step3
  go_wp2_with fail
  go_loopw [9] (fun iv wr => iv = .int .i64 ((u.size : Int) - 1) ∧ wr = w') (fun _ _ => 0)
  case atStart => exact ⟨rfl, rfl⟩
  case round =>
    obtain ⟨rfl, rfl⟩ := hrel
    go_wp2_with fail
    go_step3
    go_wp2_with fail
    go_region
    go_wp2_with fail
    · have hy := HY.out
      rw [get_lt u _ g6] at hy
      have hib := HIB.out
      have q1 : (u.size : Int) ≤ (s.size : Int) := by omega
      have q2 : u.size ≤ s.size := by omega
      have q3 : 0 ≤ (u.size : Int) := by omega
      have q4 : 128 ≤ (u[u.size - 1].toNat : Int) := by omega
      have q5 : (u[u.size - 1].toNat : Int) < 256 := by have := u[u.size - 1].toNat_lt; omega
      have hw : IntKind.i64.wrap (u.size : Int) = (u.size : Int) := wrap_small _ (by omega) (by omega)
      have HB := Lib.hid ((Below.refl _ wr).drew : Below wr.heap.size wr wr.drew)
      generalize wr.drew = wq at HB ⊢
      go_quiet ((go_at_call 54; exact Calls.quiet_of_same (hib _ _ _ q4 q5 _)))
      go_wp2_with fail
      dsimp (config := { zetaDelta := true }) only [Exit.noGoto_ret, Exit.inBlock, Exit.then]
      go_ret
      exact ⟨rfl, bel_draws HB.out _⟩
    · exfalso
      have h : ((s[u.size - 1].toNat : Int) != (u[u.size - 1].toNat : Int)) = false := by assumption
      have hx := HX.out
      have hy := HY.out
      rw [get_lt s _ g7] at hx
      rw [get_lt u _ g6] at hy
      rw [bne_eq_false_iff_eq] at h
      omega

/-- A rune that a text has. -/
def runeOk (r : Nat) : Prop := r ≤ 1114111 ∧ ¬ (55296 ≤ r ∧ r ≤ 57343)
theorem indexRune_high (s : ByteArray) (r : Nat) (w : World) (hs : ∀ b ∈ s.data.toList, b.toNat < 128) (h4 : 4 ≤ s.size) (hm : s.size ≤ 1000) (hr : runeOk r) (h128 : 128 ≤ r) :
    Calls Tryd.prog 53 #[.string s, .int .i32 r] w fun e w' => e = .returned (.int .i64 (-1)) ∧ Below w.heap.size w w' := by
  by_cases h : r = 65533
  · subst h; exact indexRune_err s w hs
  · exact indexRune_big s r w hs h4 hm hr.1 hr.2 h128 h
set_option maxHeartbeats 400000 in
theorem containsRune_high (s : ByteArray) (r : Nat) (w : World) (hs : ∀ b ∈ s.data.toList, b.toNat < 128) (h4 : 4 ≤ s.size) (hm : s.size ≤ 1000) (hr : runeOk r) (h128 : 128 ≤ r) :
    Calls Tryd.prog 51 #[.string s, .int .i32 r] w fun e w' => e = .returned (.bool false) ∧ Below w.heap.size w w' := by
  have hc := indexRune_high s r w hs h4 hm hr h128
  clear hs hr
  go_enter Tryd.func51, Tryd.ntmps51
  go_wp2_with (go_at_call 53; refine hc.mono ?_; rintro e w' ⟨rfl, hb⟩)
  go_ret
  exact ⟨rfl, hb⟩

/-- The letters of a word, but a to z, A to Z, 0 to 9. -/
def signB : ByteArray := ⟨#[33, 35, 36, 37, 38, 39, 42, 43, 45, 47, 61, 63, 94, 95, 96, 123, 124, 125, 126]⟩
set_option maxRecDepth 100000 in
theorem sign_iff : ∀ r, r < 128 → decide (0 ≤ Lib.indexByte signB.data.toList (Nat.toUInt8 r)) = decide (r ∈ signL) := by decide
theorem sign_bytes : ∀ b ∈ signB.data.toList, b.toNat < 128 := by decide
theorem containsRune_any (r : Nat) (w : World) (hr : runeOk r) :
    Calls Tryd.prog 51 #[.string signB, .int .i32 r] w fun e w' => e = .returned (.bool (decide (r ∈ signL))) ∧ Below w.heap.size w w' := by
  by_cases h : r < 128
  · have hc := Tryd.strings_ContainsRune_ascii signB r w (by omega) (by omega)
    rw [show ((r : Int).toNat.toUInt8) = Nat.toUInt8 r from rfl, sign_iff r h] at hc
    exact hc.mono fun e w' ⟨h1, h2⟩ => ⟨h1, h2 ▸ Below.refl _ _⟩
  · have hc := containsRune_high signB r w sign_bytes (by decide) (by decide) hr (by omega)
    rw [decide_eq_false (by intro hm; have := sign_low hm; omega)]
    exact hc
set_option maxHeartbeats 400000 in
theorem nextWord_any (r : Nat) (w : World) (hr : runeOk r) :
    Calls Tryd.prog 42 #[.int .i32 r] w fun e w' => e = .returned (.int .i64 (nextWordF r)) ∧ Below w.heap.size w w' := by
  have h1 := alnum_any r w (by have := hr.1; omega)
  have h2 := containsRune_any r w hr
  unfold nextWordF wordR
  clear hr
  cases ha : alnumR r with
  | true =>
    rw [ha] at h1
    clear ha h2
    go_enter Tryd.func42, Tryd.ntmps42
    go_wp2_with (go_at_call 50; refine h1.mono ?_; rintro e w' ⟨rfl, rfl⟩)
    go_ret
    exact ⟨rfl, Below.refl _ _⟩
  | false =>
    rw [ha] at h1
    clear ha
    cases hb : decide (r ∈ signL) with
    | true =>
      rw [hb] at h2
      clear hb
      go_enter Tryd.func42, Tryd.ntmps42
      go_wp2_with (first | (go_at_call 50; refine h1.mono ?_; rintro e w' ⟨rfl, rfl⟩) | (go_at_call 51; refine h2.mono ?_; rintro e w' ⟨rfl, hb⟩))
      go_ret
      exact ⟨rfl, hb⟩
    | false =>
      rw [hb] at h2
      clear hb
      go_enter Tryd.func42, Tryd.ntmps42
      go_wp2_with (first | (go_at_call 50; refine h1.mono ?_; rintro e w' ⟨rfl, rfl⟩) | (go_at_call 51; refine h2.mono ?_; rintro e w' ⟨rfl, hb⟩))
      go_ret
      exact ⟨rfl, hb⟩
end Go.Proofs.YtmolifgjghbfaaaDoor
