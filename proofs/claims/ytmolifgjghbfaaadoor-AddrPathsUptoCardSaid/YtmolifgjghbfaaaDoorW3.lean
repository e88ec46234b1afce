import Derived.Test.YtmolifgjghbfaaaDoorW2
import Derived.Test.YtmolifgjghbfaaaDoorShelf
namespace Go.Proofs.YtmolifgjghbfaaaDoor
open Go.RowKit

/-- The library's tables of UTF-8 are as its text lays them. -/
def Tabs (w : World) : Prop := Lib.Utf8Tabs 0 1 w
theorem Tabs.below {w w' : World} {B : Nat} (h : Tabs w) (hb : Below B w w') (hB : w.heap.size ≤ B) : Tabs w' := Utf8Tabs_below h (hb.mono hB)

/-- Is a letter of rune r and width k a plain one? -/
def plainR (r k : Nat) : Bool := if r = 65533 then decide (1 < k) else (decide (32 ≤ r) && !decide (r = 127))

theorem ret_bool {a b : Bool} (h : a = b) : Ending.returned (.bool a) = .returned (.bool b) := by rw [h]

set_option maxHeartbeats 400000 in
theorem plain_any (s : ByteArray) (pos r k : Nat) (hp : pos < s.size) (hd : Utf8.decode s pos = (r, k)) (w : World) (hT : Tabs w) :
    Calls Tryd.prog 37 #[.string s, .int .i64 pos, .int .i32 r] w fun e w' => e = .returned (.bool (plainR r k)) ∧ Below w.heap.size w w' := by
  have hr : r ≤ 2147483647 := by have := decode_le s pos; rw [hd] at this; exact this
  have hk : k ≤ 4 := by have := dec_le s pos hp; rw [hd] at this; exact this.2.1
  have hz : (s.extract pos s.size).size ≠ 0 := by rw [ByteArray.size_extract]; omega
  have hgo : Lib.decodeGo (s.extract pos s.size) = (r, k) := by unfold Lib.decodeGo; rw [if_neg hz, dec_extract s pos hp, hd]
  unfold plainR
  by_cases h1 : r = 65533
  · subst h1
    rw [if_pos rfl]
    have hc := Tryd.utf8_DecodeRuneInString (s.extract pos s.size) w hT
    rw [hgo] at hc
    clear hgo hd hz
    go_enter Tryd.func37, Tryd.ntmps37
    go_wp2_with (go_at_call 32; refine hc.mono ?_; rintro e w' ⟨rfl, hb⟩)
    go_ret
    exact ⟨ret_bool (by rw [Bool.eq_iff_iff]; simp; omega), hb⟩
  · rw [if_neg h1]
    have hb1 : ((r : Int) == 65533) = false := by rw [beq_eq_false_iff_ne]; omega
    clear hgo hd hz
    by_cases h2 : 32 ≤ r
    · by_cases h3 : r = 127
      · subst h3
        go_enter Tryd.func37, Tryd.ntmps37
        go_wp2
        go_ret
        exact ⟨ret_bool (by simp), Below.refl _ _⟩
      · have hb3 : ((r : Int) == 127) = false := by rw [beq_eq_false_iff_ne]; omega
        have hb4 : ((r : Int) != 127) = true := by rw [bne_iff_ne]; omega
        go_enter Tryd.func37, Tryd.ntmps37
        go_wp2
        go_ret
        exact ⟨ret_bool (by simp [h3]; omega), Below.refl _ _⟩
    · go_enter Tryd.func37, Tryd.ntmps37
      go_wp2
      go_ret
      exact ⟨ret_bool (by simp), Below.refl _ _⟩

/-- Does a quoted text go on with this letter? -/
def quotesR (pos r k : Nat) (esc : Bool) : Bool := if pos = 0 then decide (r = 34) else if esc then (decide (r = 34) || decide (r = 92)) else plainR r k

set_option maxHeartbeats 400000 in
theorem quotes_any (s : ByteArray) (pos r k : Nat) (esc : Bool) (hp : pos < s.size) (hd : Utf8.decode s pos = (r, k)) (w : World) (hT : Tabs w) :
    Calls Tryd.prog 46 #[.string s, .int .i64 pos, .int .i32 r, .bool esc] w fun e w' => e = .returned (.bool (quotesR pos r k esc)) ∧ Below w.heap.size w w' := by
  have hpl := plain_any s pos r k hp hd w hT
  have hr : r ≤ 2147483647 := by have := decode_le s pos; rw [hd] at this; exact this
  clear hd
  unfold quotesR
  by_cases h0 : pos = 0
  · subst h0
    rw [if_pos rfl]
    go_enter Tryd.func46, Tryd.ntmps46
    go_wp2
    go_ret
    exact ⟨ret_bool (by rw [Bool.eq_iff_iff]; simp; omega), Below.refl _ _⟩
  · rw [if_neg h0]
    have hb0 : ((pos : Int) == 0) = false := by rw [beq_eq_false_iff_ne]; omega
    cases esc with
    | true =>
      rw [if_pos rfl]
      by_cases h1 : r = 34
      · subst h1
        go_enter Tryd.func46, Tryd.ntmps46
        go_wp2
        go_ret
        exact ⟨ret_bool (by simp), Below.refl _ _⟩
      · have hb1 : ((r : Int) == 34) = false := by rw [beq_eq_false_iff_ne]; omega
        go_enter Tryd.func46, Tryd.ntmps46
        go_wp2
        go_ret
        exact ⟨ret_bool (by rw [Bool.eq_iff_iff]; simp; omega), Below.refl _ _⟩
    | false =>
      rw [if_neg (by simp)]
      go_enter Tryd.func46, Tryd.ntmps46
      go_wp2_with (go_at_call 37; refine hpl.mono ?_; rintro e w' ⟨rfl, hb⟩)
      go_ret
      exact ⟨rfl, hb⟩

/-- A quoted text, letter by letter: its bytes, the place of a fault, the error. -/
def quoteGo : List (Nat × Nat × Nat) → List UInt8 → Nat → List UInt8 × Nat × Nat
  | [], acc, _ => (acc ++ [34], 0, 0)
  | (_, r, k) :: t, acc, place => if plainR r k then quoteGo t (acc ++ (if r = 34 ∨ r = 92 then [92] else []) ++ Lib.encodeRune (r : Int)) (place + 1) else ([], place, 4)
def quoteF (s : ByteArray) : List UInt8 × Nat × Nat := if 1024 < s.size then ([], 0, 6) else quoteGo (lets s 0) [34] 0
/-- What a text, a number and an error are as results. -/
def res3 (x : List UInt8 × Nat × Nat) : Value := .tuple #[.string ⟨x.1.toArray⟩, .int .i64 x.2.1, .int .i64 x.2.2]
theorem ret_res3 {x : List UInt8 × Nat × Nat} {l : List UInt8} {a b : Nat} (h : (l, a, b) = x) : Ending.returned (.tuple #[.string ⟨l.toArray⟩, .int .i64 a, .int .i64 b]) = .returned (res3 x) := by subst h; rfl

theorem info5 : (Tryd.prog.info? 5).map (fun i => (i.zero, i.size, i.bytes)) = some (some (.int .u8 0), 1, 1) := by kernel_rfl

set_option maxHeartbeats 800000 in
set_option maxRecDepth 100000 in
theorem quote_any (s : ByteArray) (w : World) (hT : Tabs w) :
    Calls Tryd.prog 27 #[.string s] w fun e w' => e = .returned (res3 (quoteF s)) ∧ Below w.heap.size w w' := by
  unfold quoteF
  by_cases hlen : 1024 < s.size
  · rw [if_pos hlen]
    go_enter Tryd.func27, Tryd.ntmps27
    go_wp2
    go_ret3
    exact ⟨rfl, Below.refl _ _⟩
  rw [if_neg hlen]
  obtain ⟨i0, hi, hz0, hz1, hz2⟩ := info_parts info5
  generalize hF : quoteGo (lets s 0) [34] 0 = F
  have HF := Lib.hid hF
  clear hF
  go_enter Tryd.func27, Tryd.ntmps27
  go_wp2
  go_loopw [5, 6, 7, 8] (fun v p _i _r wr => ∃ (pos place : Nat) (acc : List UInt8), pos ≤ s.size ∧ p = .int .i64 place ∧ place ≤ pos ∧ acc.length ≤ 1 + 5 * pos ∧ wr.heap[w.heap.size + 1]? = some (.stringIter s pos) ∧ wr.ownsRow w.heap.size 5 1 v acc.length (Lib.byteCells acc) ∧ Below w.heap.size w wr ∧ quoteGo (lets s pos) acc place = F) (fun _ _ _ _ wr => s.size - wr.iterPos (w.heap.size + 1))
  case atStart =>
    refine ⟨0, 0, [34], Nat.zero_le _, rfl, Nat.le_refl _, by simp, ?_, ?_, ((Below.refl _ w).alloc (Nat.le_refl _) _).alloc (by simp) _, HF.out⟩
    · have := World.iter_heap (w.alloc (.cells #[.int .u8 34] 5)) s 0
      simpa using this
    · exact (World.ownsRow_lit (size := 1) w #[.int .u8 34] 1 (Nat.le_refl _) (by decide) rfl).alloc _
  case round =>
    obtain ⟨pos, place, acc, hle, rfl, hpl, hacc, hit, hown, hb, hgo⟩ := hrel
    have hsz : w.heap.size + 1 < wr.heap.size := (Array.getElem?_eq_some_iff.1 hit).1
    by_cases hp : pos < s.size
    · obtain ⟨r, k, hd⟩ : ∃ r k, Utf8.decode s pos = (r, k) := ⟨_, _, rfl⟩
      have hwd := dec_le s pos hp
      have hd1 := decode_le s pos
      have hnx : ∀ ty, (Instr.next (.pointer (some ⟨w.heap.size + 1, 0, none⟩)) true ty).run Tryd.prog wr = _ := fun ty => Lib.run_next_any_at wr (w.heap.size + 1) s pos ty hit hp
      rw [lets_cons s pos hp] at hgo
      rw [hd] at hwd hd1 hnx hgo
      simp only at hwd hd1 hnx hgo
      have hit2 := Lib.iterAt_heap wr (w.heap.size + 1) s pos (pos + k) hit
      have hb2 := Lib.below_iterAt hb (k := w.heap.size + 1) (by omega) s (pos + k)
      have hown2 := own_iter hown hit (pos + k)
      have hmu : s.size - (pos + k) < s.size - wr.iterPos (w.heap.size + 1) := by simp only [World.iterPos, hit]; omega
      have hsz2 : w.heap.size + 1 < (wr.iterAt (w.heap.size + 1) s (pos + k)).heap.size := by rw [Lib.iterAt_size]; exact hsz
      generalize hW : wr.iterAt (w.heap.size + 1) s (pos + k) = W at *
      clear hW hit hown hb hsz
      have HM := Lib.hid hmu
      have hpn := plain_any s pos r k hp hd W (hT.below hb2 (Nat.le_refl _))
      clear hd hmu
      unfold quoteGo at hgo
      cases hq : plainR r k with
      | false =>
        rw [hq] at hpn hgo
        have HG := Lib.hid hgo
        clear hgo hq
        go_wp2_with (go_at_call 37; refine hpn.mono ?_; rintro e w1 ⟨rfl, hb3⟩)
        go_ret3
        exact ⟨ret_res3 (by have := HG.out; simpa using this), hb2.trans (hb3.mono (by omega))⟩
      | true =>
        rw [hq] at hpn hgo
        rw [if_pos rfl] at hgo
        have HG := Lib.hid hgo
        clear hgo hq
        have he4 := Lib.runeCells_le (r : Int)
        have hel := Lib.runeCells_length (r : Int)
        have hE34 := (Lib.runeCells_le 34).2
        have hE92 := (Lib.runeCells_le 92).2
        by_cases h34 : r = 34
        · subst h34
          go_wp2_with fail
          refine hpn.mono ?_
          rintro e w1 ⟨rfl, hb3⟩
          have hown3 := own_below hown2 hb3
          have hit3 : w1.heap[w.heap.size + 1]? = some (.stringIter s (pos + k)) := (hb3.block _ hsz2).trans hit2
          have hz3 := hb3.size
          have hb4 := hb2.trans (hb3.mono (by omega))
          clear hown2 hit2 hb2 hb3 hpn
          go_wp2_with (at_builtin; refine wpList_append_own _ rfl _ _ 51 rfl w.heap.size 5 i0 (.int .u8 0) 1 1 Tryd.underlying51 hi hz0 hz1 hz2 rfl (by decide) _ _ _ rfl (hown3.alloc _) ⟨w1.heap.size, 0, none⟩ 1 1 [.int .u8 92] rfl rfl ?c1 ?c2 ?c3 ?c4 ?c5 ?_)
          case c1 => exact cell_one_new _ _ _
          case c2 => intro u hu; simp at hu; subst hu; rfl
          case c3 => unfold maxLen; omega
          case c4 => omega
          case c5 => simp; omega
          intro v' w2 hown4 hgrow _
          have hit4 := iter_grown (hown3.alloc _) ((Below.heap_alloc _ _ _ (by omega)).trans hit3) hgrow
          have hb5 := below_grown (hb4.alloc (by omega) _) (hown3.alloc _) (by simp; omega) hgrow
          have hz4 := hgrow.size
          have hz5 : w.heap.size ≤ w2.heap.size := by simp at hz4; omega
          clear hown3 hit3 hb4 hgrow hz4
          go_wp2_with fail
          refine (Tryd.utf8_AppendRune_plain w.heap.size _ _ _ 34 (by omega) (by omega) _ hown4 (by omega) hz5).mono ?_
          rintro e w3 ⟨v2, rfl, hown6, o, hgrow2⟩
          have hit6 := iter_grown (hown4.alloc o) ((Below.heap_alloc _ _ _ ((Array.getElem?_eq_some_iff.1 hit4).1)).trans hit4) hgrow2
          have hb6 := below_grown (hb5.alloc hz5 o) (hown4.alloc o) (by simp; omega) hgrow2
          have HI := Lib.hid hit6
          have HO := Lib.hid hown6
          clear hown4 hit4 hb5 hgrow2 hit6 hown6
          go_wp2
          go_roundw
          case rel =>
            refine ⟨pos + k, place + 1, acc ++ [92] ++ Lib.encodeRune 34, hwd.2.2, by go_num, by omega, ?_, HI.out, ?_, hb6, ?_⟩
            · rw [List.length_append, List.length_append, ← Lib.runeCells_length]; simp only [List.length_cons, List.length_nil]; omega
            · rw [List.length_append, List.length_append, ← Lib.runeCells_length, Lib.byteCells_append, Lib.byteCells_append, Lib.byteCells_encodeRune]
              exact HO.out
            · have := HG.out; simpa using this
          case measure => simp only [World.iterPos, HI.out]; exact HM.out
        · have hb34 : ((r : Int) == 34) = false := by rw [beq_eq_false_iff_ne]; omega
          by_cases h92 : r = 92
          · subst h92
            go_wp2_with fail
            refine hpn.mono ?_
            rintro e w1 ⟨rfl, hb3⟩
            have hown3 := own_below hown2 hb3
            have hit3 : w1.heap[w.heap.size + 1]? = some (.stringIter s (pos + k)) := (hb3.block _ hsz2).trans hit2
            have hz3 := hb3.size
            have hb4 := hb2.trans (hb3.mono (by omega))
            clear hown2 hit2 hb2 hb3 hpn
            go_wp2_with (at_builtin; refine wpList_append_own _ rfl _ _ 51 rfl w.heap.size 5 i0 (.int .u8 0) 1 1 Tryd.underlying51 hi hz0 hz1 hz2 rfl (by decide) _ _ _ rfl (hown3.alloc _) ⟨w1.heap.size, 0, none⟩ 1 1 [.int .u8 92] rfl rfl ?c1 ?c2 ?c3 ?c4 ?c5 ?_)
            case c1 => exact cell_one_new _ _ _
            case c2 => intro u hu; simp at hu; subst hu; rfl
            case c3 => unfold maxLen; omega
            case c4 => omega
            case c5 => simp; omega
            intro v' w2 hown4 hgrow _
            have hit4 := iter_grown (hown3.alloc _) ((Below.heap_alloc _ _ _ (by omega)).trans hit3) hgrow
            have hb5 := below_grown (hb4.alloc (by omega) _) (hown3.alloc _) (by simp; omega) hgrow
            have hz4 := hgrow.size
            have hz5 : w.heap.size ≤ w2.heap.size := by simp at hz4; omega
            clear hown3 hit3 hb4 hgrow hz4
            go_wp2_with fail
            refine (Tryd.utf8_AppendRune_plain w.heap.size _ _ _ 92 (by omega) (by omega) _ hown4 (by omega) hz5).mono ?_
            rintro e w3 ⟨v2, rfl, hown6, o, hgrow2⟩
            have hit6 := iter_grown (hown4.alloc o) ((Below.heap_alloc _ _ _ ((Array.getElem?_eq_some_iff.1 hit4).1)).trans hit4) hgrow2
            have hb6 := below_grown (hb5.alloc hz5 o) (hown4.alloc o) (by simp; omega) hgrow2
            have HI := Lib.hid hit6
            have HO := Lib.hid hown6
            clear hown4 hit4 hb5 hgrow2 hit6 hown6
            go_wp2
            go_roundw
            case rel =>
              refine ⟨pos + k, place + 1, acc ++ [92] ++ Lib.encodeRune 92, hwd.2.2, by go_num, by omega, ?_, HI.out, ?_, hb6, ?_⟩
              · rw [List.length_append, List.length_append, ← Lib.runeCells_length]; simp only [List.length_cons, List.length_nil]; omega
              · rw [List.length_append, List.length_append, ← Lib.runeCells_length, Lib.byteCells_append, Lib.byteCells_append, Lib.byteCells_encodeRune]
                exact HO.out
              · have := HG.out; simpa using this
            case measure => simp only [World.iterPos, HI.out]; exact HM.out
          · have hb92 : ((r : Int) == 92) = false := by rw [beq_eq_false_iff_ne]; omega
            go_wp2_with fail
            refine hpn.mono ?_
            rintro e w1 ⟨rfl, hb3⟩
            have hown3 := own_below hown2 hb3
            have hit3 : w1.heap[w.heap.size + 1]? = some (.stringIter s (pos + k)) := (hb3.block _ hsz2).trans hit2
            have hz3 := hb3.size
            have hb4 := hb2.trans (hb3.mono (by omega))
            clear hown2 hit2 hb2 hb3 hpn
            have hz5 : w.heap.size ≤ w1.heap.size := by omega
            go_wp2_with fail
            refine (Tryd.utf8_AppendRune_plain w.heap.size _ _ _ (r : Int) (by omega) (by omega) _ hown3 (by omega) hz5).mono ?_
            rintro e w3 ⟨v2, rfl, hown6, o, hgrow2⟩
            have hit6 := iter_grown (hown3.alloc o) ((Below.heap_alloc _ _ _ ((Array.getElem?_eq_some_iff.1 hit3).1)).trans hit3) hgrow2
            have hb6 := below_grown (hb4.alloc hz5 o) (hown3.alloc o) (by simp; omega) hgrow2
            have HI := Lib.hid hit6
            have HO := Lib.hid hown6
            clear hown3 hit3 hb4 hgrow2 hit6 hown6
            go_wp2
            go_roundw
            case rel =>
              refine ⟨pos + k, place + 1, acc ++ Lib.encodeRune (r : Int), hwd.2.2, by go_num, by omega, ?_, HI.out, ?_, hb6, ?_⟩
              · rw [List.length_append, ← Lib.runeCells_length]; omega
              · rw [List.length_append, ← Lib.runeCells_length, Lib.byteCells_append, Lib.byteCells_encodeRune]
                exact HO.out
              · have := HG.out; simpa [h34, h92] using this
            case measure => simp only [World.iterPos, HI.out]; exact HM.out
    · have hnx : ∀ ty, (Instr.next (.pointer (some ⟨w.heap.size + 1, 0, none⟩)) true ty).run Tryd.prog wr = _ := fun ty => Lib.run_next_end_at wr (w.heap.size + 1) s pos ty hit hp
      rw [lets_nil s pos hp] at hgo
      have HG := Lib.hid hgo
      clear hgo
      go_wp2_with (at_builtin; refine wpList_append_own _ rfl _ _ 51 rfl w.heap.size 5 i0 (.int .u8 0) 1 1 Tryd.underlying51 hi hz0 hz1 hz2 rfl (by decide) _ _ _ rfl (hown.alloc _) ⟨wr.heap.size, 0, none⟩ 1 1 [.int .u8 34] rfl rfl ?c1 ?c2 ?c3 ?c4 ?c5 ?_)
      case c1 => exact cell_one_new _ _ _
      case c2 => intro u hu; simp at hu; subst hu; rfl
      case c3 => unfold maxLen; omega
      case c4 => omega
      case c5 => simp; omega
      intro v' w1 hown1 hgrow _
      have hconv := run_own_string (P := Tryd.prog) w1 51 9 5 Tryd.underlying51 Tryd.underlying5 Tryd.underlying9 (v := v') (l := acc ++ [34]) (base := w.heap.size) (by
        rw [List.length_append, Lib.byteCells_append]; exact hown1)
      go_wp2
      go_ret3
      refine ⟨ret_res3 HG.out, ?_⟩
      exact (below_grown (hb.alloc (by omega) _) (hown.alloc _) (by simp; omega) hgrow)
end Go.Proofs.YtmolifgjghbfaaaDoor
