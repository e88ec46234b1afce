/- Deed: text's Quote and Letters, the document's too, at deed's seat. -/
import Derived.Test.YtjljbnilckkjnaaDoorW2
import Derived.Test.YtjljbnilckkjnaaDoorShelf
import Derived.Lib.ValidLaws
namespace Go.Proofs.YtjljbnilckkjnaaDoor
open Go.RowKit

/-- The library's tables of UTF-8 are as its text lays them. -/
def Tabs (w : World) : Prop := Lib.Utf8Tabs 0 1 w
theorem Tabs.below {w w' : World} {B : Nat} (h : Tabs w) (hb : Below B w w') (hB : w.heap.size ≤ B) : Tabs w' := Utf8Tabs_below h (hb.mono hB)

/-- Is a letter of rune r and width k a plain one? -/
def plainR (r k : Nat) : Bool := if r = 65533 then decide (1 < k) else (decide (32 ≤ r) && !decide (r = 127))

theorem ret_bool {a b : Bool} (h : a = b) : Ending.returned (.bool a) = .returned (.bool b) := by rw [h]

set_option maxHeartbeats 400000 in
set_option maxRecDepth 100000 in
theorem plain_any (s : ByteArray) (pos r k : Nat) (hp : pos < s.size) (hd : Utf8.decode s pos = (r, k)) (w : World) (hT : Tabs w) :
    Calls Tryd.prog 64 #[.string s, .int .i64 pos, .int .i32 r] w fun e w' => e = .returned (.bool (plainR r k)) ∧ Below w.heap.size w w' := by
  have hr : r ≤ 2147483647 := by have := decode_le s pos; rw [hd] at this; exact this
  have hk : k ≤ 4 := by have := dec_le s pos hp; rw [hd] at this; exact this.2.1
  have hz : (s.extract pos s.size).size ≠ 0 := by rw [ByteArray.size_extract]; omega
  have hgo : Lib.decodeGo (s.extract pos s.size) = (r, k) := by unfold Lib.decodeGo; rw [if_neg hz, dec_extract s pos hp, hd]
  unfold plainR
  by_cases h1 : r = 65533
  · subst h1
    rw [if_pos rfl]
    have hc := Tryd.utf8_DecodeRuneInString (s.extract pos s.size) w hT
    rw [hgo] at hc
    clear hgo hd hz
    go_enter Tryd.func64, Tryd.ntmps64
    go_wp2_with (go_at_call 76; refine hc.mono ?_; rintro e w' ⟨rfl, hb⟩)
    go_ret
    exact ⟨ret_bool (by rw [Bool.eq_iff_iff]; simp; omega), hb⟩
  · rw [if_neg h1]
    have hb1 : ((r : Int) == 65533) = false := by rw [beq_eq_false_iff_ne]; omega
    clear hgo hd hz
    by_cases h2 : 32 ≤ r
    · by_cases h3 : r = 127
      · subst h3
        go_enter Tryd.func64, Tryd.ntmps64
        go_wp2
        go_ret
        exact ⟨ret_bool (by simp), Below.refl _ _⟩
      · have hb3 : ((r : Int) == 127) = false := by rw [beq_eq_false_iff_ne]; omega
        have hb4 : ((r : Int) != 127) = true := by rw [bne_iff_ne]; omega
        go_enter Tryd.func64, Tryd.ntmps64
        go_wp2
        go_ret
        exact ⟨ret_bool (by simp [h3]; omega), Below.refl _ _⟩
    · go_enter Tryd.func64, Tryd.ntmps64
      go_wp2
      go_ret
      exact ⟨ret_bool (by simp), Below.refl _ _⟩

/-- A quoted text, letter by letter: its bytes, the place of a fault, the error. -/
def quoteGo : List (Nat × Nat × Nat) → List UInt8 → Nat → List UInt8 × Nat × Nat
  | [], acc, _ => (acc ++ [34], 0, 0)
  | (_, r, k) :: t, acc, place => if plainR r k then quoteGo t (acc ++ (if r = 34 ∨ r = 92 then [92] else []) ++ Lib.encodeRune (r : Int)) (place + 1) else ([], place, 4)
def quoteF (s : ByteArray) : List UInt8 × Nat × Nat := if 1024 < s.size then ([], 0, 6) else quoteGo (lets s 0) [34] 0
/-- What a text, a number and an error are as results. -/
def res3 (x : List UInt8 × Nat × Nat) : Value := .tuple #[.string ⟨x.1.toArray⟩, .int .i64 x.2.1, .int .i64 x.2.2]
theorem ret_res3 {x : List UInt8 × Nat × Nat} {l : List UInt8} {a b : Nat} (h : (l, a, b) = x) : Ending.returned (.tuple #[.string ⟨l.toArray⟩, .int .i64 a, .int .i64 b]) = .returned (res3 x) := by subst h; rfl

theorem info5 : (Tryd.prog.info? 5).map (fun i => (i.zero, i.size, i.bytes)) = some (some (.int .u8 0), 1, 1) := by kernel_rfl

set_option maxHeartbeats 800000 in
set_option maxRecDepth 100000 in
theorem quote_any (s : ByteArray) (w : World) (hT : Tabs w) :
    Calls Tryd.prog 32 #[.string s] w fun e w' => e = .returned (res3 (quoteF s)) ∧ Below w.heap.size w w' := by
  unfold quoteF
  by_cases hlen : 1024 < s.size
  · rw [if_pos hlen]
    go_enter Tryd.func32, Tryd.ntmps32
    go_wp2
    go_ret3
    exact ⟨rfl, Below.refl _ _⟩
  rw [if_neg hlen]
  obtain ⟨i0, hi, hz0, hz1, hz2⟩ := info_parts info5
  generalize hF : quoteGo (lets s 0) [34] 0 = F
  have HF := Lib.hid hF
  clear hF
  go_enter Tryd.func32, Tryd.ntmps32
  go_wp2
  go_loopw [5, 6, 7, 8] (fun v p _i _r wr => ∃ (pos place : Nat) (acc : List UInt8), pos ≤ s.size ∧ p = .int .i64 place ∧ place ≤ pos ∧ acc.length ≤ 1 + 5 * pos ∧ wr.heap[w.heap.size + 1]? = some (.stringIter s pos) ∧ wr.ownsRow w.heap.size 5 1 v acc.length (Lib.byteCells acc) ∧ Below w.heap.size w wr ∧ quoteGo (lets s pos) acc place = F) (fun _ _ _ _ wr => s.size - wr.iterPos (w.heap.size + 1))
  case atStart =>
    refine ⟨0, 0, [34], Nat.zero_le _, rfl, Nat.le_refl _, by simp, ?_, ?_, ((Below.refl _ w).alloc (Nat.le_refl _) _).alloc (by simp) _, HF.out⟩
    · have := World.iter_heap (w.alloc (.cells #[.int .u8 34] 5)) s 0
      simpa using this
    · exact (World.ownsRow_lit (size := 1) w #[.int .u8 34] 1 (Nat.le_refl _) (by decide) rfl).alloc _
  case round =>
    obtain ⟨pos, place, acc, hle, rfl, hpl, hacc, hit, hown, hb, hgo⟩ := hrel
    have hsz : w.heap.size + 1 < wr.heap.size := (Array.getElem?_eq_some_iff.1 hit).1
    by_cases hp : pos < s.size
    · obtain ⟨r, k, hd⟩ : ∃ r k, Utf8.decode s pos = (r, k) := ⟨_, _, rfl⟩
      have hwd := dec_le s pos hp
      have hd1 := decode_le s pos
      have hnx : ∀ ty, (Instr.next (.pointer (some ⟨w.heap.size + 1, 0, none⟩)) true ty).run Tryd.prog wr = _ := fun ty => Lib.run_next_any_at wr (w.heap.size + 1) s pos ty hit hp
      rw [lets_cons s pos hp] at hgo
      rw [hd] at hwd hd1 hnx hgo
      simp only at hwd hd1 hnx hgo
      have hit2 := Lib.iterAt_heap wr (w.heap.size + 1) s pos (pos + k) hit
      have hb2 := Lib.below_iterAt hb (k := w.heap.size + 1) (by omega) s (pos + k)
      have hown2 := own_iter hown hit (pos + k)
      have hmu : s.size - (pos + k) < s.size - wr.iterPos (w.heap.size + 1) := by simp only [World.iterPos, hit]; omega
      have hsz2 : w.heap.size + 1 < (wr.iterAt (w.heap.size + 1) s (pos + k)).heap.size := by rw [Lib.iterAt_size]; exact hsz
      generalize hW : wr.iterAt (w.heap.size + 1) s (pos + k) = W at *
      clear hW hit hown hb hsz
      have HM := Lib.hid hmu
      have hpn := plain_any s pos r k hp hd W (hT.below hb2 (Nat.le_refl _))
      clear hd hmu
      unfold quoteGo at hgo
      cases hq : plainR r k with
      | false =>
        rw [hq] at hpn hgo
        have HG := Lib.hid hgo
        clear hgo hq
        go_wp2_with (go_at_call 64; refine hpn.mono ?_; rintro e w1 ⟨rfl, hb3⟩)
        go_ret3
        exact ⟨ret_res3 (by have := HG.out; simpa using this), hb2.trans (hb3.mono (by omega))⟩
      | true =>
        rw [hq] at hpn hgo
        rw [if_pos rfl] at hgo
        have HG := Lib.hid hgo
        clear hgo hq
        have he4 := Lib.runeCells_le (r : Int)
        have hel := Lib.runeCells_length (r : Int)
        have hE34 := (Lib.runeCells_le 34).2
        have hE92 := (Lib.runeCells_le 92).2
        by_cases h34 : r = 34
        · subst h34
          go_wp2_with fail
          refine hpn.mono ?_
          rintro e w1 ⟨rfl, hb3⟩
          have hown3 := own_below hown2 hb3
          have hit3 : w1.heap[w.heap.size + 1]? = some (.stringIter s (pos + k)) := (hb3.block _ hsz2).trans hit2
          have hz3 := hb3.size
          have hb4 := hb2.trans (hb3.mono (by omega))
          clear hown2 hit2 hb2 hb3 hpn
          go_wp2_with (at_builtin; refine wpList_append_own _ rfl _ _ 26 rfl w.heap.size 5 i0 (.int .u8 0) 1 1 Tryd.underlying26 hi hz0 hz1 hz2 rfl (by decide) _ _ _ rfl (hown3.alloc _) ⟨w1.heap.size, 0, none⟩ 1 1 [.int .u8 92] rfl rfl ?c1 ?c2 ?c3 ?c4 ?c5 ?_)
          case c1 => exact cell_one_new _ _ _
          case c2 => intro u hu; simp at hu; subst hu; rfl
          case c3 => unfold maxLen; omega
          case c4 => omega
          case c5 => simp; omega
          intro v' w2 hown4 hgrow _
          have hit4 := iter_grown (hown3.alloc _) ((Below.heap_alloc _ _ _ (by omega)).trans hit3) hgrow
          have hb5 := below_grown (hb4.alloc (by omega) _) (hown3.alloc _) (by simp; omega) hgrow
          have hz4 := hgrow.size
          have hz5 : w.heap.size ≤ w2.heap.size := by simp at hz4; omega
          clear hown3 hit3 hb4 hgrow hz4
          go_wp2_with fail
          refine (Tryd.utf8_AppendRune_plain w.heap.size _ _ _ 34 (by omega) (by omega) _ hown4 (by omega) hz5).mono ?_
          rintro e w3 ⟨v2, rfl, hown6, o, hgrow2⟩
          have hit6 := iter_grown (hown4.alloc o) ((Below.heap_alloc _ _ _ ((Array.getElem?_eq_some_iff.1 hit4).1)).trans hit4) hgrow2
          have hb6 := below_grown (hb5.alloc hz5 o) (hown4.alloc o) (by simp; omega) hgrow2
          have HI := Lib.hid hit6
          have HO := Lib.hid hown6
          clear hown4 hit4 hb5 hgrow2 hit6 hown6
          go_wp2
          go_roundw
          case rel =>
            refine ⟨pos + k, place + 1, acc ++ [92] ++ Lib.encodeRune 34, hwd.2.2, by go_num, by omega, ?_, HI.out, ?_, hb6, ?_⟩
            · rw [List.length_append, List.length_append, ← Lib.runeCells_length]; simp only [List.length_cons, List.length_nil]; omega
            · rw [List.length_append, List.length_append, ← Lib.runeCells_length, Lib.byteCells_append, Lib.byteCells_append, Lib.byteCells_encodeRune]
              exact HO.out
            · have := HG.out; simpa using this
          case measure => simp only [World.iterPos, HI.out]; exact HM.out
        · have hb34 : ((r : Int) == 34) = false := by rw [beq_eq_false_iff_ne]; omega
          by_cases h92 : r = 92
          · subst h92
            go_wp2_with fail
            refine hpn.mono ?_
            rintro e w1 ⟨rfl, hb3⟩
            have hown3 := own_below hown2 hb3
            have hit3 : w1.heap[w.heap.size + 1]? = some (.stringIter s (pos + k)) := (hb3.block _ hsz2).trans hit2
            have hz3 := hb3.size
            have hb4 := hb2.trans (hb3.mono (by omega))
            clear hown2 hit2 hb2 hb3 hpn
            go_wp2_with (at_builtin; refine wpList_append_own _ rfl _ _ 26 rfl w.heap.size 5 i0 (.int .u8 0) 1 1 Tryd.underlying26 hi hz0 hz1 hz2 rfl (by decide) _ _ _ rfl (hown3.alloc _) ⟨w1.heap.size, 0, none⟩ 1 1 [.int .u8 92] rfl rfl ?c1 ?c2 ?c3 ?c4 ?c5 ?_)
            case c1 => exact cell_one_new _ _ _
            case c2 => intro u hu; simp at hu; subst hu; rfl
            case c3 => unfold maxLen; omega
            case c4 => omega
            case c5 => simp; omega
            intro v' w2 hown4 hgrow _
            have hit4 := iter_grown (hown3.alloc _) ((Below.heap_alloc _ _ _ (by omega)).trans hit3) hgrow
            have hb5 := below_grown (hb4.alloc (by omega) _) (hown3.alloc _) (by simp; omega) hgrow
            have hz4 := hgrow.size
            have hz5 : w.heap.size ≤ w2.heap.size := by simp at hz4; omega
            clear hown3 hit3 hb4 hgrow hz4
            go_wp2_with fail
            refine (Tryd.utf8_AppendRune_plain w.heap.size _ _ _ 92 (by omega) (by omega) _ hown4 (by omega) hz5).mono ?_
            rintro e w3 ⟨v2, rfl, hown6, o, hgrow2⟩
            have hit6 := iter_grown (hown4.alloc o) ((Below.heap_alloc _ _ _ ((Array.getElem?_eq_some_iff.1 hit4).1)).trans hit4) hgrow2
            have hb6 := below_grown (hb5.alloc hz5 o) (hown4.alloc o) (by simp; omega) hgrow2
            have HI := Lib.hid hit6
            have HO := Lib.hid hown6
            clear hown4 hit4 hb5 hgrow2 hit6 hown6
            go_wp2
            go_roundw
            case rel =>
              refine ⟨pos + k, place + 1, acc ++ [92] ++ Lib.encodeRune 92, hwd.2.2, by go_num, by omega, ?_, HI.out, ?_, hb6, ?_⟩
              · rw [List.length_append, List.length_append, ← Lib.runeCells_length]; simp only [List.length_cons, List.length_nil]; omega
              · rw [List.length_append, List.length_append, ← Lib.runeCells_length, Lib.byteCells_append, Lib.byteCells_append, Lib.byteCells_encodeRune]
                exact HO.out
              · have := HG.out; simpa using this
            case measure => simp only [World.iterPos, HI.out]; exact HM.out
          · have hb92 : ((r : Int) == 92) = false := by rw [beq_eq_false_iff_ne]; omega
            go_wp2_with fail
            refine hpn.mono ?_
            rintro e w1 ⟨rfl, hb3⟩
            have hown3 := own_below hown2 hb3
            have hit3 : w1.heap[w.heap.size + 1]? = some (.stringIter s (pos + k)) := (hb3.block _ hsz2).trans hit2
            have hz3 := hb3.size
            have hb4 := hb2.trans (hb3.mono (by omega))
            clear hown2 hit2 hb2 hb3 hpn
            have hz5 : w.heap.size ≤ w1.heap.size := by omega
            go_wp2_with fail
            refine (Tryd.utf8_AppendRune_plain w.heap.size _ _ _ (r : Int) (by omega) (by omega) _ hown3 (by omega) hz5).mono ?_
            rintro e w3 ⟨v2, rfl, hown6, o, hgrow2⟩
            have hit6 := iter_grown (hown3.alloc o) ((Below.heap_alloc _ _ _ ((Array.getElem?_eq_some_iff.1 hit3).1)).trans hit3) hgrow2
            have hb6 := below_grown (hb4.alloc hz5 o) (hown3.alloc o) (by simp; omega) hgrow2
            have HI := Lib.hid hit6
            have HO := Lib.hid hown6
            clear hown3 hit3 hb4 hgrow2 hit6 hown6
            go_wp2
            go_roundw
            case rel =>
              refine ⟨pos + k, place + 1, acc ++ Lib.encodeRune (r : Int), hwd.2.2, by go_num, by omega, ?_, HI.out, ?_, hb6, ?_⟩
              · rw [List.length_append, ← Lib.runeCells_length]; omega
              · rw [List.length_append, ← Lib.runeCells_length, Lib.byteCells_append, Lib.byteCells_encodeRune]
                exact HO.out
              · have := HG.out; simpa [h34, h92] using this
            case measure => simp only [World.iterPos, HI.out]; exact HM.out
    · have hnx : ∀ ty, (Instr.next (.pointer (some ⟨w.heap.size + 1, 0, none⟩)) true ty).run Tryd.prog wr = _ := fun ty => Lib.run_next_end_at wr (w.heap.size + 1) s pos ty hit hp
      rw [lets_nil s pos hp] at hgo
      have HG := Lib.hid hgo
      clear hgo
      go_wp2_with (at_builtin; refine wpList_append_own _ rfl _ _ 26 rfl w.heap.size 5 i0 (.int .u8 0) 1 1 Tryd.underlying26 hi hz0 hz1 hz2 rfl (by decide) _ _ _ rfl (hown.alloc _) ⟨wr.heap.size, 0, none⟩ 1 1 [.int .u8 34] rfl rfl ?c1 ?c2 ?c3 ?c4 ?c5 ?_)
      case c1 => exact cell_one_new _ _ _
      case c2 => intro u hu; simp at hu; subst hu; rfl
      case c3 => unfold maxLen; omega
      case c4 => omega
      case c5 => simp; omega
      intro v' w1 hown1 hgrow _
      have hconv := run_own_string (P := Tryd.prog) w1 26 9 5 Tryd.underlying26 Tryd.underlying5 Tryd.underlying9 (v := v') (l := acc ++ [34]) (base := w.heap.size) (by
        rw [List.length_append, Lib.byteCells_append]; exact hown1)
      go_wp2
      go_ret3
      refine ⟨ret_res3 HG.out, ?_⟩
      exact (below_grown (hb.alloc (by omega) _) (hown.alloc _) (by simp; omega) hgrow)
theorem empty_iff (s : ByteArray) (h : s.size ≠ 0) : s.toList.isEmpty = false := by
  rw [Lib.toList_data]
  cases h1 : s.data.toList with
  | nil => exact absurd (by rw [Lib.size_eq, h1]; rfl) h
  | cons _ _ => rfl
theorem empty_nil (s : ByteArray) (h : s.size = 0) : s.toList.isEmpty = true := by
  rw [Lib.toList_data]
  have : s.data.toList = [] := List.eq_nil_of_length_eq_zero (by rw [← Lib.size_eq]; exact h)
  rw [this]; rfl

def res2 (x : List UInt8 × Nat) : Value := .tuple #[.string ⟨x.1.toArray⟩, .int .i64 x.2]
end Go.Proofs.YtjljbnilckkjnaaDoor
namespace Go.Proofs.YtjljbnilckkjnaaDoor
open Go.RowKit

/-- A letter's bytes, as a string. -/
def lv (s : ByteArray) (x : Nat × Nat × Nat) : Value := .string (s.extract x.1 (x.1 + x.2.2))
def letV (s : ByteArray) : List Value := (lets s 0).map (lv s)

theorem ext_eq {a b : ByteArray} (h : a.data.toList = b.data.toList) : a = b := by
  rw [← Lib.mk_data a, h, Lib.mk_data b]
theorem ext_head (s : ByteArray) (pos k : Nat) (h : pos + k ≤ s.size) : (s.extract pos s.size).extract 0 k = s.extract pos (pos + k) := by
  apply ext_eq
  rw [Lib.extract_data, Lib.extract_data, Lib.extract_data, List.drop_zero, List.take_take]
  congr 1; omega
theorem ext_tail (s : ByteArray) (pos k : Nat) (h : pos + k ≤ s.size) : (s.extract pos s.size).extract k (s.extract pos s.size).size = s.extract (pos + k) s.size := by
  have e : (s.extract pos s.size).size = s.size - pos := by rw [ByteArray.size_extract]; omega
  apply ext_eq
  rw [e, Lib.extract_data, Lib.extract_data, Lib.extract_data, List.drop_take, List.drop_drop, List.take_take]
  congr 1; omega
theorem ext_all (s : ByteArray) : s.extract 0 s.size = s := by
  apply ext_eq
  rw [Lib.extract_data, List.drop_zero, Nat.sub_zero, Lib.size_eq, List.take_length]
theorem lets_length (s : ByteArray) : ∀ f pos, (letsF s f pos).length ≤ f := by
  intro f
  induction f with
  | zero => intro pos; simp [letsF]
  | succ f ih =>
    intro pos
    unfold letsF
    split
    · simp only [List.length_cons]; have := ih (pos + (Utf8.decode s pos).2); omega
    · simp

theorem info9 : (Tryd.prog.info? 9).map (fun i => (i.zero, i.size, i.bytes)) = some (some (.string ⟨#[]⟩), 1, 16) := by kernel_rfl

set_option maxHeartbeats 800000 in
set_option maxRecDepth 100000 in
theorem letters_any (s : ByteArray) (w : World) (hT : Tabs w) (hs : s.size ≤ 4398046511104) :
    Calls Tryd.prog 66 #[.string s] w fun e w' => ∃ v, e = .returned v ∧ w'.ownsRow w.heap.size 9 1 v (letV s).length (letV s) ∧ Below w.heap.size w w' := by
  obtain ⟨i0, hi, hz0, hz1, hz2⟩ := info_parts info9
  go_enter Tryd.func66, Tryd.ntmps66
  go_wp2
  go_loopw [0, 3, 4, 5] (fun sv v _r _n wr => ∃ (pos : Nat) (t : ByteArray) (done : List Value), pos ≤ s.size ∧ sv = .string t ∧ t = s.extract pos s.size ∧ done.length ≤ pos ∧ wr.ownsRow w.heap.size 9 1 v done.length done ∧ Below w.heap.size w wr ∧ done ++ (lets s pos).map (lv s) = letV s) (fun sv _ _ _ _ => match sv with | .string t => t.size | _ => 0)
  case atStart =>
    refine ⟨0, s, [], Nat.zero_le _, rfl, (ext_all s).symm, by simp, ?_, (Below.refl _ w).alloc (Nat.le_refl _) _, rfl⟩
    exact World.ownsRow_lit (size := 1) w #[] 0 (Nat.le_refl _) (by decide) rfl
  case round =>
    obtain ⟨pos, t, done, hle, rfl, ht, hdl, hown, hb, hL⟩ := hrel
    have hz := hb.size
    have hts : t.size = s.size - pos := by rw [ht, ByteArray.size_extract]; omega
    by_cases hp : pos < s.size
    · obtain ⟨r, k, hd⟩ : ∃ r k, Utf8.decode s pos = (r, k) := ⟨_, _, rfl⟩
      have hwd := dec_le s pos hp
      rw [lets_cons s pos hp] at hL
      rw [hd] at hwd hL
      simp only at hwd hL
      have hc := Tryd.utf8_DecodeRuneInString t wr (hT.below hb (Nat.le_refl _))
      have hgo : Lib.decodeGo t = (r, k) := by unfold Lib.decodeGo; rw [if_neg (by omega), ht, dec_extract s pos hp, hd]
      rw [hgo] at hc
      have e1 : t.extract 0 k = s.extract pos (pos + k) := by rw [ht]; exact ext_head s pos k hwd.2.2
      have e2 : t.extract k t.size = s.extract (pos + k) s.size := by rw [ht]; exact ext_tail s pos k hwd.2.2
      have hpos : 0 < t.size := by omega
      have hk : k ≤ t.size := by omega
      have HT := Lib.hid hts
      have HL := Lib.hid hL
      have H1 := Lib.hid e1
      have H2 := Lib.hid e2
      clear hts hL e1 e2 ht hgo hd
      go_wp2_with fail
      refine hc.mono ?_
      rintro e w1 ⟨rfl, hb1⟩
      have hown1 := own_below hown hb1
      have hz1' := hb1.size
      have hb2 := hb.trans (hb1.mono hz)
      clear hown hb1 hc
      go_wp2_with (at_builtin; refine wpList_append_own _ rfl _ _ 88 rfl w.heap.size 9 i0 (.string ⟨#[]⟩) 1 16 Tryd.underlying88 hi hz0 hz1 hz2 rfl (by decide) _ _ _ rfl (hown1.alloc _) ⟨w1.heap.size, 0, none⟩ 1 1 [.string (t.extract 0 k)] rfl rfl ?c1 ?c2 ?c3 ?c4 ?c5 ?_)
      case c1 => exact cell_one_new _ _ _
      case c2 => intro u hu; simp at hu; subst hu; rfl
      case c3 => unfold maxLen; omega
      case c4 => omega
      case c5 => simp; omega
      intro v' w2 hown2 hgrow _
      have hb3 := below_grown (hb2.alloc (by omega) _) (hown1.alloc _) (by simp; omega) hgrow
      have HO := Lib.hid hown2
      clear hown1 hown2 hgrow hb2
      go_wp2
      go_roundw
      case rel =>
        refine ⟨pos + k, _, done ++ [.string (s.extract pos (pos + k))], hwd.2.2, rfl, H2.out, by simp; omega, ?_, hb3, ?_⟩
        · have := HO.out; rw [H1.out] at this; simpa using this
        · have := HL.out
          rw [List.append_assoc]
          exact this
      case measure =>
        rw [H2.out]
        show (s.extract (pos + k) s.size).size < t.size
        rw [ByteArray.size_extract, HT.out]; omega
    · have hpos : ¬ 0 < t.size := by omega
      rw [lets_nil s pos hp] at hL
      simp only [List.map_nil, List.append_nil] at hL
      subst hL
      go_wp2
      go_ret
      exact ⟨_, rfl, hown, hb⟩
end Go.Proofs.YtjljbnilckkjnaaDoor
namespace Go.Proofs.YtjljbnilckkjnaaDoor
open Go.RowKit

/-- A letter cut out by itself is the same letter. -/
theorem decodeN_cut (n b0 b1 b2 b3 c1 c2 c3 r k : Nat) (h : Lib.decodeN n b0 b1 b2 b3 = (r, k)) (h1 : 1 < k → c1 = b1) (h2 : 2 < k → c2 = b2) (h3 : 3 < k → c3 = b3) : Lib.decodeN k b0 c1 c2 c3 = (r, k) := by
  unfold Lib.decodeN at h
  by_cases a0 : b0 < 128
  · rw [if_pos a0] at h
    injection h with hr hk
    subst hr hk
    unfold Lib.decodeN
    rw [if_pos a0]
  rw [if_neg a0] at h
  have bad : (65533, 1) = (r, k) → Lib.decodeN k b0 c1 c2 c3 = (r, k) := by
    intro e
    injection e with hr hk
    subst hr hk
    unfold Lib.decodeN
    rw [if_neg a0, if_neg (by omega), if_neg (by omega), if_neg (by omega)]
  by_cases a1 : b0 / 32 = 6 ∧ 1 < n ∧ b1 / 64 = 2
  · rw [if_pos a1] at h
    split at h
    · rename_i d
      injection h with hr hk
      subst hk
      have e1 := h1 (by omega)
      subst e1
      unfold Lib.decodeN
      rw [if_neg a0, if_pos ⟨a1.1, by omega, a1.2.2⟩, if_pos d, hr]
    · exact bad h
  rw [if_neg a1] at h
  by_cases a2 : b0 / 16 = 14 ∧ (1 < n ∧ b1 / 64 = 2) ∧ (2 < n ∧ b2 / 64 = 2)
  · rw [if_pos a2] at h
    split at h
    · rename_i d
      injection h with hr hk
      subst hk
      have e1 := h1 (by omega)
      have e2 := h2 (by omega)
      subst e1 e2
      unfold Lib.decodeN
      rw [if_neg a0, if_neg (by omega), if_pos ⟨a2.1, ⟨by omega, a2.2.1.2⟩, by omega, a2.2.2.2⟩, if_pos d, hr]
    · exact bad h
  rw [if_neg a2] at h
  by_cases a3 : b0 / 8 = 30 ∧ (1 < n ∧ b1 / 64 = 2) ∧ (2 < n ∧ b2 / 64 = 2) ∧ (3 < n ∧ b3 / 64 = 2)
  · rw [if_pos a3] at h
    split at h
    · rename_i d
      injection h with hr hk
      subst hk
      have e1 := h1 (by omega)
      have e2 := h2 (by omega)
      have e3 := h3 (by omega)
      subst e1 e2 e3
      unfold Lib.decodeN
      rw [if_neg a0, if_neg (by omega), if_neg (by omega), if_pos ⟨a3.1, ⟨by omega, a3.2.1.2⟩, ⟨by omega, a3.2.2.1.2⟩, by omega, a3.2.2.2.2⟩, if_pos d, hr]
    · exact bad h
  rw [if_neg a3] at h
  exact bad h

theorem piece_getD (s : ByteArray) (p k j : Nat) (hj : j < k) (hpk : p + k ≤ s.size) : (piece s p (p + k)).getD j 0 = s.get! (p + j) := by
  rw [piece_range s p k hpk]
  simp [hj]
theorem piece_decode (s : ByteArray) (p r k : Nat) (hp : p < s.size) (hd : Utf8.decode s p = (r, k)) : Lib.decodeL (piece s p (p + k)) = (r, k) := by
  have hw := dec_le s p hp
  rw [hd] at hw
  simp only at hw
  rw [Lib.decodeL_N, piece_length s p (p + k) (by omega) hw.2.2, show p + k - p = k by omega]
  have g0 := piece_getD s p k 0 (by omega) hw.2.2
  rw [Nat.add_zero] at g0
  rw [g0]
  rw [Lib.decode_at] at hd
  refine decodeN_cut _ _ _ _ _ _ _ _ r k hd (fun h => ?_) (fun h => ?_) (fun h => ?_)
  · rw [piece_getD s p k 1 h hw.2.2]
  · rw [piece_getD s p k 2 h hw.2.2]
  · rw [piece_getD s p k 3 h hw.2.2]
theorem piece_valid (s : ByteArray) (p r k : Nat) (hp : p < s.size) (hd : Utf8.decode s p = (r, k)) : Lib.validD (piece s p (p + k)) = !decide (r = 65533 ∧ k = 1) := by
  have hw := dec_le s p hp
  rw [hd] at hw
  simp only at hw
  have hl := piece_length s p (p + k) (by omega) hw.2.2
  have hne : piece s p (p + k) ≠ [] := by
    intro h
    rw [h] at hl
    simp at hl; omega
  rw [Lib.validD_step _ hne, piece_decode s p r k hp hd]
  simp only
  have hdrop : (piece s p (p + k)).drop k = [] := List.drop_eq_nil_of_le (by rw [hl]; omega)
  rw [hdrop, Lib.validD_nil]
  by_cases h : r = 65533 ∧ k = 1
  · rw [if_pos h]; simp [h]
  · rw [if_neg h]
    have : decide (r = 65533 ∧ k = 1) = false := decide_eq_false h
    rw [this]; rfl

/-- The first byte of a letter. -/
theorem lead_byte (s : ByteArray) (p r k : Nat) (hp : p < s.size) (hd : Utf8.decode s p = (r, k)) : (r < 128 → (s.get! p).toNat = r ∧ k = 1) ∧ (128 ≤ r → 128 ≤ (s.get! p).toNat) := by
  constructor
  · intro h
    have := dec_low s p hp (by rw [hd]; exact h)
    rw [hd] at this
    rw [get_lt s p hp]
    exact this
  · intro h
    have := dec_bytes s p hp (by rw [hd]; exact h) 0 (by have := dec_le s p hp; omega)
    simpa using this

set_option maxHeartbeats 400000 in
theorem refPlain (s : ByteArray) (p r k : Nat) (hp : p < s.size) (hd : Utf8.decode s p = (r, k)) (w : World) (hT : Tabs w) :
    Calls Tryd.prog 67 #[lv s (p, r, k)] w fun e w' => e = .returned (.bool (plainR r k)) ∧ Below w.heap.size w w' := by
  have hw := dec_le s p hp
  rw [hd] at hw
  simp only at hw
  have hlead := lead_byte s p r k hp hd
  have hsz : (s.extract p (p + k)).size = k := by rw [ByteArray.size_extract]; omega
  have hc := Tryd.utf8_ValidString (s.extract p (p + k)) w (by omega) hT
  have he : (s.extract p (p + k)).data.toList = piece s p (p + k) := by rw [piece_eq]
  rw [he, piece_valid s p r k hp hd] at hc
  have hg : (s.extract p (p + k)).get! 0 = s.get! p := by
    have h1 := get_list (s.extract p (p + k)) 0 (by omega)
    rw [← h1]
    apply Option.some.inj
    rw [← List.getElem?_eq_getElem, he, piece_range s p k hw.2.2, List.getElem?_map, List.getElem?_range (by omega)]
    simp
  unfold lv
  simp only
  generalize s.extract p (p + k) = t at *
  have hpos : 0 < t.size := by omega
  have ht0 : t[0].toNat = (s.get! p).toNat := by rw [← get_lt t 0 hpos, hg]
  clear hg he hsz hd
  generalize (s.get! p).toNat = b at *
  rw [← ht0] at hlead
  clear ht0 b
  cases hv : (!decide (r = 65533 ∧ k = 1)) with
  | false =>
    rw [hv] at hc
    have hpl : plainR r k = false := by
      simp only [Bool.not_eq_eq_eq_not, Bool.not_false, decide_eq_true_eq] at hv
      obtain ⟨rfl, rfl⟩ := hv
      rfl
    rw [hpl]
    clear hv hlead hpl
    go_enter Tryd.func67, Tryd.ntmps67
    go_wp2_with (go_at_call 78; refine hc.mono ?_; rintro e w' ⟨rfl, hb⟩)
    go_ret
    exact ⟨rfl, hb⟩
  | true =>
    rw [hv] at hc
    have hpl : plainR r k = (decide (32 ≤ t[0].toNat) && !decide (t[0].toNat = 127)) := by
      unfold plainR
      simp only [Bool.not_eq_eq_eq_not, Bool.not_true, decide_eq_false_iff_not] at hv
      rw [Bool.eq_iff_iff]
      by_cases h1 : r = 65533
      · rw [if_pos h1]; simp; omega
      · rw [if_neg h1]; simp; omega
    rw [hpl]
    clear hv hlead hpl
    by_cases h1 : 32 ≤ t[0].toNat
    · by_cases h2 : t[0].toNat = 127
      · have hb : ((t[0].toNat : Int) != 127) = false := by rw [h2]; rfl
        rw [h2]
        clear h2
        go_enter Tryd.func67, Tryd.ntmps67
        go_wp2_with (go_at_call 78; refine hc.mono ?_; rintro e w' ⟨rfl, hb⟩)
        go_ret
        exact ⟨ret_bool (by simp), hb⟩
      · have hb2 : ((t[0].toNat : Int) != 127) = true := by rw [bne_iff_ne]; omega
        have HN := Lib.hid h2
        clear h2
        go_enter Tryd.func67, Tryd.ntmps67
        go_wp2_with (go_at_call 78; refine hc.mono ?_; rintro e w' ⟨rfl, hb⟩)
        go_ret
        exact ⟨ret_bool (by rw [decide_eq_true h1, decide_eq_false HN.out]; rfl), hb⟩
    · go_enter Tryd.func67, Tryd.ntmps67
      go_wp2_with (go_at_call 78; refine hc.mono ?_; rintro e w' ⟨rfl, hb⟩)
      go_ret
      exact ⟨rfl, hb⟩
end Go.Proofs.YtjljbnilckkjnaaDoor
namespace Go.Proofs.YtjljbnilckkjnaaDoor
open Go.RowKit

theorem own_cells {w : World} {base : Nat} {e : TypeId} {v : Value} {n : Nat} {xs : List Value} (h : w.ownsRow base e 1 v n xs) (hn : 0 < n) : ∃ g cap, v = .slice (some ⟨g, 0, none⟩) n cap ∧ g < w.heap.size ∧ ∀ i, i < n → w.cell? ⟨g, i, none⟩ = xs[i]? := by
  rcases h.2 with ⟨_, h0⟩ | ⟨g, cap, cur, rfl, hb, hgg, rest⟩
  · omega
  · refine ⟨g, cap, rfl, (Array.getElem?_eq_some_iff.1 hgg).1, fun i hi => ?_⟩
    have hl := h.1
    have hx : i < xs.length := by omega
    have := h.cells (g := g) rfl i xs[i] (List.getElem?_eq_getElem hx)
    rw [addr_at] at this
    rw [this, List.getElem?_eq_getElem hx]

/-- Where the letters from a place on stand among all. -/
theorem drop_cons {α : Type} {l t : List α} {x : α} {i : Nat} (h : l.drop i = x :: t) : i < l.length ∧ l[i]? = some x ∧ l.drop (i + 1) = t := by
  have h1 : i < l.length := by
    rcases Nat.lt_or_ge i l.length with h' | h'
    · exact h'
    · rw [List.drop_eq_nil_of_le h'] at h; cases h
  rw [List.drop_eq_getElem_cons h1] at h
  injection h with h2 h3
  exact ⟨h1, by rw [List.getElem?_eq_getElem h1, h2], h3⟩
theorem drop_nil {α : Type} {l : List α} {i : Nat} (h : l.drop i = []) : l.length ≤ i := by
  rcases Nat.lt_or_ge i l.length with h' | h'
  · rw [List.drop_eq_getElem_cons h'] at h; cases h
  · exact h'
theorem letV_at (s : ByteArray) (i : Nat) (x : Nat × Nat × Nat) (h : (lets s 0)[i]? = some x) : (letV s)[i]? = some (lv s x) := by
  unfold letV
  rw [List.getElem?_map, h]; rfl
theorem letV_length (s : ByteArray) : (letV s).length = (lets s 0).length := by simp [letV]

theorem ext_size (s : ByteArray) (p k : Nat) (h : p + k ≤ s.size) : (s.extract p (p + k)).size = k := by rw [ByteArray.size_extract]; omega
theorem ext_get (s : ByteArray) (p k j : Nat) (h : p + k ≤ s.size) (hj : j < k) : (s.extract p (p + k)).get! j = s.get! (p + j) := by
  have hz := ext_size s p k h
  have h1 := get_list (s.extract p (p + k)) j (by omega)
  rw [← h1]
  apply Option.some.inj
  have he : (s.extract p (p + k)).data.toList = piece s p (p + k) := by rw [piece_eq]
  rw [← List.getElem?_eq_getElem, he, piece_range s p k h, List.getElem?_map, List.getElem?_range hj]
  simp

end Go.Proofs.YtjljbnilckkjnaaDoor
namespace Go.Proofs.YtjljbnilckkjnaaDoor
open Go.RowKit

theorem letter_eq (s : ByteArray) (p r k c : Nat) (hp : p < s.size) (hd : Utf8.decode s p = (r, k)) (hc : c < 128) : ((s.extract p (p + k)).toList == [UInt8.ofNat c]) = decide (r = c) := by
  have hw := dec_le s p hp
  rw [hd] at hw
  simp only at hw
  have hl := lead_byte s p r k hp hd
  rw [Bool.eq_iff_iff, beq_iff_eq, decide_eq_true_eq, Lib.toList_data]
  have he : (s.extract p (p + k)).data.toList = piece s p (p + k) := by rw [piece_eq]
  rw [he, piece_range s p k hw.2.2]
  have hcc : (UInt8.ofNat c).toNat = c := by simp; omega
  constructor
  · intro h1
    have h2 := congrArg List.length h1
    simp at h2
    subst h2
    have h3 : s.get! p = UInt8.ofNat c := by
      have := congrArg (·[0]?) h1
      simpa [List.range_succ] using this
    by_cases h : r < 128
    · have := (hl.1 h).1
      rw [h3, hcc] at this
      exact this.symm
    · have := hl.2 (by omega)
      rw [h3, hcc] at this
      omega
  · intro h1
    subst h1
    obtain ⟨h2, rfl⟩ := hl.1 hc
    simp only [List.range_succ, List.range_zero, List.nil_append, List.map_cons, List.map_nil, Nat.add_zero, List.cons.injEq, and_true]
    exact UInt8.toNat_inj.1 (by rw [h2, hcc])

theorem letter_enc (s : ByteArray) (p r k : Nat) (hp : p < s.size) (hd : Utf8.decode s p = (r, k)) (h : r = 65533 → 1 < k) : (s.extract p (p + k)).data.toList = Lib.encodeRune (r : Int) := by
  have := dec_enc s p hp (by rw [hd]; simp only; omega)
  rw [hd] at this
  simp only at this
  rw [this, piece_eq]
theorem plain_width {r k : Nat} (h : plainR r k = true) : r = 65533 → 1 < k := by
  intro hr
  subst hr
  unfold plainR at h
  simpa using h
theorem app_str (a : List UInt8) (t : ByteArray) : (⟨a.toArray⟩ : ByteArray) ++ t = ⟨(a ++ t.data.toList).toArray⟩ := by
  conv => lhs; rw [← Lib.mk_data t]
  rw [ByteArray.mk_append_mk]

set_option maxHeartbeats 1600000 in
set_option maxRecDepth 100000 in
theorem refQuote (s : ByteArray) (w : World) (hT : Tabs w) :
    Calls Tryd.prog 33 #[.string s] w fun e w' => e = .returned (res3 (quoteF s)) ∧ Below w.heap.size w w' := by
  unfold quoteF
  by_cases hlen : 1024 < s.size
  · rw [if_pos hlen]
    go_enter Tryd.func33, Tryd.ntmps33
    go_wp2
    go_ret3
    exact ⟨rfl, Below.refl _ _⟩
  rw [if_neg hlen]
  have hc := letters_any s w hT (by omega)
  rw [letV_length] at hc
  generalize hF : quoteGo (lets s 0) [34] 0 = F
  have HF := Lib.hid hF
  generalize hLL : lets s 0 = L at *
  have HL := Lib.hid hLL
  generalize hn : L.length = n at *
  have HN := Lib.hid hn
  have hnl : n ≤ 1024 := by
    have h1 := lets_length s s.size 0
    have h2 : lets s 0 = letsF s s.size 0 := by unfold lets; rw [Nat.sub_zero]
    rw [← h2, hLL, hn] at h1; omega
  clear hF hLL hn
  go_enter Tryd.func33, Tryd.ntmps33
  go_wp2_with fail
  refine hc.mono ?_
  rintro e w1 ⟨v, rfl, hown, hb⟩
  obtain ⟨va, cap, rfl⟩ := own_shape hown
  have HOWN := Lib.hid hown
  clear hown hc
  go_wp2
  go_loopw [6, 7] (fun ov iv wr => ∃ (i pos : Nat) (acc : List UInt8), iv = .int .i64 i ∧ i ≤ pos ∧ pos ≤ s.size ∧ ov = .string ⟨acc.toArray⟩ ∧ acc.length ≤ 1 + 5 * pos ∧ L.drop i = lets s pos ∧ quoteGo (lets s pos) acc i = F ∧ Below w1.heap.size w1 wr) (fun _ iv _ => n - (intOf iv).toNat)
  case atStart => exact ⟨0, 0, [34], rfl, Nat.le_refl _, Nat.zero_le _, rfl, by simp, by rw [List.drop_zero]; exact HL.out.symm, by rw [HL.out]; exact HF.out, Below.refl _ _⟩
  case round =>
    obtain ⟨i, pos, acc, rfl, hip, hple, rfl, hal, hdr, hgo, hbi⟩ := hrel
    by_cases hp : pos < s.size
    · obtain ⟨r, k, hd⟩ : ∃ r k, Utf8.decode s pos = (r, k) := ⟨_, _, rfl⟩
      have hwd := dec_le s pos hp
      rw [lets_cons s pos hp] at hdr hgo
      rw [hd] at hwd hdr hgo
      simp only at hwd hdr hgo
      obtain ⟨hin, hx, hdr2⟩ := drop_cons hdr
      have hin' : i < n := by have := HN.out; omega
      obtain ⟨g, cap', hv, hg, hcells⟩ := own_cells HOWN.out (by omega)
      injection hv with hva hvn hvc
      subst hva hvc
      have hci0 : w1.cell? ⟨g, i, none⟩ = some (lv s (pos, r, k)) := by
        rw [hcells i hin']
        exact letV_at s i _ (by rw [HL.out]; exact hx)
      have hci := (hbi.cell (p := ⟨g, i, none⟩) hg).trans hci0
      have hpl := refPlain s pos r k hp hd wr (hT.below (hb.trans (hbi.mono hb.size)) (Nat.le_refl _))
      have e34 := letter_eq s pos r k 34 hp hd (by omega)
      have e92 := letter_eq s pos r k 92 hp hd (by omega)
      have hts := ext_size s pos k hwd.2.2
      have henc := letter_enc s pos r k hp hd
      unfold lv at hci hpl
      simp only at hci hpl
      generalize s.extract pos (pos + k) = t at *
      have HD2 := Lib.hid hdr2
      have hz := hbi.size
      clear hdr hx hdr2 hcells hci0 hd hin hvn
      unfold quoteGo at hgo
      cases hq : plainR r k with
      | false =>
        rw [hq] at hpl hgo
        have HG := Lib.hid hgo
        clear hgo hq henc e34 e92
        go_wp2_with (go_at_call 67; refine hpl.mono ?_; rintro e w2 ⟨rfl, hb3⟩)
        go_ret3
        exact ⟨ret_res3 (by have := HG.out; simpa using this), (hb.trans (hbi.mono hb.size)).trans (hb3.mono (by have := hb.size; omega))⟩
      | true =>
        have hE := henc (plain_width hq)
        rw [hq] at hpl hgo
        rw [if_pos rfl] at hgo
        have HG := Lib.hid hgo
        have HE := Lib.hid hE
        clear hgo hq henc hE
        have e34' : (t.toList == [34]) = decide (r = 34) := e34
        have e92' : (t.toList == [92]) = decide (r = 92) := e92
        have htl : t.data.toList.length = t.size := (Lib.size_eq t).symm
        clear e34 e92
        go_wp2_with fail
        refine hpl.mono ?_
        rintro e w2 ⟨rfl, hb3⟩
        have hci2 := (hb3.cell (p := ⟨g, i, none⟩) (by simp; omega)).trans hci
        have hb4 := hbi.trans (hb3.mono hz)
        have HT := Lib.hid htl
        clear hci hbi hb3 hpl htl
        by_cases h34 : r = 34
        · have g34 : (t.toList == [34]) = true := by rw [e34']; exact decide_eq_true h34
          have H3 := Lib.hid h34
          clear e34' e92' h34
          go_wp2
          go_roundw
          case rel =>
            refine ⟨i + 1, pos + k, acc ++ [92] ++ t.data.toList, by go_num, by omega, hwd.2.2, ?_, ?_, HD2.out, ?_, hb4⟩
            · first | rfl | simp only [app_str, ByteArray.mk_append_mk]
            · simp only [List.length_append, List.length_cons, List.length_nil, ← Lib.size_eq]; omega
            · have := HG.out
              rw [HE.out]
              simpa [H3.out] using this
          case measure => simp [intOf]; omega
        · have g34 : (t.toList == [34]) = false := by rw [e34']; exact decide_eq_false h34
          have H3 := Lib.hid h34
          by_cases h92 : r = 92
          · have g92 : (t.toList == [92]) = true := by rw [e92']; exact decide_eq_true h92
            have H9 := Lib.hid h92
            clear e34' e92' h34 h92
            go_wp2
            go_roundw
            case rel =>
              refine ⟨i + 1, pos + k, acc ++ [92] ++ t.data.toList, by go_num, by omega, hwd.2.2, ?_, ?_, HD2.out, ?_, hb4⟩
              · first | rfl | simp only [app_str, ByteArray.mk_append_mk]
              · simp only [List.length_append, List.length_cons, List.length_nil, ← Lib.size_eq]; omega
              · have := HG.out
                rw [HE.out]
                simpa [H9.out] using this
            case measure => simp [intOf]; omega
          · have g92 : (t.toList == [92]) = false := by rw [e92']; exact decide_eq_false h92
            have H9 := Lib.hid h92
            clear e34' e92' h34 h92
            go_wp2
            go_roundw
            case rel =>
              refine ⟨i + 1, pos + k, acc ++ t.data.toList, by go_num, by omega, hwd.2.2, ?_, ?_, HD2.out, ?_, hb4⟩
              · first | rfl | simp only [app_str, ByteArray.mk_append_mk]
              · simp only [List.length_append, ← Lib.size_eq]; omega
              · have := HG.out
                rw [HE.out]
                simpa [H3.out, H9.out] using this
            case measure => simp [intOf]; omega
    · rw [lets_nil s pos hp] at hdr hgo
      have hni := drop_nil hdr
      have hni' : ¬ i < n := by have := HN.out; omega
      have hF : (acc ++ [34], 0, 0) = F := hgo
      have HG := Lib.hid hF
      clear hdr hgo hF
      go_wp2
      go_ret3
      refine ⟨?_, hb.trans (hbi.mono hb.size)⟩
      rw [← HG.out]
      first | rfl | (unfold res3; simp only [app_str, ByteArray.mk_append_mk])
end Go.Proofs.YtjljbnilckkjnaaDoor
