import Derived.Test.YtmolifgjghbfaaaDoorW3
namespace Go.Proofs.YtmolifgjghbfaaaDoor
open Go.RowKit

/-- What a text quotes, letter by letter. -/
def unqGo : List (Nat × Nat × Nat) → List UInt8 → Nat → Bool → List UInt8 × Nat × Nat
  | [], _, place, _ => ([], place, 3)
  | (p, r, k) :: t, acc, place, esc =>
    if quotesR p r k esc = false then ([], place, 4)
    else if p = 0 then unqGo t acc (place + 1) esc
    else if esc = true ∨ (r ≠ 34 ∧ r ≠ 92) then unqGo t (acc ++ Lib.encodeRune (r : Int)) (place + 1) false
    else if r = 92 then unqGo t acc (place + 1) true
    else if 1024 < acc.length then ([], 0, 6) else (acc, p + 1, 0)
def unqF (s : ByteArray) : List UInt8 × Nat × Nat := unqGo (lets s 0) [] 0 false

/-- A letter that may stand in a quoted text takes as many bytes as its rune. -/
theorem enc_width (s : ByteArray) (pos r k : Nat) (hp : pos < s.size) (hd : Utf8.decode s pos = (r, k)) (h : r = 65533 → 1 < k) : (Lib.runeCells (r : Int)).length = k := by
  have := dec_enc s pos hp (by rw [hd]; simp only; omega)
  rw [hd] at this
  simp only at this
  have hw := dec_le s pos hp
  rw [hd] at hw
  simp only at hw
  rw [Lib.runeCells_length, this, piece_length s pos (pos + k) (by omega) hw.2.2]
  omega
theorem quotes_plain {p r k : Nat} {esc : Bool} (h : quotesR p r k esc = true) : r = 65533 → 1 < k := by
  intro hr
  subst hr
  unfold quotesR at h
  split at h
  · simp at h
  · split at h
    · simp at h
    · unfold plainR at h
      simpa using h

set_option maxHeartbeats 1600000 in
set_option maxRecDepth 100000 in
theorem unquote_any (s : ByteArray) (w : World) (hT : Tabs w) (hs : s.size ≤ 140737488355000) :
    Calls Tryd.prog 35 #[.string s] w fun e w' => e = .returned (res3 (unqF s)) ∧ Below w.heap.size w w' := by
  unfold unqF
  generalize hF : unqGo (lets s 0) [] 0 false = F
  have HF := Lib.hid hF
  clear hF
  go_enter Tryd.func35, Tryd.ntmps35
  go_wp2
  go_loopw [5, 6, 7, 8, 9] (fun v p e _i _r wr => ∃ (pos place : Nat) (acc : List UInt8) (esc : Bool), pos ≤ s.size ∧ p = .int .i64 place ∧ e = .bool esc ∧ place ≤ pos ∧ acc.length ≤ pos ∧ wr.heap[w.heap.size]? = some (.stringIter s pos) ∧ wr.ownsRow w.heap.size 5 1 v acc.length (Lib.byteCells acc) ∧ Below w.heap.size w wr ∧ unqGo (lets s pos) acc place esc = F) (fun _ _ _ _ _ wr => s.size - wr.iterPos w.heap.size)
  case atStart =>
    refine ⟨0, 0, [], false, Nat.zero_le _, rfl, rfl, Nat.le_refl _, by simp, ?_, World.ownsRow_nil _ _ _ _, (Below.refl _ w).alloc (Nat.le_refl _) _, HF.out⟩
    have := World.iter_heap w s 0
    simpa using this
  case round =>
    obtain ⟨pos, place, acc, esc, hle, rfl, rfl, hpl, hacc, hit, hown, hb, hgo⟩ := hrel
    have hsz : w.heap.size < wr.heap.size := (Array.getElem?_eq_some_iff.1 hit).1
    by_cases hp : pos < s.size
    · obtain ⟨r, k, hd⟩ : ∃ r k, Utf8.decode s pos = (r, k) := ⟨_, _, rfl⟩
      have hwd := dec_le s pos hp
      have hd1 := decode_le s pos
      have hnx : ∀ ty, (Instr.next (.pointer (some ⟨w.heap.size, 0, none⟩)) true ty).run Tryd.prog wr = _ := fun ty => Lib.run_next_any_at wr w.heap.size s pos ty hit hp
      rw [lets_cons s pos hp] at hgo
      rw [hd] at hwd hd1 hnx hgo
      simp only at hwd hd1 hnx hgo
      have hit2 := Lib.iterAt_heap wr w.heap.size s pos (pos + k) hit
      have hb2 := Lib.below_iterAt hb (k := w.heap.size) (by omega) s (pos + k)
      have hown2 := own_iter hown hit (pos + k)
      have hmu : s.size - (pos + k) < s.size - wr.iterPos w.heap.size := by simp only [World.iterPos, hit]; omega
      have hsz2 : w.heap.size < (wr.iterAt w.heap.size s (pos + k)).heap.size := by rw [Lib.iterAt_size]; exact hsz
      generalize hW : wr.iterAt w.heap.size s (pos + k) = W at *
      clear hW hit hown hb hsz
      have HM := Lib.hid hmu
      have hpn := quotes_any s pos r k esc hp hd W (hT.below hb2 (Nat.le_refl _))
      clear hmu
      unfold unqGo at hgo
      cases hq : quotesR pos r k esc with
      | false =>
        rw [hq] at hpn hgo
        have HG := Lib.hid hgo
        clear hgo hq hd
        go_wp2_with (go_at_call 46; refine hpn.mono ?_; rintro e w1 ⟨rfl, hb3⟩)
        go_ret3
        exact ⟨ret_res3 (by have := HG.out; simpa using this), hb2.trans (hb3.mono (by omega))⟩
      | true =>
        have hwk := enc_width s pos r k hp hd (quotes_plain hq)
        rw [hq] at hpn hgo
        rw [if_neg (by simp)] at hgo
        have HG := Lib.hid hgo
        have HK := Lib.hid hwk
        clear hgo hq hd hwk
        go_wp2_with fail
        refine hpn.mono ?_
        rintro e w1 ⟨rfl, hb3⟩
        have hown3 := own_below hown2 hb3
        have hit3 : w1.heap[w.heap.size]? = some (.stringIter s (pos + k)) := (hb3.block _ hsz2).trans hit2
        have hz3 := hb3.size
        have hb4 := hb2.trans (hb3.mono (by omega))
        clear hown2 hit2 hb2 hb3 hpn
        have hz5 : w.heap.size ≤ w1.heap.size := by omega
        by_cases h0 : pos = 0
        · have hb0 : ((pos : Int) == 0) = true := by rw [beq_iff_eq]; omega
          clear h0
          have H0 := Lib.hid hb0
          have HI := Lib.hid hit3
          have HO := Lib.hid hown3
          clear hit3 hown3
          go_wp2
          go_roundw
          case rel =>
            refine ⟨pos + k, place + 1, acc, esc, hwd.2.2, by go_num, rfl, by omega, by omega, HI.out, HO.out, hb4, ?_⟩
            have := HG.out; rw [if_pos (by have := H0.out; rw [beq_iff_eq] at this; omega)] at this; exact this
          case measure => simp only [World.iterPos, HI.out]; exact HM.out
        · have hb0 : ((pos : Int) == 0) = false := by rw [beq_eq_false_iff_ne]; omega
          cases esc with
          | true =>
            go_wp2_with fail
            refine (Tryd.utf8_AppendRune_plain w.heap.size _ _ _ (r : Int) (by omega) (by omega) _ hown3 (by omega) hz5).mono ?_
            rintro e w3 ⟨v2, rfl, hown6, o, hgrow2⟩
            have hit6 := iter_grown (hown3.alloc o) ((Below.heap_alloc _ _ _ ((Array.getElem?_eq_some_iff.1 hit3).1)).trans hit3) hgrow2
            have hb6 := below_grown (hb4.alloc hz5 o) (hown3.alloc o) (by simp; omega) hgrow2
            have HI := Lib.hid hit6
            have HO := Lib.hid hown6
            clear hown3 hit3 hb4 hgrow2 hit6 hown6
            go_wp2
            go_roundw
            case rel =>
              refine ⟨pos + k, place + 1, acc ++ Lib.encodeRune (r : Int), false, hwd.2.2, by go_num, rfl, by omega, ?_, HI.out, ?_, hb6, ?_⟩
              · rw [List.length_append, ← Lib.runeCells_length, HK.out]; omega
              · rw [List.length_append, ← Lib.runeCells_length, Lib.byteCells_append, Lib.byteCells_encodeRune]
                exact HO.out
              · have := HG.out; rw [if_neg h0] at this; simpa using this
            case measure => simp only [World.iterPos, HI.out]; exact HM.out
          | false =>
            by_cases h34 : r = 34
            · have hb34 : ((r : Int) == 34) = true := by rw [beq_iff_eq]; omega
              have hn34 : ((r : Int) != 34) = false := by rw [h34]; rfl
              have hb92 : ((r : Int) == 92) = false := by rw [h34]; rfl
              have hn92 : ((r : Int) != 92) = true := by rw [h34]; rfl
              have hres : (if 1024 < acc.length then (([], 0, 6) : List UInt8 × Nat × Nat) else (acc, pos + 1, 0)) = F := by
                have := HG.out
                rw [if_neg h0, if_neg (by simp [h34]), if_neg (by omega)] at this
                exact this
              clear h34
              have hst := run_own_string (P := Tryd.prog) w1 51 9 5 Tryd.underlying51 Tryd.underlying5 Tryd.underlying9 (l := acc) hown3
              obtain ⟨va, vc, rfl⟩ := own_shape hown3
              clear hown3 hit3
              by_cases h1024 : 1024 < acc.length
              · rw [if_pos h1024] at hres
                have HR := Lib.hid hres
                clear hres
                go_wp2
                go_ret3
                exact ⟨ret_res3 HR.out, hb4⟩
              · rw [if_neg h1024] at hres
                have HR := Lib.hid hres
                clear hres
                go_wp2
                go_ret3
                exact ⟨ret_res3 HR.out, hb4⟩
            · have hb34 : ((r : Int) == 34) = false := by rw [beq_eq_false_iff_ne]; omega
              have hn34 : ((r : Int) != 34) = true := by rw [bne_iff_ne]; omega
              by_cases h92 : r = 92
              · have hb92 : ((r : Int) == 92) = true := by rw [beq_iff_eq]; omega
                have hn92 : ((r : Int) != 92) = false := by rw [h92]; rfl
                have H92 := Lib.hid h92
                clear h92
                have HI := Lib.hid hit3
                have HO := Lib.hid hown3
                clear hit3 hown3
                go_wp2
                go_roundw
                case rel =>
                  refine ⟨pos + k, place + 1, acc, true, hwd.2.2, by go_num, rfl, by omega, by omega, HI.out, HO.out, hb4, ?_⟩
                  have := HG.out; rw [if_neg h0, if_neg (by have := H92.out; simp; omega), if_pos H92.out] at this; exact this
                case measure => simp only [World.iterPos, HI.out]; exact HM.out
              · have hb92 : ((r : Int) == 92) = false := by rw [beq_eq_false_iff_ne]; omega
                have hn92 : ((r : Int) != 92) = true := by rw [bne_iff_ne]; omega
                go_wp2_with fail
                refine (Tryd.utf8_AppendRune_plain w.heap.size _ _ _ (r : Int) (by omega) (by omega) _ hown3 (by omega) hz5).mono ?_
                rintro e w3 ⟨v2, rfl, hown6, o, hgrow2⟩
                have hit6 := iter_grown (hown3.alloc o) ((Below.heap_alloc _ _ _ ((Array.getElem?_eq_some_iff.1 hit3).1)).trans hit3) hgrow2
                have hb6 := below_grown (hb4.alloc hz5 o) (hown3.alloc o) (by simp; omega) hgrow2
                have HI := Lib.hid hit6
                have HO := Lib.hid hown6
                clear hown3 hit3 hb4 hgrow2 hit6 hown6
                go_wp2
                go_roundw
                case rel =>
                  refine ⟨pos + k, place + 1, acc ++ Lib.encodeRune (r : Int), false, hwd.2.2, by go_num, rfl, by omega, ?_, HI.out, ?_, hb6, ?_⟩
                  · rw [List.length_append, ← Lib.runeCells_length, HK.out]; omega
                  · rw [List.length_append, ← Lib.runeCells_length, Lib.byteCells_append, Lib.byteCells_encodeRune]
                    exact HO.out
                  · have := HG.out; rw [if_neg h0, if_pos (Or.inr ⟨h34, h92⟩)] at this; exact this
                case measure => simp only [World.iterPos, HI.out]; exact HM.out
    · have hnx : ∀ ty, (Instr.next (.pointer (some ⟨w.heap.size, 0, none⟩)) true ty).run Tryd.prog wr = _ := fun ty => Lib.run_next_end_at wr w.heap.size s pos ty hit hp
      rw [lets_nil s pos hp] at hgo
      have HG := Lib.hid hgo
      clear hgo
      go_wp2
      go_ret3
      exact ⟨ret_res3 HG.out, hb⟩
end Go.Proofs.YtmolifgjghbfaaaDoor
