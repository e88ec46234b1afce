/- The code's machine: read. -/
import Derived.Test.YtmolifgjghbfaaaDoorC3
namespace Go.Proofs.YtmolifgjghbfaaaDoor
open Go.RowKit

def res2n (x : Nat × Nat) : Value := .tuple #[.int .i64 x.1, .int .i64 x.2]
theorem ret_res2n {x : Nat × Nat} {a b : Nat} (h : (a, b) = x) : Ending.returned (.tuple #[.int .i64 a, .int .i64 b]) = .returned (res2n x) := by subst h; rfl
theorem readF_cons (b : UInt8) (t : List UInt8) (far len pos : Nat) : readF (b :: t) far len pos = if nextF far len b.toNat = 9 then (9, pos) else readF t (nextF far len b.toNat) (lenF (nextF far len b.toNat) len) (pos + 1) := rfl
theorem next_le (far len r : Nat) : nextF far len r ≤ 9 := by
  have h1 := nextWord_cases r
  have h2 := label_cases far len r
  unfold nextF nextSignedF
  repeat' split
  all_goals omega
theorem list_at (s : ByteArray) (pos : Nat) (h : pos < s.size) : s.data.toList.drop pos = s[pos] :: s.data.toList.drop (pos + 1) := by
  have hp' : pos < s.data.toList.length := by rw [← Lib.size_eq]; exact h
  rw [List.drop_eq_getElem_cons hp']; rfl

set_option maxHeartbeats 2000000 in
set_option maxRecDepth 100000 in
theorem read_any (s : ByteArray) (far0 : Nat) (w : World) (hs : s.size ≤ 9223372036854775807) (hf : far0 ≤ 8) :
    Calls Tryd.prog 20 #[.int .i64 far0, .string s] w fun e w' => e = .returned (res2n (readF s.data.toList far0 0 0)) ∧ Below w.heap.size w w' := by
  generalize hF : readF s.data.toList far0 0 0 = F
  have HF := Lib.hid hF
  clear hF
  go_enter Tryd.func20, Tryd.ntmps20
  go_wp2
  go_loopw [0, 6, 7, 8] (fun fv lv _i _r wr => ∃ (far len pos : Nat), fv = .int .i64 far ∧ far ≤ 8 ∧ lv = .int .i64 len ∧ len ≤ pos ∧ pos ≤ s.size ∧ wr.heap[w.heap.size]? = some (.stringIter s pos) ∧ Below w.heap.size w wr ∧ readF (s.data.toList.drop pos) far len pos = F) (fun _ _ _ _ wr => s.size - wr.iterPos w.heap.size)
  case atStart =>
    refine ⟨far0, 0, 0, rfl, hf, rfl, Nat.le_refl _, Nat.zero_le _, ?_, (Below.refl _ w).alloc (Nat.le_refl _) _, HF.out⟩
    have := World.iter_heap w s 0
    simpa using this
  case round =>
    obtain ⟨far, len, pos, rfl, hfar, rfl, hlen, hle, hit, hb, hgo⟩ := hrel
    by_cases hp : pos < s.size
    · obtain ⟨r, k, hd⟩ : ∃ r k, Utf8.decode s pos = (r, k) := ⟨_, _, rfl⟩
      have hrk := dec_ok s pos r k hd
      have hwd := dec_le s pos hp
      have hnx : ∀ ty, (Instr.next (.pointer (some ⟨w.heap.size, 0, none⟩)) true ty).run Tryd.prog wr = _ := fun ty => Lib.run_next_any_at wr w.heap.size s pos ty hit hp
      rw [list_at s pos hp, readF_cons] at hgo
      have hlow : r < 128 → (s[pos]'hp).toNat = r ∧ k = 1 := by
        intro h
        have := dec_low s pos hp (by rw [hd]; exact h)
        rw [hd] at this; exact this
      have hhigh : 128 ≤ r → 128 ≤ (s[pos]'hp).toNat := by
        intro h
        rcases Nat.lt_or_ge (s[pos]'hp).toNat 128 with h' | h'
        · have := dec_ascii s pos hp h'
          rw [hd] at this
          injection this with h1 h2; omega
        · exact h'
      rw [hd] at hwd hnx
      simp only at hwd hnx
      have hit2 := Lib.iterAt_heap wr w.heap.size s pos (pos + k) hit
      have hsz : w.heap.size < wr.heap.size := (Array.getElem?_eq_some_iff.1 hit).1
      have hb2 := Lib.below_iterAt hb (k := w.heap.size) (by omega) s (pos + k)
      have hmu : s.size - (pos + k) < s.size - wr.iterPos w.heap.size := by simp only [World.iterPos, hit]; omega
      have hz2 : (wr.iterAt w.heap.size s (pos + k)).heap.size = wr.heap.size := by unfold World.iterAt; simp
      generalize hW : wr.iterAt w.heap.size s (pos + k) = W at *
      clear hW hit hb hd
      have hn := next_any far len r W hrk (by omega) hfar
      have hn9 := next_le far len r
      have hkey : nextF far len (s[pos]'hp).toNat = nextF far len r := by
        by_cases h : r < 128
        · rw [(hlow h).1]
        · rw [next_high _ _ _ (by have := hhigh (by omega); omega), next_high _ _ _ (by omega)]
      rw [hkey] at hgo
      by_cases h9 : nextF far len r = 9
      · rw [if_pos h9] at hgo
        rw [h9] at hn
        have HG := Lib.hid hgo
        clear hgo h9 hkey hlow hhigh hit2 hmu hn9 hz2
        go_wp2_with (go_at_call 33; refine hn.mono ?_; rintro e w3 ⟨rfl, hb3⟩)
        go_ret2
        exact ⟨ret_res2n HG.out, hb2.trans (hb3.mono hb2.size)⟩
      · rw [if_neg h9] at hgo
        have hk1 : k = 1 := by
          by_cases h : r < 128
          · exact (hlow h).2
          · exact absurd (next_high _ _ _ (by omega)) h9
        subst hk1
        clear hlow hhigh hkey
        generalize hnf : nextF far len r = nf at *
        have e9 : ((nf : Int) == 9) = false := by rw [beq_eq_false_iff_ne]; omega
        have HI := Lib.hid hit2
        have HM := Lib.hid hmu
        have HZ := Lib.hid hz2
        by_cases h7 : nf = 7
        · subst h7
          rw [show lenF 7 len = len + 1 from rfl] at hgo
          have HG := Lib.hid hgo
          clear hgo h9 hit2 hmu hn9 hz2 hnf
          go_wp2_with (go_at_call 33; refine hn.mono ?_; rintro e w3 ⟨rfl, hb3⟩)
          have hi3 : w3.heap[w.heap.size]? = some (.stringIter s (pos + 1)) := (hb3.block _ (by rw [HZ.out]; exact hsz)).trans HI.out
          refine ⟨⟨7, len + 1, pos + 1, rfl, by omega, by go_num, by omega, hwd.2.2, hi3, hb2.trans (hb3.mono hb2.size), HG.out⟩, ?_⟩
          simp only [World.iterPos, hi3]; exact HM.out
        by_cases h8 : nf = 8
        · subst h8
          rw [show lenF 8 len = len + 1 from rfl] at hgo
          have HG := Lib.hid hgo
          clear hgo h9 hit2 hmu hn9 hz2 hnf h7
          go_wp2_with (go_at_call 33; refine hn.mono ?_; rintro e w3 ⟨rfl, hb3⟩)
          have hi3 : w3.heap[w.heap.size]? = some (.stringIter s (pos + 1)) := (hb3.block _ (by rw [HZ.out]; exact hsz)).trans HI.out
          refine ⟨⟨8, len + 1, pos + 1, rfl, by omega, by go_num, by omega, hwd.2.2, hi3, hb2.trans (hb3.mono hb2.size), HG.out⟩, ?_⟩
          simp only [World.iterPos, hi3]; exact HM.out
        · have e7 : ((nf : Int) == 7) = false := by rw [beq_eq_false_iff_ne]; omega
          have e8 : ((nf : Int) == 8) = false := by rw [beq_eq_false_iff_ne]; omega
          rw [show lenF nf len = 0 by unfold lenF; rw [if_neg (by omega)]] at hgo
          have HG := Lib.hid hgo
          clear hgo hit2 hmu hz2 hnf h7 h8
          go_wp2_with (go_at_call 33; refine hn.mono ?_; rintro e w3 ⟨rfl, hb3⟩)
          have hi3 : w3.heap[w.heap.size]? = some (.stringIter s (pos + 1)) := (hb3.block _ (by rw [HZ.out]; exact hsz)).trans HI.out
          refine ⟨⟨nf, 0, pos + 1, rfl, by omega, rfl, by omega, hwd.2.2, hi3, hb2.trans (hb3.mono hb2.size), HG.out⟩, ?_⟩
          simp only [World.iterPos, hi3]; exact HM.out
    · have hnx : ∀ ty, (Instr.next (.pointer (some ⟨w.heap.size, 0, none⟩)) true ty).run Tryd.prog wr = _ := fun ty => Lib.run_next_end_at wr w.heap.size s pos ty hit hp
      have he : pos = s.size := by omega
      have hdn : s.data.toList.drop pos = [] := List.drop_eq_nil_of_le (by rw [← Lib.size_eq]; omega)
      rw [hdn, he] at hgo
      have HG := Lib.hid hgo
      clear hgo hdn he
      go_wp2
      go_ret2
      exact ⟨ret_res2n HG.out, hb⟩
end Go.Proofs.YtmolifgjghbfaaaDoor
