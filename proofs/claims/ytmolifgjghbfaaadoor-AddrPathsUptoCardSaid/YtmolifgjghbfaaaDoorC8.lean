/- The code's Same, User, local, domain, Print. -/
import Derived.Test.YtmolifgjghbfaaaDoorC7
namespace Go.Proofs.YtmolifgjghbfaaaDoor
open Go.RowKit

def locF (l : List UInt8) : Bool := !l.isEmpty && l.all fun b => printR b.toNat
def domF (l : List UInt8) : Bool := decide ((readF l 6 0 0).1 = 7) && (low l == l)
def outF (l : List UInt8) : List UInt8 := if (readF l 0 0 0).1 = 1 then l else (quoteF ⟨l.toArray⟩).1
def printF (loc dom : List UInt8) : List UInt8 × Nat :=
  if locF loc = false then ([], 4) else if domF dom = false then ([], 4) else if 64 < loc.length ∨ 255 < dom.length then ([], 6) else (outF loc ++ 64 :: dom, 0)

set_option maxHeartbeats 400000 in
theorem user_any (x d : ByteArray) (w : World) :
    Calls Tryd.prog 18 #[.agg #[.string x, .string d]] w fun e w' => e = .returned (.string ⟨(low x.data.toList).toArray⟩) ∧ Below w.heap.size w w' := by
  go_enter Tryd.func18, Tryd.ntmps18
  go_wp2_with (go_at_call 31; refine (lower x _).mono ?_; rintro e w1 ⟨rfl, hb1⟩)
  go_ret
  exact ⟨rfl, ((Below.refl _ w).alloc (Nat.le_refl _) _).trans (hb1.mono (by simp))⟩

def sameA (x d y f : ByteArray) : Bool := (x.data.toList == y.data.toList) && (low d.data.toList == low f.data.toList)
set_option maxHeartbeats 400000 in
theorem sameA_any (x d y f : ByteArray) (w : World) :
    Calls Tryd.prog 17 #[.agg #[.string x, .string d], .agg #[.string y, .string f]] w fun e w' => e = .returned (.bool (sameA x d y f)) ∧ Below w.heap.size w w' := by
  unfold sameA
  by_cases h : x.data.toList = y.data.toList
  · have e1 : (x.toList == y.toList) = true := by rw [Lib.toList_data, Lib.toList_data, beq_iff_eq]; exact h
    rw [show (x.data.toList == y.data.toList) = true by rw [beq_iff_eq]; exact h]
    clear h
    go_enter Tryd.func17, Tryd.ntmps17
    go_wp2_with (go_at_call 30; refine (same d f _).mono ?_; rintro e w1 ⟨rfl, hb1⟩)
    go_ret
    exact ⟨ret_b (by simp), (((Below.refl _ w).alloc (Nat.le_refl _) _).alloc (by simp) _).trans (hb1.mono (by simp; omega))⟩
  · have e1 : (x.toList == y.toList) = false := by rw [Lib.toList_data, Lib.toList_data, beq_eq_false_iff_ne]; exact h
    rw [show (x.data.toList == y.data.toList) = false by rw [beq_eq_false_iff_ne]; exact h]
    clear h
    go_enter Tryd.func17, Tryd.ntmps17
    go_wp2
    go_ret
    exact ⟨ret_b (by simp), ((Below.refl _ w).alloc (Nat.le_refl _) _).alloc (by simp) _⟩

set_option maxHeartbeats 1000000 in
set_option maxRecDepth 100000 in
theorem local_any (s : ByteArray) (w : World) :
    Calls Tryd.prog 24 #[.string s] w fun e w' => e = .returned (.bool (locF s.data.toList)) ∧ Below w.heap.size w w' := by
  unfold locF
  generalize hF : (s.data.toList.all fun b => printR b.toNat) = F
  have HF := Lib.hid hF
  have hemp : s.data.toList.isEmpty = decide (s.size = 0) := by
    rw [Lib.size_eq]; cases s.data.toList <;> simp
  rw [hemp]
  clear hF hemp
  go_enter Tryd.func24, Tryd.ntmps24
  go_wp2
  go_loopw [4] (fun _r wr => ∃ (pos : Nat), pos ≤ s.size ∧ wr.heap[w.heap.size]? = some (.stringIter s pos) ∧ Below w.heap.size w wr ∧ ((s.data.toList.drop pos).all fun b => printR b.toNat) = F) (fun _ wr => s.size - wr.iterPos w.heap.size)
  case atStart =>
    refine ⟨0, Nat.zero_le _, ?_, (Below.refl _ w).alloc (Nat.le_refl _) _, HF.out⟩
    have := World.iter_heap w s 0
    simpa using this
  case round =>
    obtain ⟨pos, hle, hit, hb, hgo⟩ := hrel
    by_cases hp : pos < s.size
    · obtain ⟨r, k, hd⟩ : ∃ r k, Utf8.decode s pos = (r, k) := ⟨_, _, rfl⟩
      have hrk := dec_ok s pos r k hd
      have hwd := dec_le s pos hp
      have hnx : ∀ ty, (Instr.next (.pointer (some ⟨w.heap.size, 0, none⟩)) true ty).run Tryd.prog wr = _ := fun ty => Lib.run_next_any_at wr w.heap.size s pos ty hit hp
      rw [list_at s pos hp, List.all_cons] at hgo
      have hlow : r < 128 → (s[pos]'hp).toNat = r ∧ k = 1 := by
        intro h
        have := dec_low s pos hp (by rw [hd]; exact h)
        rw [hd] at this; exact this
      have hhigh : 128 ≤ r → 128 ≤ (s[pos]'hp).toNat := by
        intro h
        rcases Nat.lt_or_ge (s[pos]'hp).toNat 128 with h' | h'
        · have := dec_ascii s pos hp h'
          rw [hd] at this
          injection this with h1 h2; omega
        · exact h'
      rw [hd] at hwd hnx
      simp only at hwd hnx
      have hit2 := Lib.iterAt_heap wr w.heap.size s pos (pos + k) hit
      have hsz : w.heap.size < wr.heap.size := (Array.getElem?_eq_some_iff.1 hit).1
      have hb2 := Lib.below_iterAt hb (k := w.heap.size) (by omega) s (pos + k)
      have hmu : s.size - (pos + k) < s.size - wr.iterPos w.heap.size := by simp only [World.iterPos, hit]; omega
      generalize hW : wr.iterAt w.heap.size s (pos + k) = W at *
      clear hW hit hb hd hsz
      have hn := printable_any r W (by have := hrk.1; omega)
      have hkey : printR (s[pos]'hp).toNat = printR r := by
        by_cases h : r < 128
        · rw [(hlow h).1]
        · have h1 : printR (s[pos]'hp).toNat = false := by
            cases hc : printR (s[pos]'hp).toNat with
            | false => rfl
            | true => have := print_low hc; have := hhigh (by omega); omega
          have h2 : printR r = false := by
            cases hc : printR r with
            | false => rfl
            | true => have := print_low hc; omega
          rw [h1, h2]
      rw [hkey] at hgo
      cases hpr : printR r with
      | false =>
        rw [hpr] at hn hgo
        have HG := Lib.hid hgo
        clear hgo hpr hkey hlow hhigh hit2 hmu
        go_wp2_with (go_at_call 36; refine hn.mono ?_; rintro e w3 ⟨rfl, rfl⟩)
        go_ret
        exact ⟨ret_b (by rw [← HG.out]; simp), hb2⟩
      | true =>
        rw [hpr] at hn hgo
        have hk1 : k = 1 := by
          by_cases h : r < 128
          · exact (hlow h).2
          · have := print_low hpr; omega
        subst hk1
        have HG := Lib.hid hgo
        have HI := Lib.hid hit2
        have HM := Lib.hid hmu
        clear hgo hpr hkey hlow hhigh hit2 hmu
        go_wp2_with (go_at_call 36; refine hn.mono ?_; rintro e w3 ⟨rfl, rfl⟩)
        refine ⟨⟨pos + 1, hwd.2.2, HI.out, hb2, by have := HG.out; simpa using this⟩, ?_⟩
        simp only [World.iterPos, HI.out]; exact HM.out
    · have hnx : ∀ ty, (Instr.next (.pointer (some ⟨w.heap.size, 0, none⟩)) true ty).run Tryd.prog wr = _ := fun ty => Lib.run_next_end_at wr w.heap.size s pos ty hit hp
      have hdn : s.data.toList.drop pos = [] := List.drop_eq_nil_of_le (by rw [← Lib.size_eq]; omega)
      rw [hdn] at hgo
      have HG := Lib.hid hgo
      clear hgo hdn
      by_cases h0 : s.size = 0
      · have hne := empty_nil s h0
        go_wp2
        go_ret
        exact ⟨ret_b (by simp [h0]), hb⟩
      · have hne := empty_iff s h0
        go_wp2
        go_ret
        exact ⟨ret_b (by rw [← HG.out]; simp [h0]), hb⟩

set_option maxHeartbeats 400000 in
theorem domain_any (s : ByteArray) (w : World) (hz : s.size ≤ 140737488355000) :
    Calls Tryd.prog 25 #[.string s] w fun e w' => e = .returned (.bool (domF s.data.toList)) ∧ Below w.heap.size w w' := by
  have hR := read_any s 6 w (by omega) (by omega)
  unfold domF
  by_cases h7 : (readF s.data.toList 6 0 0).1 = 7
  · have e1 : res2n (readF s.data.toList 6 0 0) = .tuple #[.int .i64 7, .int .i64 (readF s.data.toList 6 0 0).2] := by unfold res2n; rw [h7]; rfl
    rw [e1] at hR
    rw [decide_eq_true h7]
    generalize (readF s.data.toList 6 0 0).2 = n at *
    clear h7 e1
    go_enter Tryd.func25, Tryd.ntmps25
    go_wp2_with (first | (go_at_call 20; refine hR.mono ?_; rintro e w1 ⟨rfl, hb1⟩) | (go_at_call 31; refine (lower s _).mono ?_; rintro e w2 ⟨rfl, hb2⟩))
    go_ret
    exact ⟨ret_b (by rw [Bool.true_and, ← Lib.toList_data s]), hb1.trans (hb2.mono hb1.size)⟩
  · rw [decide_eq_false h7]
    have e1 : res2n (readF s.data.toList 6 0 0) = .tuple #[.int .i64 (readF s.data.toList 6 0 0).1, .int .i64 (readF s.data.toList 6 0 0).2] := rfl
    rw [e1] at hR
    generalize (readF s.data.toList 6 0 0).2 = n at *
    generalize (readF s.data.toList 6 0 0).1 = f at *
    have b7 : ((f : Int) == 7) = false := by rw [beq_eq_false_iff_ne]; omega
    clear h7 e1
    go_enter Tryd.func25, Tryd.ntmps25
    go_wp2_with (go_at_call 20; refine hR.mono ?_; rintro e w1 ⟨rfl, hb1⟩)
    go_ret
    exact ⟨ret_b (by simp), hb1⟩
end Go.Proofs.YtmolifgjghbfaaaDoor
