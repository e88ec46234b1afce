/- Disk, the document's own: Write in all cases, Sure, Read. -/
import Derived.Test.YtohmofhpbmhhjaaE5
namespace Go.Proofs.Ytohmofhpbmhhjaa
open Go Go.RowKit

theorem rwrite_any {O : Nat → Prop} {w : World} {D : Nat} {pv lv : Value} {s : St} (h : RDsk O w D pv lv s) (i : Int) (v : Value) (l : List UInt8) (hv : Byz w v l) (hvo : ∀ g, v.ownBlock = some g → l ≠ [] → g ≠ D) (hn : s.waits.length + 1 ≤ 1000) :
    Calls Try.prog 31 #[.pointer (some ⟨D, 0, none⟩), .int .i64 i, v] w fun e w' => e = .returned (.int .i64 ((s.wrote i l).2 : Nat)) ∧ RNow O w D (s.wrote i l).1 w' := by
  unfold St.wrote
  have c0 := h.c0
  have c2 := h.c2
  have hgw : s.go.1.waits = s.waits := by unfold St.go; split <;> rfl
  obtain ⟨pg, pc, rfl, _⟩ := h.pshape
  obtain ⟨va, vc, rfl⟩ := hv.1
  cases hd : s.down
  · rw [hd] at c2
    rw [if_neg (by simp)]
    by_cases hi : 0 ≤ i ∧ i < (s.sure.length : Int)
    · rw [if_neg (by simpa using hi)]
      by_cases hl : 64 < l.length
      · rw [if_pos hl]
        have hl' : 64 < (l.length : Int) := by omega
        have hi1 : ¬ i < 0 := by omega
        have hi2 : ¬ (s.sure.length : Int) ≤ i := by omega
        have H := Lib.hid (RNow.same h)
        clear hl hi hd h hv hvo hn hgw
        go_enter Try.func31, Try.ntmps31
        go_wp2
        go_ret
        exact ⟨rfl, H.out⟩
      · rw [if_neg hl]
        cases hg : s.go.2
        · rw [if_neg (by simp)]
          obtain ⟨i', rfl⟩ : ∃ i' : Nat, i = (i' : Int) := ⟨i.toNat, by omega⟩
          rw [Int.toNat_natCast, hgw]
          exact rwrite_ok h hd i' (by omega) _ l hv hvo (by omega) hg hn
        · rw [if_pos rfl]
          have hl' : ¬ 64 < (l.length : Int) := by omega
          have hi1 : ¬ i < 0 := by omega
          have hi2 : ¬ (s.sure.length : Int) ≤ i := by omega
          have hdone := rdone_any h hd
          rw [hg] at hdone
          have HD := Lib.hid hdone
          clear hl hi hd h hv hvo hn hgw hdone hg
          go_enter Try.func31, Try.ntmps31
          go_wp2_with fail
          refine HD.out.mono ?_
          rintro e w1 ⟨rfl, h1, f1⟩
          have N := Lib.hid (RNow.own h1 f1)
          clear h1 f1
          go_wp2
          go_ret
          exact ⟨rfl, N.out⟩
    · rw [if_pos hi]
      have H := Lib.hid (RNow.same h)
      by_cases h0 : i < 0
      · clear hi hd h hv hvo hn hgw
        go_enter Try.func31, Try.ntmps31
        go_wp2
        go_ret
        exact ⟨rfl, H.out⟩
      · have h1 : (s.sure.length : Int) ≤ i := by omega
        clear hi hd h hv hvo hn hgw
        go_enter Try.func31, Try.ntmps31
        go_wp2
        go_ret
        exact ⟨rfl, H.out⟩
  · rw [hd] at c2
    rw [if_pos rfl]
    have H := Lib.hid (RNow.same h)
    clear hd h hv hvo hn hgw
    go_enter Try.func31, Try.ntmps31
    go_wp2
    go_ret
    exact ⟨rfl, H.out⟩
set_option maxHeartbeats 800000 in
theorem rsure_any {O : Nat → Prop} {w : World} {D : Nat} {pv lv : Value} {s : St} (h : RDsk O w D pv lv s) (i : Int) :
    Calls Try.prog 36 #[.pointer (some ⟨D, 0, none⟩), .int .i64 i] w (RSureR s i w) := by
  have c0 := h.c0
  unfold RSureR
  by_cases hi : 0 ≤ i ∧ i < (s.sure.length : Int)
  · obtain ⟨k, rfl⟩ : ∃ k : Nat, i = (k : Int) := ⟨i.toNat, by omega⟩
    have hk : k < s.sure.length := by omega
    obtain ⟨pg, pc, rfl, hpc⟩ := h.pageAt k _ (List.getElem?_eq_getElem hk)
    simp only [if_pos hi, Int.toNat_natCast]
    have hg : s.sure.getD k [] = s.sure[k] := by simp [List.getD, hk]
    rw [hg]
    generalize s.sure[k] = p at *
    obtain ⟨c, w', hcv, hby, hb⟩ := conv_str w p
    have hi1 : ¬ (k : Int) < 0 := by omega
    have hi2 : ¬ (s.sure.length : Int) ≤ (k : Int) := by omega
    have HE : Hid (RTold p w (.returned (.tuple #[.slice (some ⟨w.heap.size, 0, none⟩) p.length c, .int .i64 0])) w') := ⟨_, rfl, hby, fun g hg => by simp [Value.ownBlock] at hg; omega, hb⟩
    clear hi h hby hb hg
    go_enter Try.func36, Try.ntmps36
    go_wp2
    go_ret2
    exact HE.out
  · simp only [if_neg hi]
    obtain ⟨pg, pc, rfl, _⟩ := h.pshape
    have HB := Lib.hid (Below.refl w.heap.size w)
    by_cases h0 : i < 0
    · clear hi h
      go_enter Try.func36, Try.ntmps36
      go_wp2
      go_ret2
      exact ⟨rfl, HB.out⟩
    · have h1 : (s.sure.length : Int) ≤ i := by omega
      clear hi h
      go_enter Try.func36, Try.ntmps36
      go_wp2
      go_ret2
      exact ⟨rfl, HB.out⟩

def readL (p : List UInt8) (i : Nat) (ws : List (Nat × List UInt8)) : List UInt8 := ws.foldl (fun a x => if x.1 = i then x.2 else a) p
theorem readL_step (p : List UInt8) (i : Nat) (ws : List (Nat × List UInt8)) (k : Nat) (x : Nat × List UInt8) (h : ws[k]? = some x) : readL p i (ws.take (k + 1)) = if x.1 = i then x.2 else readL p i (ws.take k) := by
  unfold readL
  rw [List.take_add_one, h, List.foldl_append]
  rfl
theorem readL_find (p : List UInt8) (i : Nat) : ∀ r : List (Nat × List UInt8), readL p i r.reverse = match r.find? (fun x => x.1 == i) with | some x => x.2 | none => p
  | [] => rfl
  | x :: r => by
    unfold readL
    rw [List.reverse_cons, List.foldl_append]
    have := readL_find p i r
    unfold readL at this
    rw [this]
    by_cases hx : x.1 = i
    · simp [List.find?_cons, hx]
    · simp [List.find?_cons, hx]
theorem readL_reads (s : St) (i : Nat) : readL (s.sure.getD i []) i s.waits = s.reads i := by
  have := readL_find (s.sure.getD i []) i s.waits.reverse
  rw [List.reverse_reverse] at this
  exact this
set_option maxHeartbeats 1600000 in
theorem rread_any {O : Nat → Prop} {w : World} {D : Nat} {pv lv : Value} {s : St} (h : RDsk O w D pv lv s) (i : Int) :
    Calls Try.prog 33 #[.pointer (some ⟨D, 0, none⟩), .int .i64 i] w (RReadR s i w) := by
  have c0 := h.c0
  have c1 := h.c1
  have c2 := h.c2
  have HB := Lib.hid (Below.refl w.heap.size w)
  unfold RReadR
  cases hd : s.down
  · rw [hd] at c2
    simp only [Bool.false_eq_true, if_false]
    by_cases hi : 0 ≤ i ∧ i < (s.sure.length : Int)
    · obtain ⟨n, rfl⟩ : ∃ k : Nat, i = (k : Int) := ⟨i.toNat, by omega⟩
      have hk : n < s.sure.length := by omega
      obtain ⟨pg, pc, rfl, hpc⟩ := h.pageAt n _ (List.getElem?_eq_getElem hk)
      simp only [if_pos hi, Int.toNat_natCast]
      have hg : s.sure[n] = s.sure.getD n [] := by simp [List.getD, hk]
      have hr := readL_reads s n
      rw [hg] at hpc
      generalize s.sure.getD n [] = p at *
      have hi1 : ¬ (n : Int) < 0 := by omega
      have hi2 : ¬ (s.sure.length : Int) ≤ (n : Int) := by omega
      have HW := Lib.hid (fun k x hx => h.waitAt k x hx)
      have HR := Lib.hid hr
      have hwn := h.ok.wn
      obtain ⟨la, lc, rfl, _⟩ := h.lshape
      clear hi h hg hr hd
      go_enter Try.func33, Try.ntmps33
      go_wp2_with fail
      go_loopw [6, 7] (fun sv iv wr => ∃ k : Nat, iv = .int .i64 (k : Int) ∧ k ≤ s.waits.length ∧ sv = .string ⟨(readL p n (s.waits.take k)).toArray⟩ ∧ wr = w) (fun _ iv _ => s.waits.length - (intOf iv).toNat)
      case atStart => exact ⟨0, rfl, Nat.zero_le _, rfl, rfl⟩
      case round =>
        obtain ⟨k, rfl, hk, rfl, rfl⟩ := hrel
        by_cases hgo : k < s.waits.length
        · have hx := List.getElem?_eq_getElem hgo
          obtain ⟨g, c, hge, hc1, hc2⟩ := HW.out k _ hx
          cases hge
          have hst := readL_step p n s.waits k _ hx
          generalize s.waits[k] = x at *
          have hkk : (k : Int) < (s.waits.length : Int) := by omega
          have HST := Lib.hid hst
          clear hst hx
          by_cases hxn : x.1 = n
          · have hxn' : ((x.1 : Int) == (n : Int)) = true := by simp [hxn]
            rw [if_pos hxn] at HST
            clear hxn
            go_wp2
            go_roundw
            case rel => exact ⟨k + 1, by go_num, by omega, by rw [HST.out], trivial⟩
            case measure => simp [intOf]; omega
          · have hxn' : ((x.1 : Int) == (n : Int)) = false := by rw [beq_eq_false_iff_ne]; omega
            rw [if_neg hxn] at HST
            clear hxn
            go_wp2
            go_roundw
            case rel => exact ⟨k + 1, by go_num, by omega, by rw [HST.out], trivial⟩
            case measure => simp [intOf]; omega
        · have hnk : ¬ (k : Int) < (s.waits.length : Int) := by omega
          have hR : readL p n (s.waits.take k) = s.reads n := by rw [List.take_of_length_le (by omega)]; exact HR.out
          obtain ⟨q, hq⟩ : ∃ q, s.reads n = q := ⟨_, rfl⟩
          rw [hR, hq]
          obtain ⟨c, w', hcv, hby, hb⟩ := conv_str wr q
          have HE : Hid (RTold (s.reads n) wr (.returned (.tuple #[.slice (some ⟨wr.heap.size, 0, none⟩) q.length c, .int .i64 0])) w') := by rw [hq]; exact ⟨_, rfl, hby, fun g hg => by simp [Value.ownBlock] at hg; omega, hb⟩
          clear hR HR HW hby hb hq
          go_wp2
          go_ret2
          exact HE.out
    · simp only [if_neg hi]
      obtain ⟨pg, pc, rfl, _⟩ := h.pshape
      by_cases h0 : i < 0
      · clear hi h hd c1
        go_enter Try.func33, Try.ntmps33
        go_wp2
        go_ret2
        exact ⟨rfl, HB.out⟩
      · have h1 : (s.sure.length : Int) ≤ i := by omega
        clear hi h hd c1
        go_enter Try.func33, Try.ntmps33
        go_wp2
        go_ret2
        exact ⟨rfl, HB.out⟩
  · rw [hd] at c2
    simp only [if_true]
    clear hd h c0 c1
    go_enter Try.func33, Try.ntmps33
    go_wp2
    go_ret2
    exact ⟨rfl, HB.out⟩
end Go.Proofs.Ytohmofhpbmhhjaa
