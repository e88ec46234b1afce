/- Lines, the document's own: Line, Raw, Body. -/
import Derived.Test.YtbhkchdkknainaaU6
namespace Go.Proofs.Ytbhkchdkknainaa
open Go.RowKit

theorem RBNow.after {B : Nat} {w w1 w' : World} {y : Nat} {l : List UInt8} (h : RBNow B w1 y l w') (hb : Below w.heap.size w w1) : RBNow B w y l w' := by
  obtain ⟨v', h1, h2, h3⟩ := h
  exact ⟨v', h1, fun g hg => Nat.le_trans hb.size (h2 g hg), (Fr.of_below (S := fun _ => False) hb).trans h3 (fun _ e => e.elim) (fun _ _ e => e)⟩
theorem RBNow.then {B : Nat} {w w1 w' : World} {y : Nat} {l : List UInt8} (h : RBNow B w y l w1) (hb : Below w1.heap.size w1 w') : RBNow B w y l w' := by
  obtain ⟨v', h1, h2, h3⟩ := h
  exact ⟨v', h1.stay hb, h2, h3.trans (Fr.of_below (S := fun _ => False) hb) (fun _ e => e) (fun _ _ e => e.elim)⟩

/-- What Line tells, and what it leaves. -/
def lineR (l : List UInt8) : Value := match lineLen l with
  | none => .tuple #[.string ⟨#[]⟩, .int .i64 3]
  | some n => lineV l n
def lineD (l : List UInt8) : List UInt8 := match lineLen l with
  | none => l
  | some n => l.drop n
theorem lineV_tuple (l : List UInt8) (n : Nat) : ∃ (s : List UInt8) (e : Int), lineV l n = .tuple #[.string ⟨s.toArray⟩, .int .i64 e] := by
  unfold lineV
  split
  · exact ⟨[], 6, rfl⟩
  · exact ⟨_, 0, rfl⟩
/-- Nothing was written but new blocks. -/
def RBSame (B : Nat) (w : World) (y : Nat) (v : Value) (l : List UInt8) (w' : World) : Prop := RB B w' y v l ∧ Below w.heap.size w w'

set_option maxHeartbeats 1600000 in
theorem rline_none {B b : Nat} {v : Value} {l : List UInt8} (w : World) (h : RB B w b v l) (hl : l.length ≤ 16384) (hn : lineLen l = none) :
    Calls Try.prog 31 #[.pointer (some ⟨b, 0, none⟩)] w fun e w' => e = .returned (.tuple #[.string ⟨#[]⟩, .int .i64 3]) ∧ RBSame B w b v l w' := by
  have hno := lineLen_none l hn
  obtain ⟨a, cap, rfl, hcap⟩ := h.byt.shape
  have HNO := Lib.hid hno
  clear hno hn
  have HB0 := Below.refl w.heap.size w
  go_enter Try.func31, Try.ntmps31
  go_wp2
  go_loopw [4] (fun av wr => ∃ i : Nat, i ≤ l.length ∧ av = .int .i64 (i : Int) ∧ RB B wr b (.slice a l.length cap) l ∧ Below w.heap.size w wr) (fun av _ => l.length - intOf av)
  case atStart => exact ⟨0, Nat.zero_le _, rfl, h, HB0⟩
  case round =>
    obtain ⟨i, hi, hu, hr, hb⟩ := hrel
    subst hu
    have hc := hr.cell
    have hz := hb.size
    by_cases hlt : i < l.length
    · have he := ends_any _ l i wr hr.byt (by omega) (by omega)
      rw [HNO.out i] at he
      have HE := Lib.hid he
      have HR := Lib.hid hr
      have HB := Lib.hid hb
      clear he hr hb h HB0
      go_wp2_with fail
      refine HE.out.mono ?_
      rintro e w1 ⟨rfl, b1⟩
      have RES := Lib.hid (And.intro (HR.out.stay b1) (HB.out.trans (b1.mono hz)))
      clear b1 HE HR HB hc
      go_wp2
      go_roundw
      case rel => exact ⟨i + 1, hlt, by rw [Int.natCast_add]; rfl, RES.out.1, RES.out.2⟩
      case measure => simp only [intOf]; omega
    · have RES := Lib.hid (And.intro hr hb)
      clear h hr hb HB0
      go_wp2
      go_ret2
      exact ⟨rfl, RES.out⟩

set_option maxHeartbeats 1600000 in
theorem rline_some {B b : Nat} {v : Value} {l : List UInt8} (w : World) (n : Nat) (h : RB B w b v l) (hl : l.length ≤ 16384) (hn : lineLen l = some n) :
    Calls Try.prog 31 #[.pointer (some ⟨b, 0, none⟩)] w fun e w' => e = .returned (lineV l n) ∧ RBNow B w b (l.drop n) w' := by
  obtain ⟨hyes, hno⟩ := lineLen_some l n hn
  have hle := lineLen_le l n hn
  obtain ⟨a, cap, rfl, hcap⟩ := h.byt.shape
  have HNO := Lib.hid hno
  have HYES := Lib.hid hyes
  generalize hV : lineV l n = V
  have HV := Lib.hid hV
  have HB0 := Below.refl w.heap.size w
  clear hno hyes hn hV
  go_enter Try.func31, Try.ntmps31
  go_wp2
  go_loopw [4] (fun av wr => ∃ i : Nat, i ≤ n - 2 ∧ av = .int .i64 (i : Int) ∧ RB B wr b (.slice a l.length cap) l ∧ Below w.heap.size w wr) (fun av _ => l.length - intOf av)
  case atStart => exact ⟨0, Nat.zero_le _, rfl, h, HB0⟩
  case round =>
    obtain ⟨i, hi, hu, hr, hb⟩ := hrel
    subst hu
    have hc := hr.cell
    have hz := hb.size
    have hlt : i < l.length := by omega
    have he := ends_any _ l i wr hr.byt (by omega) (by omega)
    by_cases hin : i < n - 2
    · rw [HNO.out i hin] at he
      have HE := Lib.hid he
      have HR := Lib.hid hr
      have HB := Lib.hid hb
      clear he hr hb h HB0
      go_wp2_with fail
      refine HE.out.mono ?_
      rintro e w1 ⟨rfl, b1⟩
      have RES := Lib.hid (And.intro (HR.out.stay b1) (HB.out.trans (b1.mono hz)))
      clear b1 HE HR HB hc
      go_wp2
      go_roundw
      case rel => exact ⟨i + 1, by omega, by rw [Int.natCast_add]; rfl, RES.out.1, RES.out.2⟩
      case measure => simp only [intOf]; omega
    · obtain rfl : i = n - 2 := by omega
      rw [HYES.out] at he
      have HE := Lib.hid he
      have HR := Lib.hid hr
      have HB := Lib.hid hb
      clear he hr hb h HB0
      go_wp2_with fail
      refine HE.out.mono ?_
      rintro e w1 ⟨rfl, b1⟩
      have hb1 := HB.out.trans (b1.mono hz)
      have ht := rtake_any w1 n (HR.out.stay b1) hl hle.2
      rw [show (n : Int) = ((n - 2 : Nat) : Int) + 2 by omega] at ht
      have HT := Lib.hid ht
      have HB1 := Lib.hid hb1
      clear b1 HE HR HB ht hb1 hc
      go_wp2_with fail
      refine HT.out.mono ?_
      rintro e w2 ⟨t, rfl, ht, hnow⟩
      obtain ⟨ta, tc, rfl, htc⟩ := ht.1.shape
      have FIN := Lib.hid (hnow.after HB1.out)
      have htl : (l.take n).length = n := by rw [List.length_take]; omega
      rw [htl] at htc ht
      have hz2 := cutA_zero ht.1
      have hcut := run_cut_to (P := Try.prog) w2 31 5 Try.underlying31 sz5 ta n tc (n - 2) (by omega)
      have hr2 := ht.1.cut 0 (n - 2) tc (Nat.zero_le _) (by omega) (by omega) (Nat.le_refl _)
      rw [hz2] at hcut hr2
      rw [Nat.sub_zero, Nat.sub_zero, List.drop_zero, List.take_take, show min (n - 2) n = n - 2 by omega] at hr2
      have hcv := run_byt_string (P := Try.prog) w2 31 9 5 Try.underlying31 Try.underlying5 Try.underlying9 hr2
      rw [htl]
      clear HT HB1 ht hnow hz2 hr2 htl
      by_cases hbig : 1024 < n - 2
      · have hbig' : (1024 : Int) < ((n - 2 : Nat) : Int) := by omega
        have HBIG := Lib.hid hbig
        clear hbig
        go_wp2
        go_ret2
        refine ⟨?_, FIN.out⟩
        rw [← HV.out]
        unfold lineV
        rw [if_pos HBIG.out]
        rfl
      · have hbig' : ¬ (1024 : Int) < ((n - 2 : Nat) : Int) := by omega
        have HBIG := Lib.hid hbig
        clear hbig
        go_wp2
        go_ret2
        refine ⟨?_, FIN.out⟩
        rw [← HV.out]
        unfold lineV
        rw [if_neg HBIG.out]
        rfl
end Go.Proofs.Ytbhkchdkknainaa
