/- Date: the reader: what it holds; is, one. -/
import Derived.Test.YtkkmjadkagpihaaDoorJ13
namespace Go.Proofs.YtkkmjadkagpihaaDoor
open Go Go.RowKit

/-- What a stamp holds beside its text. -/
structure Stp where
  at_ : Nat
  stop : Int
  year : Int
  month : Int
  day : Int
  weekly : Bool
  week : Int
  clock : Int
  zone : Int
def cellsS (t : ByteArray) (s : Stp) : Array Value := #[.string t, .int .i64 (s.at_ : Int), .int .i64 s.stop, .int .i64 s.year, .int .i64 s.month, .int .i64 s.day, .bool s.weekly, .int .i64 s.week, .int .i64 s.clock, .int .i64 s.zone]
/-- A stamp lies in block b. -/
def StAt (w : World) (b : Nat) (t : ByteArray) (s : Stp) : Prop := w.heap[b]? = some (.cells (cellsS t s) 51 (0, 0))
theorem StAt.lt {w : World} {b : Nat} {t : ByteArray} {s : Stp} (h : StAt w b t s) : b < w.heap.size := (Array.getElem?_eq_some_iff.1 h).1
theorem StAt.below {w w' : World} {b : Nat} {t : ByteArray} {s : Stp} (h : StAt w b t s) (hb : Below w.heap.size w w') : StAt w' b t s := (hb.block b h.lt).trans h
theorem StAt.c {w : World} {b : Nat} {t : ByteArray} {s : Stp} (h : StAt w b t s) (j : Nat) : w.cell? ⟨b, j, none⟩ = (cellsS t s)[j]? := cell_of_row _ _ _ _ _ _ h
theorem StAt.f {w : World} {b : Nat} {t : ByteArray} {s : Stp} (h : StAt w b t s) (j : Nat) : w.frozen? ⟨b, j, none⟩ = false := frozen_of_row _ _ _ _ _ h
theorem StAt.set {w : World} {b : Nat} {t : ByteArray} {s s' : Stp} (h : StAt w b t s) (j : Nat) (v : Value) (hv : (cellsS t s).setIfInBounds j v = cellsS t s') : StAt (w.setCell ⟨b, j, none⟩ v) b t s' := by
  unfold StAt at *
  rw [heap_setCell_same w b j _ _ v h, hv]
theorem StAt.fr {w : World} {b : Nat} (j : Nat) (v : Value) : Fr (· = b) w (w.setCell ⟨b, j, none⟩ v) := (Fr.refl (· = b) w).setCell ⟨b, j, none⟩ (Or.inl rfl) v

/-- The post of a method: what it tells, what is held behind, and nothing else is turned. -/
def Rd (b : Nat) (t : ByteArray) (w : World) (v : Value) (s' : Stp) (e : Ending) (w' : World) : Prop := e = .returned v ∧ StAt w' b t s' ∧ Fr (· = b) w w'
theorem Rd.mk' {b : Nat} {t : ByteArray} {w w' : World} {v v' : Value} {s' : Stp} (h : v = v') (h1 : StAt w' b t s') (h2 : Fr (· = b) w w') : Rd b t w v s' (.returned v') w' := ⟨by rw [h], h1, h2⟩
theorem Rd.lift {b : Nat} {t : ByteArray} {w w1 : World} {v : Value} {s' : Stp} {e : Ending} {w' : World} (h0 : Fr (· = b) w w1) (h : Rd b t w1 v s' e w') : Rd b t w v s' e w' := ⟨h.1, h.2.1, h0.trans h.2.2 (fun _ _ h => h) (fun _ _ h => h)⟩
theorem frt {b : Nat} {w w1 w2 : World} (h : Fr (· = b) w w1) (k : Fr (· = b) w1 w2) : Fr (· = b) w w2 := h.trans k (fun _ _ h => h) (fun _ _ h => h)
theorem frd {b : Nat} {w w1 : World} (h : Fr (· = b) w w1) (n : Nat) : Fr (· = b) w (w1.drewN n) := ⟨h.os, h.tape, h.output, h.size, h.block⟩
theorem std {b : Nat} {t : ByteArray} {w : World} {s : Stp} (h : StAt w b t s) (n : Nat) : StAt (w.drewN n) b t s := h

def isR (t : ByteArray) (these : List UInt8) (p : Nat) : Bool := if p < t.size then decide (0 ≤ Lib.indexByte these (t.get! p)) else false

theorem get_at (t : ByteArray) (p : Nat) (h : p < t.size) : t.get! p = t[p] := get_lt t p h
theorem u8_back (c : UInt8) : ((c.toNat : Int).toNat).toUInt8 = c := by simp
theorem qixb (these : ByteArray) (c : Int) (w : World) (n : Nat) : Calls Tryd.prog 64 #[.string these, .int .u8 c] (w.drewN n) fun e w' => e = .returned (.int .i64 (Lib.indexByte these.data.toList c.toNat.toUInt8)) ∧ w' = w.drewN n := Tryd.strings_IndexByte these c _

theorem is_any (b : Nat) (t these : ByteArray) (s : Stp) (w : World) (h : StAt w b t s) (q : Bool) (hq : isR t these.data.toList s.at_ = q) (_hs : t.size ≤ 9223372036854775807) :
    Calls Tryd.prog 34 #[.pointer (some ⟨b, 0, none⟩), .string these] w (Rd b t w (.bool q) s) := by
  have c0 := h.c 0
  have c1 := h.c 1
  rw [show (cellsS t s)[0]? = some (.string t) from rfl] at c0
  rw [show (cellsS t s)[1]? = some (.int .i64 (s.at_ : Int)) from rfl] at c1
  have H := Lib.hid h
  clear h
  subst hq
  unfold isR
  generalize s.at_ = p at c1 ⊢
  by_cases hp : p < t.size
  · rw [if_pos hp, get_at t p hp]
    have hpi : (p : Int) < (t.size : Int) := by omega
    have hb := u8_back t[p]
    go_enter Tryd.func34, Tryd.ntmps34
    go_wp2
    go_quiet ((go_at_call 64; exact Calls.quiet_of_same (qixb _ _ _ _)))
    go_wp2
    go_ret
    refine Rd.mk' ?_ (std H.out _) (frd (Fr.refl _ _) _)
    simp
  · rw [if_neg hp]
    have hpi : ¬ (p : Int) < (t.size : Int) := by omega
    have hpd : decide ((p : Int) < (t.size : Int)) = false := by simpa using hpi
    have hpd2 : decide (p < t.size) = false := by simpa using hp
    go_enter Tryd.func34, Tryd.ntmps34
    go_wp2
    go_quiet (fail)
    go_wp2
    go_ret
    exact Rd.mk' rfl (std H.out _) (frd (Fr.refl _ _) _)

/-- One of these letters is taken. -/
def oneR (t : ByteArray) (these : List UInt8) (p : Nat) (stop : Int) : List UInt8 × Nat × Int :=
  if p < t.size then
    if stop = 0 then
      if 0 ≤ Lib.indexByte (low these) (lowB (t.get! p)) then ((these.drop (Lib.indexByte (low these) (lowB (t.get! p))).toNat).take 1, p + 1, 0) else ([], p, 4)
    else ([], p, stop)
  else ([], p, 3)

theorem low_one (t : ByteArray) (p : Nat) (h : p < t.size) : (⟨(low (t.extract p (p + 1)).data.toList).toArray⟩ : ByteArray) = ⟨#[lowB (t.get! p)]⟩ := by
  have : (t.extract p (p + 1)).data.toList = [t.get! p] := by
    rw [Lib.extract_data, show p + 1 - p = 1 by omega, get_at t p h]
    have hl : p < t.data.toList.length := by rw [← Lib.size_eq]; exact h
    rw [List.drop_eq_getElem_cons hl]
    rfl
  rw [this]; rfl

theorem one_short (b : Nat) (t these : ByteArray) (s : Stp) (w : World) (h : StAt w b t s) (hp : ¬ s.at_ < t.size) (hle : s.at_ ≤ t.size) (_hs : t.size ≤ 9223372036854775807) :
    Calls Tryd.prog 36 #[.pointer (some ⟨b, 0, none⟩), .string these] w (Rd b t w (.string ⟨#[]⟩) { s with stop := 3 }) := by
  have c0 := h.c 0
  have c1 := h.c 1
  have c2 := h.c 2
  have f2 := h.f 2
  rw [show (cellsS t s)[0]? = some (.string t) from rfl] at c0
  rw [show (cellsS t s)[1]? = some (.int .i64 (s.at_ : Int)) from rfl] at c1
  rw [show (cellsS t s)[2]? = some (.int .i64 s.stop) from rfl] at c2
  have H := Lib.hid (h.set 2 (.int .i64 3) (s' := { s with stop := 3 }) rfl)
  have HF := Lib.hid (StAt.fr (w := w) (b := b) 2 (.int .i64 3))
  have hpe : s.at_ = t.size := by omega
  rw [hpe] at c1
  clear h hpe hp hle
  have H' : Hid (∀ n, StAt ((w.drewN n).setCell ⟨b, 2, none⟩ (.int .i64 3)) b t { s with stop := 3 }) := Lib.hid (fun n => H.out)
  have HF' : Hid (∀ n, Fr (· = b) w ((w.drewN n).setCell ⟨b, 2, none⟩ (.int .i64 3))) := Lib.hid (fun n => ⟨HF.out.os, HF.out.tape, HF.out.output, HF.out.size, HF.out.block⟩)
  go_enter Tryd.func36, Tryd.ntmps36
  go_wp2
  go_quiet (fail)
  go_wp2
  go_ret
  exact Rd.mk' rfl (H'.out _) (HF'.out _)
theorem one_off (b : Nat) (t these : ByteArray) (s : Stp) (w : World) (h : StAt w b t s) (hp : s.at_ < t.size) (hst : s.stop ≠ 0) (_hs : t.size ≤ 9223372036854775807) :
    Calls Tryd.prog 36 #[.pointer (some ⟨b, 0, none⟩), .string these] w (Rd b t w (.string ⟨#[]⟩) s) := by
  have c0 := h.c 0
  have c1 := h.c 1
  have c2 := h.c 2
  rw [show (cellsS t s)[0]? = some (.string t) from rfl] at c0
  rw [show (cellsS t s)[1]? = some (.int .i64 (s.at_ : Int)) from rfl] at c1
  rw [show (cellsS t s)[2]? = some (.int .i64 s.stop) from rfl] at c2
  have H := Lib.hid h
  clear h
  have hne : ((s.at_ : Int) == (t.size : Int)) = false := by simp; omega
  have hne2 : (s.at_ == t.size) = false := by simp; omega
  have hs0 : (s.stop != 0) = true := by simpa using hst
  have hs1 : (s.stop == 0) = false := by simpa using hst
  clear hst hp
  go_enter Tryd.func36, Tryd.ntmps36
  go_wp2
  go_quiet (fail)
  go_wp2
  go_ret
  exact Rd.mk' rfl (std H.out _) (frd (Fr.refl _ _) _)
end Go.Proofs.YtkkmjadkagpihaaDoor
