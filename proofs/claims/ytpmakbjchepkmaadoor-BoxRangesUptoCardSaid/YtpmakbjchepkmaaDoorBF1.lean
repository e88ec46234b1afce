/- Box: questions; whether a term is true of a letter. -/
import Derived.Test.YtpmakbjchepkmaaDoorB9
import Derived.Test.YtpmakbjchepkmaaDoorBT
import Derived.Test.YtpmakbjchepkmaaDoorShelf
import Derived.Deep.RegionHeld3
import Derived.Laws.BitsAllLaws
namespace Go.Proofs.YtpmakbjchepkmaaDoor
open Go Go.RowKit

/-- What the library's search reads. -/
def Ml (w : World) : Prop := ∃ m, w.cell? ⟨Tryd.laysM144_ren.g 1, 0, none⟩ = some (.int .i64 m)
theorem Ml.below {w w' : World} (h : Ml w) (hb : Below w.heap.size w w') : Ml w' := by
  obtain ⟨m, hm⟩ := h
  exact ⟨m, (hb.cell (p := ⟨Tryd.laysM144_ren.g 1, 0, none⟩) (World.block_lt_of_cell? w _ hm)).trans hm⟩
theorem ml_of {W : World} (h : W.ShapedOpen Tryd.prog) : Ml W := Tryd.laysM144.s1_3 W h

/-- A term of a question. -/
structure Qry where
  ask : Int
  flags : UInt8
  n : Int
  m : Int
  text : ByteArray
def cellsQ (q : Qry) : List Value := [.int .i64 q.ask, .int .u8 (q.flags.toNat : Int), .int .i64 q.n, .int .i64 q.m, .string q.text]
def qryV (q : Qry) : Value := .agg #[.int .i64 q.ask, .int .u8 (q.flags.toNat : Int), .int .i64 q.n, .int .i64 q.m, .string q.text]
/-- The slice v reads as these terms. -/
structure Qrys (w : World) (v : Value) (qs : List Qry) : Prop where
  shape : ∃ a cap, v = .slice a qs.length cap
  cells : qs ≠ [] → ∃ g off cap, v = .slice (some ⟨g, off, none⟩) qs.length cap ∧ g < w.heap.size ∧ CellsAt w g off (qs.flatMap cellsQ)
theorem Qrys.below {w w' : World} {v : Value} {qs : List Qry} (h : Qrys w v qs) (hb : Below w.heap.size w w') : Qrys w' v qs := by
  refine ⟨h.shape, fun hne => ?_⟩
  obtain ⟨g, off, cap, e, hg, hc⟩ := h.cells hne
  exact ⟨g, off, cap, e, Nat.lt_of_lt_of_le hg hb.size, fun j u hu => (hb.cell (p := ⟨g, off + j, none⟩) hg).trans (hc j u hu)⟩
theorem Qrys.at {w : World} {v : Value} {qs : List Qry} (h : Qrys w v qs) (i : Nat) (q : Qry) (hi : qs[i]? = some q) :
    ∃ g off cap, v = .slice (some ⟨g, off, none⟩) qs.length cap ∧ g < w.heap.size ∧ w.cell? ⟨g, off + i * 5, none⟩ = some (.int .i64 q.ask) ∧ w.cell? ⟨g, off + i * 5 + 1, none⟩ = some (.int .u8 (q.flags.toNat : Int)) ∧ w.cell? ⟨g, off + i * 5 + 2, none⟩ = some (.int .i64 q.n) ∧ w.cell? ⟨g, off + i * 5 + 3, none⟩ = some (.int .i64 q.m) ∧ w.cell? ⟨g, off + i * 5 + 4, none⟩ = some (.string q.text) := by
  obtain ⟨g, off, cap, e, hg, hc⟩ := h.cells (fun e => by subst e; simp at hi)
  have a : ∀ j u, (cellsQ q)[j]? = some u → w.cell? ⟨g, off + i * 5 + j, none⟩ = some u := fun j u hj => by
    rw [Nat.add_assoc]; exact hc _ _ (flat_at cellsQ 5 qs i (fun _ _ => rfl) q hi j u hj)
  exact ⟨g, off, cap, e, hg, a 0 _ rfl, a 1 _ rfl, a 2 _ rfl, a 3 _ rfl, a 4 _ rfl⟩

/-- Is a term true of a letter? -/
def holdB (q : Qry) (x : Letr) : Bool :=
  if q.ask = 2 then bits .and .u8 (x.flags.toNat : Int) (q.flags.toNat : Int) == (q.flags.toNat : Int)
  else if q.ask = 3 then bits .and .u8 (x.flags.toNat : Int) (q.flags.toNat : Int) == 0
  else if q.ask = 4 then decide (q.n < (x.bytes.length : Int))
  else if q.ask = 5 then decide ((x.bytes.length : Int) < q.n)
  else if q.ask = 6 then Lib.contains (low x.bytes) (low q.text.data.toList)
  else if q.ask = 7 then decide (q.n ≤ x.uid) && decide (x.uid ≤ q.m)
  else true
def letV (x : Letr) (bv : Value) : Value := .agg #[.int .i64 x.uid, .int .u8 (x.flags.toNat : Int), bv]
theorem ret_bool {a b : Bool} (h : a = b) : Ending.returned (.bool a) = .returned (.bool b) := by rw [h]

set_option maxHeartbeats 4000000 in
set_option maxRecDepth 100000 in
theorem holds_plain (q : Qry) (x : Letr) (ba : Option Addr) (bc : Nat) (w : World) (h6 : q.ask ≠ 6) :
    Calls Tryd.prog 31 #[qryV q, letV x (.slice ba x.bytes.length bc)] w fun e w' => e = .returned (.bool (holdB q x)) ∧ Below w.heap.size w w' := by
  unfold qryV letV
  have hb2 : Below w.heap.size w ((w.alloc (.cells #[.int .i64 q.ask, .int .u8 (q.flags.toNat : Int), .int .i64 q.n, .int .i64 q.m, .string q.text] 49)).alloc (.cells #[.int .i64 x.uid, .int .u8 (x.flags.toNat : Int), .slice ba x.bytes.length bc] 68)) := ((Below.refl _ w).alloc (Nat.le_refl _) _).alloc (by simp) _
  have HB := Lib.hid hb2
  clear hb2
  obtain ⟨ask, fl, n, m, tx⟩ := q
  simp only at h6 ⊢
  have HH : ∀ b, holdB ⟨ask, fl, n, m, tx⟩ x = b → Ending.returned (.bool b) = .returned (.bool (holdB ⟨ask, fl, n, m, tx⟩ x)) := fun b hb => by rw [hb]
  have H1 := Lib.hid HH
  clear HH
  by_cases h2 : ask = 2
  · subst h2
    go_enter Tryd.func31, Tryd.ntmps31
    go_wp2
    go_ret
    exact ⟨H1.out _ (by simp [holdB]), HB.out⟩
  have g2 : (ask == 2) = false := by simpa using h2
  by_cases h3 : ask = 3
  · subst h3
    go_enter Tryd.func31, Tryd.ntmps31
    go_wp2
    go_ret
    exact ⟨H1.out _ (by simp [holdB]), HB.out⟩
  have g3 : (ask == 3) = false := by simpa using h3
  by_cases h4 : ask = 4
  · subst h4
    go_enter Tryd.func31, Tryd.ntmps31
    go_wp2
    go_ret
    exact ⟨H1.out _ (by simp [holdB]), HB.out⟩
  have g4 : (ask == 4) = false := by simpa using h4
  by_cases h5 : ask = 5
  · subst h5
    go_enter Tryd.func31, Tryd.ntmps31
    go_wp2
    go_ret
    exact ⟨H1.out _ (by simp [holdB]), HB.out⟩
  have g5 : (ask == 5) = false := by simpa using h5
  have g6 : (ask == 6) = false := by simpa using h6
  by_cases h7 : ask = 7
  · subst h7
    by_cases k1 : n ≤ x.uid
    · by_cases k2 : x.uid ≤ m
      · go_enter Tryd.func31, Tryd.ntmps31
        go_wp2
        go_ret
        exact ⟨H1.out _ (by simp [holdB, k1, k2]), HB.out⟩
      · go_enter Tryd.func31, Tryd.ntmps31
        go_wp2
        go_ret
        exact ⟨H1.out _ (by simp [holdB]; omega), HB.out⟩
    · go_enter Tryd.func31, Tryd.ntmps31
      go_wp2
      go_ret
      exact ⟨H1.out _ (by simp [holdB]; omega), HB.out⟩
  have g7 : (ask == 7) = false := by simpa using h7
  have HT := Lib.hid (show holdB ⟨ask, fl, n, m, tx⟩ x = true by simp [holdB, h2, h3, h4, h5, h6, h7])
  clear h2 h3 h4 h5 h6 h7
  go_enter Tryd.func31, Tryd.ntmps31
  go_wp2
  go_ret
  exact ⟨H1.out _ HT.out, HB.out⟩
end Go.Proofs.YtpmakbjchepkmaaDoor
