/- Glob: lists of names that are read; are they the same; a name's steps, the code's and the document's. -/
import Derived.Test.YtnglmaebmabdcaaDoorQ2
import Derived.Test.YtnglmaebmabdcaaDoorD1
import Derived.Lib.Split
import Derived.Lib.CountLaws
namespace Go.Proofs.YtnglmaebmabdcaaDoor
open Go Go.RowKit

theorem bdrew {B : Nat} {w W : World} (h : Below B w W) (k : Nat) : Below B w (W.drewN k) := h.trans ⟨rfl, rfl, rfl, Nat.le_refl _, fun _ _ => rfl⟩
/-- A list of strings that is read. -/
def Ltr (w : World) (v : Value) (L : List ByteArray) : Prop :=
  ∃ a c, v = .slice a L.length c ∧ L.length ≤ c ∧ ∀ i (h : i < L.length), ∃ g, a = some ⟨g, 0, none⟩ ∧ g < w.heap.size ∧ w.cell? ⟨g, i, none⟩ = some (.string L[i])
theorem Ltr.below {w w' : World} {v : Value} {L : List ByteArray} (h : Ltr w v L) (hb : Below w.heap.size w w') : Ltr w' v L := by
  obtain ⟨a, c, rfl, hc, hx⟩ := h
  refine ⟨a, c, rfl, hc, fun i hi => ?_⟩
  obtain ⟨g, rfl, hg, hcc⟩ := hx i hi
  exact ⟨g, rfl, Nat.lt_of_lt_of_le hg hb.size, (hb.cell hg).trans hcc⟩
theorem Ltr.at {w : World} {v : Value} {L : List ByteArray} (h : Ltr w v L) (h0 : 0 < L.length) : ∃ g c, v = .slice (some ⟨g, 0, none⟩) L.length c ∧ L.length ≤ c ∧ g < w.heap.size ∧ ∀ i (h : i < L.length), w.cell? ⟨g, i, none⟩ = some (.string L[i]) := by
  obtain ⟨a, c, rfl, hc, hx⟩ := h
  obtain ⟨g, rfl, hg, -⟩ := hx 0 h0
  refine ⟨g, c, rfl, hc, hg, fun i hi => ?_⟩
  obtain ⟨g', e, -, hcc⟩ := hx i hi
  have : g' = g := by injection e with e; injection e with e; exact e.symm
  subst this; exact hcc
theorem Ltr.shape {w : World} {v : Value} {L : List ByteArray} (h : Ltr w v L) : ∃ a c, v = .slice a L.length c ∧ L.length ≤ c := by
  obtain ⟨a, c, rfl, hc, _⟩ := h
  exact ⟨a, c, rfl, hc⟩
theorem Ltr.of {w : World} {B : Nat} {v : Value} {L : List ByteArray} (h : w.ownsRow B 9 1 v L.length (L.map Value.string)) : Ltr w v L := by
  obtain ⟨a, c, rfl, hc⟩ := owns_shape h
  refine ⟨a, c, rfl, hc, fun i hi => ?_⟩
  rcases h.2 with ⟨h0, h1⟩ | ⟨g, cap, cur, hv, hb, hg, hr⟩
  · omega
  · injection hv with e1 e2 e3
    subst e1; subst e3
    have := World.ownsRow.cells h (g := g) rfl i (.string L[i]) (by rw [List.getElem?_map, List.getElem?_eq_getElem hi]; rfl)
    rw [Addr.add_mid, Nat.zero_add] at this
    exact ⟨g, rfl, (Array.getElem?_eq_some_iff.1 hg).1, this⟩
theorem Ltr.nil (w : World) : Ltr w (.slice none 0 0) [] := ⟨none, 0, rfl, Nat.le_refl _, fun i h => absurd h (Nat.not_lt_zero _)⟩
theorem Ltr.new (w : World) (L : List ByteArray) (t : TypeId) (c : Nat) (hc : L.length ≤ c) : Ltr (w.alloc (.cells (L.map Value.string).toArray t)) (.slice (some ⟨w.heap.size, 0, none⟩) L.length c) L := by
  refine ⟨_, _, rfl, hc, fun i hi => ⟨_, rfl, by simp, ?_⟩⟩
  rw [World.cell?_alloc_new]
  simp [hi]

set_option maxHeartbeats 1000000 in
set_option maxRecDepth 100000 in
theorem Same_any (u v : Value) (A B : List ByteArray) (w : World) (hu : Ltr w u A) (hv : Ltr w v B) (hA : A.length ≤ 1000000) :
    Calls Tryd.prog 13 #[u, v] w fun e w' => e = .returned (.bool (decide (A = B))) ∧ Below w.heap.size w w' := by
  obtain ⟨ua, uc, rfl, _⟩ := hu.shape
  obtain ⟨va, vc, rfl, _⟩ := hv.shape
  have HU := Lib.hid hu
  have HV := Lib.hid hv
  clear hu hv
  go_enter Tryd.func13, Tryd.ntmps13
  by_cases hl : A.length = B.length
  · have q1 : ((A.length : Int) != (B.length : Int)) = false := by rw [bne_eq_false_iff_eq]; omega
    have HL := Lib.hid hl
    clear hl
    go_wp2
    go_loopw [5] (fun i wr => ∃ k : Nat, k ≤ A.length ∧ i = .int .i64 (k : Int) ∧ (∀ j, j < k → A[j]? = B[j]?) ∧ Below w.heap.size w wr) (fun i _ => A.length - (intOf i).toNat)
    case atStart => exact ⟨0, Nat.zero_le _, rfl, fun j hj => absurd hj (Nat.not_lt_zero _), Below.refl _ _⟩
    case round =>
      obtain ⟨k, hk, rfl, hsame, hb⟩ := hrel
      have HB := Lib.hid hb
      have HS := Lib.hid hsame
      clear hb hsame
      by_cases hlt : k < A.length
      · have hltB : k < B.length := by have := HL.out; omega
        have hki : (k : Int) < (A.length : Int) := by omega
        have hkj : (k : Int) < (B.length : Int) := by omega
        obtain ⟨gu, cu, e1, _, hgu, hcu⟩ := HU.out.at (by omega)
        obtain ⟨gv, cv, e2, _, hgv, hcv⟩ := HV.out.at (by omega)
        injection e1 with e1 _ e1'
        injection e2 with e2 _ e2'
        subst e1; subst e2; subst e1'; subst e2'
        have c1 := (HB.out.cell (p := ⟨gu, k, none⟩) hgu).trans (hcu k hlt)
        have c2 := (HB.out.cell (p := ⟨gv, k, none⟩) hgv).trans (hcv k hltB)
        have HX := Lib.hid (show A[k]? = some A[k] from List.getElem?_eq_getElem hlt)
        have HY := Lib.hid (show B[k]? = some B[k] from List.getElem?_eq_getElem hltB)
        generalize A[k] = x at *
        generalize B[k] = y at *
        clear hcu hcv
        by_cases he : x = y
        · have q2 : (x.toList == y.toList) = true := by rw [he]; simp
          have HXY := Lib.hid he
          clear he
          go_upto_region 6 with fail
          go_quiet (fail)
          go_wp2
          refine ⟨⟨k + 1, by omega, rfl, fun j hj => ?_, bdrew HB.out _⟩, ?_⟩
          · by_cases e : j = k
            · subst e; rw [HX.out, HY.out, HXY.out]
            · exact HS.out j (by omega)
          · simp [intOf] <;> omega
        · have q2 : (x.toList == y.toList) = false := beq_eq_false_iff_ne.2 fun h => he (toList_inj h)
          have HXY := Lib.hid he
          clear he
          go_upto_region 6 with fail
          go_quiet (fail)
          go_wp2
          go_ret
          refine ⟨ret_bool (decide_eq_false fun h => ?_).symm, bdrew HB.out _⟩
          have h1 := HX.out
          rw [h, HY.out] at h1
          exact HXY.out (Option.some.inj h1).symm
      · have hkl : k = A.length := by omega
        subst hkl
        go_wp2
        go_ret
        refine ⟨ret_bool (decide_eq_true (List.ext_getElem? fun j => ?_)).symm, HB.out⟩
        by_cases hj : j < A.length
        · exact HS.out j hj
        · rw [List.getElem?_eq_none (by omega), List.getElem?_eq_none (by have := HL.out; omega)]
  · have q1 : ((A.length : Int) != (B.length : Int)) = true := by rw [bne_iff_ne]; omega
    have hne : decide (A = B) = false := decide_eq_false fun h => hl (by rw [h])
    rw [hne]
    clear hl hne
    go_wp2
    go_ret
    exact ⟨rfl, Below.refl _ _⟩
end Go.Proofs.YtnglmaebmabdcaaDoor
