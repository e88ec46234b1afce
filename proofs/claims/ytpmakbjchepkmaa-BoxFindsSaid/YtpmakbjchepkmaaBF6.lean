/- Box: the document's Find. -/
import Derived.Test.YtpmakbjchepkmaaBF5
import Derived.Test.YtpmakbjchepkmaaB4
namespace Go.Proofs.Ytpmakbjchepkmaa
open Go Go.RowKit

theorem or_and_all : ∀ x, x < 256 → ∀ f, f < 256 → (bits .or .u8 (x : Nat) (f : Nat) == ((x : Nat) : Int)) = (bits .and .u8 (x : Nat) (f : Nat) == ((f : Nat) : Int)) := by decide +kernel
theorem or_and (x f : UInt8) : (bits .or .u8 (x.toNat : Int) (f.toNat : Int) == (x.toNat : Int)) = (bits .and .u8 (x.toNat : Int) (f.toNat : Int) == (f.toNat : Int)) := or_and_all _ x.toNat_lt _ f.toNat_lt
theorem ownsI_lit (B : Nat) (w : World) (hB : B ≤ w.heap.size) : OwnsI B (w.alloc (.cells #[] 3)) (.slice (some ⟨w.heap.size, 0, none⟩) 0 0) [] := by
  refine ⟨by simp, Or.inr ⟨w.heap.size, 0, #[], rfl, hB, heap_alloc_last w _, Nat.le_refl _, by unfold maxLen; omega, by simp, by simp⟩⟩
theorem trueOf_snoc (l : List Qry) (q : Qry) (x : Letr) : trueOf (l ++ [q]) x = (trueOf l x && holdB q x) := by simp [trueOf]
theorem askOk_at {qs : List Qry} (h : askOk qs = true) {k : Nat} {q : Qry} (hq : qs[k]? = some q) : 1 ≤ q.ask ∧ q.ask ≤ 7 := by
  unfold askOk at h
  rw [List.all_eq_true] at h
  simpa using h q (List.mem_of_getElem? hq)

set_option maxHeartbeats 2000000 in
set_option maxRecDepth 100000 in
theorem rfind_bad (name : ByteArray) (valid next : Int) (sv qv : Value) (ps : List LV) (qs : List Qry) (w : World) (h : Lets w sv ps) (hlen : ps.length ≤ 9223372036854775807) (hq : Qrys w qv qs)
    (hE : chk valid next (ps.map (·.1)) ≠ 0 ∨ 16 < qs.length) :
    Calls Try.prog 23 #[boxV name valid next sv, qv] w (FindR w valid next ps qs) := by
  have hb0 : Below w.heap.size w (w.alloc (.cells #[.string name, .int .i64 valid, .int .i64 next, sv] 24)) := (Below.refl _ w).alloc (Nat.le_refl _) _
  have HCK := Lib.hid (refCheck name valid next sv ps _ (h.below hb0) hlen)
  obtain ⟨qa, qc, rfl⟩ := hq.shape
  obtain ⟨sa, sc, rfl, _⟩ := h.shape
  have HB0 := Lib.hid hb0
  by_cases hc : chk valid next (ps.map (·.1)) = 0
  · have hl : 16 < qs.length := by rcases hE with h | h; exact absurd hc h; exact h
    have HX := Lib.hid (show findE valid next (ps.map (·.1)) qs = 6 by unfold findE; rw [if_neg (by simp [hc]), if_pos hl])
    rw [hc] at HCK
    unfold boxV at HCK ⊢
    clear h hq hb0 hE hc
    go_enter Try.func23, Try.ntmps23
    go_wp2_with fail
    refine HCK.out.mono ?_
    rintro e w1 ⟨rfl, hb1⟩
    have HB1 := Lib.hid (HB0.out.trans (hb1.mono HB0.out.size))
    clear hb1
    go_wp2
    go_ret2
    exact FindR.bad HX.out (by decide) HB1.out
  · have HX := Lib.hid (show findE valid next (ps.map (·.1)) qs = chk valid next (ps.map (·.1)) by unfold findE; rw [if_pos hc])
    generalize chk valid next (ps.map (·.1)) = ck at *
    have hc' : (ck != 0) = true := by simpa using hc
    have HC := Lib.hid hc
    unfold boxV at HCK ⊢
    clear h hq hb0 hE hc
    go_enter Try.func23, Try.ntmps23
    go_wp2_with fail
    refine HCK.out.mono ?_
    rintro e w1 ⟨rfl, hb1⟩
    have HB1 := Lib.hid (HB0.out.trans (hb1.mono HB0.out.size))
    clear hb1
    go_wp2
    go_ret2
    exact FindR.bad HX.out HC.out HB1.out
end Go.Proofs.Ytpmakbjchepkmaa
