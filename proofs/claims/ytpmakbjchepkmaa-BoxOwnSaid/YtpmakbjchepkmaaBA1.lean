/- Box: the document's Add. -/
import Derived.Test.YtpmakbjchepkmaaB4
import Derived.Test.YtpmakbjchepkmaaB10
import Derived.Deep.RegionHeld3
namespace Go.Proofs.Ytpmakbjchepkmaa
open Go Go.RowKit

theorem chain {w X W : World} (h : Below w.heap.size w X) (k : Below X.heap.size X W) : Below w.heap.size w W := h.trans (k.mono h.size)
theorem chain_alloc {w X : World} (ob : Obj) (h : Below w.heap.size w X) : Below w.heap.size w (X.alloc ob) := h.alloc h.size ob
theorem chain_drew {w X : World} (h : Below w.heap.size w X) : Below w.heap.size w X.drew := h.drew
theorem chain_grown {w X W : World} {row : Option Nat} (h : Below w.heap.size w X) (hg : X.grownBy W row) (hr : ∀ k, row = some k → w.heap.size ≤ k) : Below w.heap.size w W := h.grown hg h.size hr
/-- A literal of no letters. -/
theorem owns_lit (w : World) : Owns w.heap.size (w.alloc (.cells #[] 44)) (.slice (some ⟨w.heap.size, 0, none⟩) 0 0) [] := by
  refine ⟨by simp [cellsP], Or.inr ⟨w.heap.size, 0, #[], rfl, Nat.le_refl _, heap_alloc_last w _, Nat.le_refl _, by unfold maxLen; omega, by simp, by simp [cellsP]⟩⟩
theorem row_lit (w : World) : Row w.heap.size (w.alloc (.cells #[] 5)) (.slice (some ⟨w.heap.size, 0, none⟩) 0 0) [] := Row.made w 5 [] #[] rfl (Nat.le_refl _) (by simp)
/-- append([]byte{}, p...). -/
theorem appB (w : World) {B : Nat} {v x : Value} {l p : List UInt8} (hv : Row B w v l) (hx : Byz w x p) (hB : B ≤ w.heap.size) (hlen : l.length + p.length ≤ 1000000) :
    ∃ a c w', (∀ ty, (Builtin.append_ #[30, 30] ty #[v, x]).run Try.prog w = .ok (.slice a (l ++ p).length c) w') ∧ Row B w' (.slice a (l ++ p).length c) (l ++ p) ∧ w.grownBy w' v.ownBlock := by
  obtain ⟨i0, hi0, hz0, hz1, hz2⟩ := info_parts infoU8
  obtain ⟨v', w', hr, hrow', hg, _⟩ := run_append_src (P := Try.prog) w 30 30 5 i0 Try.underlying30 hi0 hz0 hz1 hz2 hv (hx.src Try.underlying30) hB (by omega)
  obtain ⟨a', c', rfl, _⟩ := hrow'.1.shape
  exact ⟨a', c', w', hr, hrow', hg⟩
theorem lit_letter (w : World) (x : Letr) (bv : Value) (h : Byz (w.alloc (.cells #[.int .i64 x.uid, .int .u8 (x.flags.toNat : Int), bv] 44)) bv x.bytes) :
    Lets (w.alloc (.cells #[.int .i64 x.uid, .int .u8 (x.flags.toNat : Int), bv] 44)) (.slice (some ⟨w.heap.size, 0, none⟩) 1 1) [(x, bv)] := by
  refine ⟨⟨_, 1, rfl, Nat.le_refl _⟩, fun _ => ⟨w.heap.size, 0, 1, rfl, by simp, fun j u hj => ?_⟩, fun p hp => by rw [List.mem_singleton] at hp; subst hp; exact h⟩
  rw [Nat.zero_add, cell_of_row _ _ _ _ _ _ (heap_alloc_last w _)]
  simpa [cellsP, cellsLV] using hj

/-- What the document's Add tells. -/
def RAddR (W : World) (name : ByteArray) (valid next : Int) (ps : List LV) (flags : UInt8) (p : List UInt8) (e : Ending) (w' : World) : Prop :=
  Below W.heap.size W w' ∧ (addE valid next (ps.map (·.1)) flags p.length ≠ 0 → e = .returned (.tuple #[boxV0, .int .i64 0, .int .i64 (addE valid next (ps.map (·.1)) flags p.length)])) ∧
  (addE valid next (ps.map (·.1)) flags p.length = 0 → ∃ a c qs, e = .returned (.tuple #[boxV name valid (next + 1) (.slice a qs.length c), .int .i64 next, .int .i64 0]) ∧ Lets w' (.slice a qs.length c) qs ∧ qs.map (·.1) = ps.map (·.1) ++ [⟨next, flags, p⟩])
theorem RAddR.bad {W w' : World} {name : ByteArray} {valid next : Int} {ps : List LV} {flags : UInt8} {p : List UInt8} {x : Int} (hx : addE valid next (ps.map (·.1)) flags p.length = x) (h0 : x ≠ 0) (hb : Below W.heap.size W w') :
    RAddR W name valid next ps flags p (.returned (.tuple #[boxV0, .int .i64 0, .int .i64 x])) w' :=
  ⟨hb, fun _ => by rw [hx], fun h => absurd (hx.symm.trans h) h0⟩

set_option maxHeartbeats 4000000 in
set_option maxRecDepth 100000 in
theorem radd_bad (name : ByteArray) (valid next : Int) (sv : Value) (ps : List LV) (flags : UInt8) (pv : Value) (p : List UInt8) (w : World) (h : Lets w sv ps) (hlen : ps.length ≤ 9223372036854775807) (hp : Byz w pv p)
    (hE : addE valid next (ps.map (·.1)) flags p.length ≠ 0) :
    Calls Try.prog 16 #[boxV name valid next sv, .int .u8 (flags.toNat : Int), pv] w (RAddR w name valid next ps flags p) := by
  have hb0 : Below w.heap.size w ((w.alloc (.cells #[.string name, .int .i64 valid, .int .i64 next, sv] 24)).alloc (.cells #[.string ⟨#[]⟩, .int .i64 0, .int .i64 0, .slice none 0 0] 24)) := ((Below.refl _ w).alloc (Nat.le_refl _) _).alloc (by simp) _
  have h0 := h.below hb0
  have hBx : BoxW ((w.alloc (.cells #[.string name, .int .i64 valid, .int .i64 next, sv] 24)).alloc (.cells #[.string ⟨#[]⟩, .int .i64 0, .int .i64 0, .slice none 0 0] 24)) w.heap.size name valid next sv :=
    (BoxW.new w name valid next sv 24).below ((Below.refl _ _).alloc (Nat.le_refl _) _) (by simp)
  have hBr : BoxW ((w.alloc (.cells #[.string name, .int .i64 valid, .int .i64 next, sv] 24)).alloc (.cells #[.string ⟨#[]⟩, .int .i64 0, .int .i64 0, .slice none 0 0] 24)) (w.heap.size + 1) ⟨#[]⟩ 0 0 (.slice none 0 0) := by
    have := BoxW.new (w.alloc (.cells #[.string name, .int .i64 valid, .int .i64 next, sv] 24)) ⟨#[]⟩ 0 0 (.slice none 0 0) 24
    simpa using this
  have hsz0 : ((w.alloc (.cells #[.string name, .int .i64 valid, .int .i64 next, sv] 24)).alloc (.cells #[.string ⟨#[]⟩, .int .i64 0, .int .i64 0, .slice none 0 0] 24)).heap.size = w.heap.size + 2 := by simp
  have hck := refCheck name valid next sv ps _ h0 hlen
  have hok := fun h => (chk_ok (valid := valid) (next := next) (l := ps.map (·.1)) h)
  obtain ⟨⟨pa, pc, rfl⟩, _⟩ := hp
  obtain ⟨sa, sc, rfl, _⟩ := h.shape
  have hu := flags.toNat_lt
  generalize hX : addE valid next (ps.map (·.1)) flags p.length = X at hE
  have hX0 := hX
  have HX := Lib.hid hX0
  unfold addE at hX
  unfold boxV at hck ⊢
  generalize chk valid next (ps.map (·.1)) = ck at *
  have HCK := Lib.hid hck
  have HOK := Lib.hid hok
  have HBX := Lib.hid hBx
  have HBR := Lib.hid hBr
  have HB0 := Lib.hid hb0
  have HSZ := Lib.hid hsz0
  rw [List.length_map] at hX
  have HXX := Lib.hid hX
  clear hck hBx hBr hb0 hsz0 h0 h hX hX0 hok
  go_enter Try.func16, Try.ntmps16
  go_wp2_with fail
  refine HCK.out.mono ?_
  rintro e w1 ⟨rfl, hb1⟩
  have hB1 := HBX.out.below hb1 (by rw [HSZ.out]; omega)
  have hR1 := HBR.out.below hb1 (by rw [HSZ.out]; omega)
  have hbb := HB0.out.trans (hb1.mono HB0.out.size)
  obtain ⟨W4, hW4, hb4, hf4⟩ := hR1.put4 ⟨#[]⟩ 0 0 (.slice none 0 0)
  have hbb4 : Below w.heap.size w W4 := hbb.trans (hf4.below hbb.size (fun k e => by subst e; omega))
  obtain ⟨k0, k1, k2, k3, _⟩ := hb4
  have HBB4 := Lib.hid hbb4
  have HW4 := Lib.hid hW4
  obtain ⟨c0, c1, c2, c3, f0, f1, f2, f3⟩ := hB1
  obtain ⟨d0, d1, d2, d3, g0, g1, g2, g3⟩ := hR1
  have hX := HXX.out
  clear hb1 hbb hbb4 hf4 hW4 HB0 HBX HBR HCK HSZ
  by_cases hc : ck = 0
  · subst hc
    rw [if_neg (by simp)] at hX
    obtain ⟨_, ⟨_, hn2⟩, h32, _⟩ := HOK.out rfl
    rw [List.length_map] at h32
    have H32 := Lib.hid h32
    have HN2 := Lib.hid hn2
    clear h32 hn2 HOK
    by_cases hf : 32 ≤ flags.toNat
    · rw [if_pos hf] at hX
      subst hX
      clear HXX
      have hf' : (31 : Int) < (flags.toNat : Int) := by omega
      go_wp2
      rw [← HW4.out]
      exact bodyPost_ret (v := .tuple #[boxV0, .int .i64 0, .int .i64 2]) (by simp [results, Try.results16, go_sem, k0, k1, k2, k3, boxV0, boxV]) rfl (RAddR.bad HX.out (by decide) HBB4.out)
    · rw [if_neg hf] at hX
      have hf' : ¬ (31 : Int) < (flags.toNat : Int) := by omega
      by_cases hl : 600 < p.length
      · rw [if_pos hl] at hX
        subst hX
        clear HXX
        go_wp2
        rw [← HW4.out]
        exact bodyPost_ret (v := .tuple #[boxV0, .int .i64 0, .int .i64 6]) (by simp [results, Try.results16, go_sem, k0, k1, k2, k3, boxV0, boxV]) rfl (RAddR.bad HX.out (by decide) HBB4.out)
      · rw [if_neg hl] at hX
        by_cases hfull : ps.length = 32 ∨ next = 4294967295
        · rw [if_pos hfull] at hX
          subst hX
          clear HXX
          by_cases h32 : (31 : Int) < (ps.length : Int)
          · clear hfull
            go_wp2
            rw [← HW4.out]
            exact bodyPost_ret (v := .tuple #[boxV0, .int .i64 0, .int .i64 8]) (by simp [results, Try.results16, go_sem, k0, k1, k2, k3, boxV0, boxV]) rfl (RAddR.bad HX.out (by decide) HBB4.out)
          · have hn' : (4294967294 : Int) < next := by omega
            clear hfull
            go_wp2
            rw [← HW4.out]
            exact bodyPost_ret (v := .tuple #[boxV0, .int .i64 0, .int .i64 8]) (by simp [results, Try.results16, go_sem, k0, k1, k2, k3, boxV0, boxV]) rfl (RAddR.bad HX.out (by decide) HBB4.out)
        · rw [if_neg hfull] at hX
          exact absurd hX.symm hE
  · have hc' : (ck != 0) = true := by simpa using hc
    rw [if_pos hc] at hX
    subst hX
    clear HXX HOK
    go_wp2
    rw [← HW4.out]
    exact bodyPost_ret (v := .tuple #[boxV0, .int .i64 0, .int .i64 ck]) (by simp [results, Try.results16, go_sem, k0, k1, k2, k3, boxV0, boxV]) rfl (RAddR.bad HX.out hc HBB4.out)
end Go.Proofs.Ytpmakbjchepkmaa
