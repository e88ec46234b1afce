/- Box: Add. -/
import Derived.Test.YtpmakbjchepkmaaDoorB2
import Derived.Test.YtpmakbjchepkmaaDoorB7
import Derived.Test.YtpmakbjchepkmaaDoorBS
namespace Go.Proofs.YtpmakbjchepkmaaDoor
open Go Go.RowKit

def boxV0 : Value := boxV ⟨#[]⟩ 0 0 (.slice none 0 0)
/-- What Add tells. -/
def AddR (W : World) (name : ByteArray) (valid next : Int) (ps : List LV) (flags : UInt8) (p : List UInt8) (e : Ending) (w' : World) : Prop :=
  Below W.heap.size W w' ∧ (addE valid next (ps.map (·.1)) flags p.length ≠ 0 → e = .returned (.tuple #[boxV0, .int .i64 0, .int .i64 (addE valid next (ps.map (·.1)) flags p.length)])) ∧
  (addE valid next (ps.map (·.1)) flags p.length = 0 → ∃ a c qs, e = .returned (.tuple #[boxV name valid (next + 1) (.slice a qs.length c), .int .i64 next, .int .i64 0]) ∧ Owns W.heap.size w' (.slice a qs.length c) qs ∧ qs.map (·.1) = ps.map (·.1) ++ [⟨next, flags, p⟩] ∧
    ∀ q ∈ qs, Row W.heap.size w' q.2 q.1.bytes ∧ ∀ g, a = some ⟨g, 0, none⟩ → q.2.ownBlock ≠ some g)
theorem AddR.bad {W w' : World} {name : ByteArray} {valid next : Int} {ps : List LV} {flags : UInt8} {p : List UInt8} {x : Int} (hx : addE valid next (ps.map (·.1)) flags p.length = x) (h0 : x ≠ 0) (hb : Below W.heap.size W w') :
    AddR W name valid next ps flags p (.returned (.tuple #[boxV0, .int .i64 0, .int .i64 x])) w' :=
  ⟨hb, fun _ => by rw [hx], fun h => absurd (hx.symm.trans h) h0⟩

set_option maxHeartbeats 4000000 in
set_option maxRecDepth 100000 in
theorem add_bad (name : ByteArray) (valid next : Int) (sv : Value) (ps : List LV) (flags : UInt8) (pv : Value) (p : List UInt8) (w : World) (h : Lets w sv ps) (hlen : ps.length ≤ 9223372036854775807) (hp : Byz w pv p)
    (hE : addE valid next (ps.map (·.1)) flags p.length ≠ 0) :
    Calls Tryd.prog 15 #[boxV name valid next sv, .int .u8 (flags.toNat : Int), pv] w (AddR w name valid next ps flags p) := by
  have hb0 : Below w.heap.size w ((w.alloc (.cells #[.string name, .int .i64 valid, .int .i64 next, sv] 40)).alloc (.cells #[.string ⟨#[]⟩, .int .i64 0, .int .i64 0, .slice none 0 0] 40)) := ((Below.refl _ w).alloc (Nat.le_refl _) _).alloc (by simp) _
  have h0 := h.below hb0
  have hBx : BoxW ((w.alloc (.cells #[.string name, .int .i64 valid, .int .i64 next, sv] 40)).alloc (.cells #[.string ⟨#[]⟩, .int .i64 0, .int .i64 0, .slice none 0 0] 40)) w.heap.size name valid next sv :=
    (BoxW.new w name valid next sv 40).below ((Below.refl _ _).alloc (Nat.le_refl _) _) (by simp)
  have hBr : BoxW ((w.alloc (.cells #[.string name, .int .i64 valid, .int .i64 next, sv] 40)).alloc (.cells #[.string ⟨#[]⟩, .int .i64 0, .int .i64 0, .slice none 0 0] 40)) (w.heap.size + 1) ⟨#[]⟩ 0 0 (.slice none 0 0) := by
    have := BoxW.new (w.alloc (.cells #[.string name, .int .i64 valid, .int .i64 next, sv] 40)) ⟨#[]⟩ 0 0 (.slice none 0 0) 40
    simpa using this
  have hsz0 : ((w.alloc (.cells #[.string name, .int .i64 valid, .int .i64 next, sv] 40)).alloc (.cells #[.string ⟨#[]⟩, .int .i64 0, .int .i64 0, .slice none 0 0] 40)).heap.size = w.heap.size + 2 := by simp
  have hck := check_any name valid next sv ps _ h0 hlen
  obtain ⟨⟨pa, pc, rfl⟩, _⟩ := hp
  obtain ⟨sa, sc, rfl, _⟩ := h.shape
  have hu := flags.toNat_lt
  generalize hX : addE valid next (ps.map (·.1)) flags p.length = X at hE
  have hX0 := hX
  have HX := Lib.hid hX0
  unfold addE at hX
  unfold boxV at hck ⊢
  generalize chk valid next (ps.map (·.1)) = ck at *
  have HCK := Lib.hid hck
  have HBX := Lib.hid hBx
  have HBR := Lib.hid hBr
  have HB0 := Lib.hid hb0
  have HSZ := Lib.hid hsz0
  rw [List.length_map] at hX
  have HXX := Lib.hid hX
  clear hck hBx hBr hb0 hsz0 h0 h hX hX0
  go_enter Tryd.func15, Tryd.ntmps15
  go_wp2_with fail
  refine HCK.out.mono ?_
  rintro e w1 ⟨rfl, hb1⟩
  have hB1 := HBX.out.below hb1 (by rw [HSZ.out]; omega)
  have hR1 := HBR.out.below hb1 (by rw [HSZ.out]; omega)
  have hbb := HB0.out.trans (hb1.mono HB0.out.size)
  obtain ⟨W4, hW4, hb4, hf4⟩ := hR1.put4 ⟨#[]⟩ 0 0 (.slice none 0 0)
  have hbb4 : Below w.heap.size w W4 := hbb.trans (hf4.below hbb.size (fun k e => by subst e; omega))
  obtain ⟨k0, k1, k2, k3, _⟩ := hb4
  have HBB4 := Lib.hid hbb4
  have HW4 := Lib.hid hW4
  obtain ⟨c0, c1, c2, c3, f0, f1, f2, f3⟩ := hB1
  obtain ⟨d0, d1, d2, d3, g0, g1, g2, g3⟩ := hR1
  have hX := HXX.out
  clear hb1 hbb hbb4 hf4 hW4 HB0 HBX HBR HCK HSZ
  by_cases hc : ck = 0
  · subst hc
    rw [if_neg (by simp)] at hX
    by_cases hf : 32 ≤ flags.toNat
    · rw [if_pos hf] at hX
      subst hX
      clear HXX
      go_wp2
      rw [← HW4.out]
      exact bodyPost_ret (v := .tuple #[boxV0, .int .i64 0, .int .i64 2]) (by simp [results, Tryd.results15, go_sem, k0, k1, k2, k3, boxV0, boxV]) rfl (AddR.bad HX.out (by decide) HBB4.out)
    · rw [if_neg hf] at hX
      by_cases hl : 600 < p.length
      · rw [if_pos hl] at hX
        subst hX
        clear HXX
        go_wp2
        rw [← HW4.out]
        exact bodyPost_ret (v := .tuple #[boxV0, .int .i64 0, .int .i64 6]) (by simp [results, Tryd.results15, go_sem, k0, k1, k2, k3, boxV0, boxV]) rfl (AddR.bad HX.out (by decide) HBB4.out)
      · rw [if_neg hl] at hX
        by_cases hfull : ps.length = 32 ∨ next = 4294967295
        · rw [if_pos hfull] at hX
          subst hX
          clear HXX
          by_cases h32 : ps.length = 32
          · have h32' : ((ps.length : Int) == 32) = true := by rw [beq_iff_eq]; omega
            clear hfull h32
            go_wp2
            rw [← HW4.out]
            exact bodyPost_ret (v := .tuple #[boxV0, .int .i64 0, .int .i64 8]) (by simp [results, Tryd.results15, go_sem, k0, k1, k2, k3, boxV0, boxV]) rfl (AddR.bad HX.out (by decide) HBB4.out)
          · have h32' : ((ps.length : Int) == 32) = false := by rw [beq_eq_false_iff_ne]; omega
            have hn' : (next == 4294967295) = true := by rw [beq_iff_eq]; omega
            clear hfull h32
            go_wp2
            rw [← HW4.out]
            exact bodyPost_ret (v := .tuple #[boxV0, .int .i64 0, .int .i64 8]) (by simp [results, Tryd.results15, go_sem, k0, k1, k2, k3, boxV0, boxV]) rfl (AddR.bad HX.out (by decide) HBB4.out)
        · rw [if_neg hfull] at hX
          exact absurd hX.symm hE
  · have hc' : (ck != 0) = true := by simpa using hc
    rw [if_pos hc] at hX
    subst hX
    clear HXX
    go_wp2
    rw [← HW4.out]
    exact bodyPost_ret (v := .tuple #[boxV0, .int .i64 0, .int .i64 ck]) (by simp [results, Tryd.results15, go_sem, k0, k1, k2, k3, boxV0, boxV]) rfl (AddR.bad HX.out hc HBB4.out)
end Go.Proofs.YtpmakbjchepkmaaDoor
