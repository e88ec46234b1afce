/- Box: BoxAdds, walked. -/
import Derived.Test.YtpmakbjchepkmaaBA3
import Derived.Test.YtpmakbjchepkmaaBM3
namespace Go.Proofs.Ytpmakbjchepkmaa
open Go Go.RowKit Go.ChangeShapes Go.WideShapes Go.ChangeAt Go.Deep Go.Joins

set_option maxRecDepth 100000 in
theorem open_byz {H : Type} {enc : TypeId × Value → H} {W : World} {base : Nat} {v : Value} {d : DataW H} {p : List MemPlace}
    (hval : Value.okWide Try.prog W .any base 30 v) (h0 : DataW.Trod enc Try.prog W 0 (fun _ => true) true 30 v d p) : ∃ l, Byz W v l := by
  obtain ⟨a0, len, cap, rfl⟩ := okWide_slice Try.underlying30 hval
  obtain ⟨fuel, hf⟩ := h0
  obtain ⟨l, h, _⟩ := byt_of (v := .slice a0 len cap) hf
  exact ⟨l, h⟩

/-- What either Add tells, in one form. -/
def AddT (W : World) (E : Int) (name : ByteArray) (valid next : Int) (L : List Letr) (n : Int) (e : Ending) (w' : World) : Prop :=
  ∃ a c qs, e = .returned (.tuple #[boxV name valid next (.slice a qs.length c), .int .i64 n, .int .i64 E]) ∧ Lets w' (.slice a qs.length c) qs ∧ qs.map (·.1) = L ∧ Below W.heap.size W w'
theorem add_both (name : ByteArray) (valid next : Int) (ps : List LV) (flags : UInt8) (p : List UInt8) :
    ∃ (nm : ByteArray) (vl nx n : Int) (L : List Letr), L.length ≤ 33 ∧
      (∀ sv w pv, Lets w sv ps → ps.length ≤ 9223372036854775807 → Byz w pv p → Calls Try.prog 15 #[boxV name valid next sv, .int .u8 (flags.toNat : Int), pv] w (AddT w (addE valid next (ps.map (·.1)) flags p.length) nm vl nx L n)) ∧
      (∀ sv w pv, Lets w sv ps → ps.length ≤ 9223372036854775807 → Byz w pv p → Calls Try.prog 16 #[boxV name valid next sv, .int .u8 (flags.toNat : Int), pv] w (AddT w (addE valid next (ps.map (·.1)) flags p.length) nm vl nx L n)) := by
  by_cases hE : addE valid next (ps.map (·.1)) flags p.length = 0
  · refine ⟨name, valid, next + 1, next, ps.map (·.1) ++ [⟨next, flags, p⟩], ?_, fun sv w pv h hlen hp => ?_, fun sv w pv h hlen hp => ?_⟩
    · have h1 := (chk_ok (add_right hE)).2.2.1
      omega
    · refine (add_ok name valid next sv ps flags pv p w h hp hE).mono ?_
      rintro e w' ⟨hb, _, hok⟩
      obtain ⟨a, c, qs, rfl, hown, hqs, hfr⟩ := hok hE
      exact ⟨a, c, qs, by rw [hE], hown.lets (fun q hq => (hfr q hq).1.1.z), hqs, hb⟩
    · refine (radd_ok name valid next sv ps flags pv p w h hp hE).mono ?_
      rintro e w' ⟨hb, _, hok⟩
      obtain ⟨a, c, qs, rfl, hl, hqs⟩ := hok hE
      exact ⟨a, c, qs, by rw [hE], hl, hqs, hb⟩
  · refine ⟨⟨#[]⟩, 0, 0, 0, [], by simp, fun sv w pv h hlen hp => ?_, fun sv w pv h hlen hp => ?_⟩
    · refine (add_bad name valid next sv ps flags pv p w h hlen hp hE).mono ?_
      rintro e w' ⟨hb, hbad, _⟩
      exact ⟨none, 0, [], hbad hE, Lets.nil _ _ _, rfl, hb⟩
    · refine (radd_bad name valid next sv ps flags pv p w h hlen hp hE).mono ?_
      rintro e w' ⟨hb, hbad, _⟩
      exact ⟨none, 0, [], hbad hE, Lets.nil _ _ _, rfl, hb⟩

set_option maxHeartbeats 4000000 in
set_option maxRecDepth 100000 in
theorem walk_adds (name : ByteArray) (valid next : Int) (sv pv : Value) (ps : List LV) (flags : UInt8) (p : List UInt8) (w : World) (h : BoxIn w name valid next sv ps) (hp : Byz w pv p) (hM : Ml w) :
    Calls Try.prog 4 #[boxV name valid next sv, .int .u8 (flags.toNat : Int), pv] w fun e w' => e = .returned (.bool true) ∧ Below w.heap.size w w' := by
  obtain ⟨nm, vl, nx, n, L, hL, hadd, hradd⟩ := add_both name valid next ps flags p
  have hb0 : Below w.heap.size w (w.alloc (.cells #[.string name, .int .i64 valid, .int .i64 next, sv] 24)) := (Below.refl _ w).alloc (Nat.le_refl _) _
  have hbx := BoxW.new w name valid next sv 24
  obtain ⟨W0, hW0⟩ : ∃ W0, W0 = w.alloc (.cells #[.string name, .int .i64 valid, .int .i64 next, sv] 24) := ⟨_, rfl⟩
  rw [← hW0] at hb0 hbx
  have hl0 := h.lets.below hb0
  have hp0 := hp.below hb0
  have hM0 := hM.below hb0
  have hlen := h.len
  obtain ⟨sa, sc, rfl, _⟩ := h.lets.shape
  obtain ⟨⟨pa, pc, rfl⟩, _⟩ := id hp
  generalize addE valid next (ps.map (·.1)) flags p.length = E at *
  have HF := Lib.hid (hadd _ W0 _ hl0 hlen hp0)
  have HG := Lib.hid (fun W (hW : Below W0.heap.size W0 W) => hradd _ W _ (hl0.below hW) hlen (hp0.below hW))
  have HLL := Lib.hid hL
  unfold boxV at HF HG ⊢
  have HMM := Lib.hid hM0
  have HB := Lib.hid hb0
  have HW := Lib.hid hW0
  have HBX := Lib.hid hbx
  have hu := flags.toNat_lt
  obtain ⟨c0, c1, c2, c3, _⟩ := id hbx
  clear hL hadd hradd hb0 hbx hW0 hl0 hp0 hM0 hM h hp hlen
  go_enter Try.func4, Try.ntmps4
  go_wp2_with (rw [← HW.out])
  refine HF.out.mono ?_
  rintro e w1 ⟨a1, k1, q1, rfl, hl1, hm1, hb1⟩
  unfold boxV
  have hx1 := BoxW.new w1 nm vl nx (.slice a1 q1.length k1) 24
  have hy1 : Below w1.heap.size w1 (w1.alloc (.cells #[.string nm, .int .i64 vl, .int .i64 nx, .slice a1 q1.length k1] 24)) := (Below.refl _ w1).alloc (Nat.le_refl _) _
  obtain ⟨W1, hW1⟩ : ∃ W1, W1 = w1.alloc (.cells #[.string nm, .int .i64 vl, .int .i64 nx, .slice a1 q1.length k1] 24) := ⟨_, rfl⟩
  rw [← hW1] at hx1 hy1
  have HW1 := Lib.hid hW1
  have HB1 := Lib.hid (hb1.trans (hy1.mono hb1.size))
  have HL1 := Lib.hid (hl1.below hy1)
  have HX1 := Lib.hid hx1
  have HM1 := Lib.hid hm1
  have HG1 := Lib.hid (HG.out W1 HB1.out)
  clear c0 c1 c2 c3 hW1 hb1 hy1 hl1 hx1 hm1 HF HG
  obtain ⟨c0, c1, c2, c3, _⟩ := HBX.out.below HB1.out HBX.out.lt
  go_wp2_with (first | rw [← HW1.out])
  refine HG1.out.mono ?_
  rintro e w2 ⟨a2, k2, q2, rfl, hl2, hm2, hb2⟩
  unfold boxV
  have hx2 := BoxW.new w2 nm vl nx (.slice a2 q2.length k2) 24
  have hy2 : Below w2.heap.size w2 (w2.alloc (.cells #[.string nm, .int .i64 vl, .int .i64 nx, .slice a2 q2.length k2] 24)) := (Below.refl _ w2).alloc (Nat.le_refl _) _
  obtain ⟨W2, hW2⟩ : ∃ W2, W2 = w2.alloc (.cells #[.string nm, .int .i64 vl, .int .i64 nx, .slice a2 q2.length k2] 24) := ⟨_, rfl⟩
  rw [← hW2] at hx2 hy2
  have HW2 := Lib.hid hW2
  have hbb := hb2.trans (hy2.mono hb2.size)
  have HB2 := Lib.hid (HB1.out.trans (hbb.mono HB1.out.size))
  have h1 := HL1.out.below hbb
  have h2 := hl2.below hy2
  have hqq : q1.map (·.1) = q2.map (·.1) := by rw [HM1.out, hm2]
  have h33 : q1.length ≤ 33 := by have := HLL.out; rw [← HM1.out, List.length_map] at this; exact this
  have HS := Lib.hid (fun W (hb : Below W2.heap.size W2 W) => same_old nm vl nx (.slice a1 q1.length k1) (.slice a2 q2.length k2) q1 q2 hb (h1.below hb) (h2.below hb) hqq (by omega))
  have HLV := Lib.hid (bring (W0 := W2) (Below.refl _ _) (live_any W2 (HMM.out.below HB2.out)))
  have HX12 := Lib.hid (HX1.out.below hbb HX1.out.lt)
  have HX2 := Lib.hid hx2
  unfold boxV at HS
  clear c0 c1 c2 c3 hW2 hb2 hy2 hl2 hx2 hm2 hbb h1 h2 hqq h33 HG1 HL1 HX1 HM1 HLL
  go_wp2_with (first | rw [← HW2.out])
  refine HLV.out.mono ?_
  rintro e w3 ⟨rfl, hb3⟩
  obtain ⟨c0, c1, c2, c3, _⟩ := HX12.out.below hb3 HX12.out.lt
  obtain ⟨d0, d1, d2, d3, _⟩ := HX2.out.below hb3 HX2.out.lt
  have HS3 := Lib.hid (HS.out w3 hb3)
  clear hb3 HS HLV HW1 HW2 HW
  go_wp2_with fail
  refine HS3.out.mono ?_
  rintro e w4 ⟨rfl, hb4⟩
  go_wp2
  go_ret
  exact ⟨by simp, HB.out.trans ((HB2.out.trans (hb4.mono HB2.out.size)).mono HB.out.size)⟩
end Go.Proofs.Ytpmakbjchepkmaa
