/- Box: Add, where it lays a letter: the walk. -/
import Derived.Test.YtpmakbjchepkmaaDoorB9
namespace Go.Proofs.YtpmakbjchepkmaaDoor
open Go Go.RowKit

theorem Owns.fr {B : Nat} {w w' : World} {v : Value} {qs : List LV} {o : Nat → Prop} (h : Owns B w v qs) (hf : Fr o w w') (ho : ∀ k, o k → k < B) : Owns B w' v qs :=
  owns_frame h (fun k hk => by have := World.ownsRow.lt h k hk; exact hf.block k this.2 (fun e => by have := ho k e; omega))
theorem row_own {B : Nat} {w : World} {v : Value} {l : List UInt8} (h : Row B w v l) : ∀ g, v.ownBlock = some g → B ≤ g ∧ g < w.heap.size := fun g hg => by
  refine ⟨?_, h.1.lt g hg⟩
  obtain ⟨a0, c0, e0, _⟩ := h.1.shape
  rw [e0] at hg
  cases a0 with
  | none => simp [Value.ownBlock] at hg
  | some ad =>
    simp [Value.ownBlock] at hg
    have := (h.2 ad _ _ e0).1
    omega
theorem Row.fr {B : Nat} {w w' : World} {v : Value} {l : List UInt8} {o : Nat → Prop} (h : Row B w v l) (hf : Fr o w w') (ho : ∀ k, o k → k < B) : Row B w' v l :=
  h.kept hf.size (fun k hk => by have := row_own h k hk; exact hf.block k this.2 (fun e => by have := ho k e; omega))
theorem Row.mono {B B' : Nat} {w : World} {v : Value} {l : List UInt8} (h : Row B w v l) (hb : B' ≤ B) : Row B' w v l := ⟨h.1, fun ad n c e => by obtain ⟨h1, h2⟩ := h.2 ad n c e; exact ⟨by omega, h2⟩⟩
theorem Fresh.fr {B : Nat} {w w' : World} {a : Option Addr} {qs : List LV} {o : Nat → Prop} (h : Fresh B w a qs) (hf : Fr o w w') (ho : ∀ k, o k → k < B) : Fresh B w' a qs :=
  fun q hq => ⟨(h q hq).1.fr hf ho, (h q hq).2⟩
theorem Fresh.mono {B B' : Nat} {w : World} {a : Option Addr} {qs : List LV} (h : Fresh B w a qs) (hb : B' ≤ B) : Fresh B' w a qs := fun q hq => ⟨(h q hq).1.mono hb, (h q hq).2⟩
theorem BoxW.set2 {w : World} {b : Nat} {name : ByteArray} {valid next : Int} {sv : Value} (h : BoxW w b name valid next sv) (n : Int) : BoxW (w.setCell ⟨b, 2, none⟩ (.int .i64 n)) b name valid n sv := by
  have o : ∀ j, j ≠ 2 → (w.setCell ⟨b, 2, none⟩ (.int .i64 n)).cell? ⟨b, j, none⟩ = w.cell? ⟨b, j, none⟩ := fun j hj => World.cell?_setCell_other _ _ _ _ (by intro e; injection e with _ e; omega)
  exact ⟨(o 0 (by omega)).trans h.c0, (o 1 (by omega)).trans h.c1, World.cell?_setCell_same _ _ _ h.c2, (o 3 (by omega)).trans h.c3, by rw [World.frozen?_setCell]; exact h.f0, by rw [World.frozen?_setCell]; exact h.f1, by rw [World.frozen?_setCell]; exact h.f2, by rw [World.frozen?_setCell]; exact h.f3⟩

/-- What stands behind the append: the two boxes, the letters. -/
structure AddMid (w W : World) (B : Nat) (name : ByteArray) (valid next : Int) (a : Option Addr) (c : Nat) (qs : List LV) : Prop where
  b0 : BoxW W w.heap.size name valid next (.slice a qs.length c)
  b1 : BoxW W (w.heap.size + 1) ⟨#[]⟩ 0 0 (.slice none 0 0)
  own : Owns B W (.slice a qs.length c) qs
  fresh : Fresh B W a qs
  hB : w.heap.size + 2 ≤ B
  below : Below w.heap.size w W
theorem AddMid.next {w W : World} {B : Nat} {name : ByteArray} {valid next : Int} {a : Option Addr} {c : Nat} {qs : List LV} (h : AddMid w W B name valid next a c qs) (n : Int) : AddMid w (W.setCell ⟨w.heap.size, 2, none⟩ (.int .i64 n)) B name valid n a c qs := by
  have hf : Fr (· = w.heap.size) W (W.setCell ⟨w.heap.size, 2, none⟩ (.int .i64 n)) := (Fr.refl (· = w.heap.size) W).setCell ⟨w.heap.size, 2, none⟩ (Or.inl rfl) _
  have hB := h.hB
  exact ⟨h.b0.set2 n, h.b1.kept (setCell_kept _ _ _ _ (by simp)), h.own.fr hf (fun k e => by omega), h.fresh.fr hf (fun k e => by omega), hB, h.below.setCell (Nat.le_refl _) _⟩
theorem AddMid.done {w W W' : World} {B : Nat} {name : ByteArray} {valid next : Int} {a : Option Addr} {c : Nat} {qs ps : List LV} {flags : UInt8} {p : List UInt8} (h : AddMid w W B name valid (next + 1) a c qs) (hf : Fr (· = w.heap.size + 1) W W') (hq : qs.map (·.1) = ps.map (·.1) ++ [⟨next, flags, p⟩]) (hE : addE valid next (ps.map (·.1)) flags p.length = 0) :
    AddR w name valid next ps flags p (.returned (.tuple #[boxV name valid (next + 1) (.slice a qs.length c), .int .i64 next, .int .i64 0])) W' := by
  have hB := h.hB
  exact ⟨h.below.trans (hf.below h.below.size (fun k e => by omega)), fun h0 => absurd hE h0, fun _ => ⟨a, c, qs, rfl, World.ownsRow.mono (h.own.fr hf (fun k e => by omega)) (by omega), hq, (h.fresh.fr hf (fun k e => by omega)).mono (by omega)⟩⟩

set_option maxHeartbeats 8000000 in
set_option maxRecDepth 100000 in
theorem add_ok (name : ByteArray) (valid next : Int) (sv : Value) (ps : List LV) (flags : UInt8) (pv : Value) (p : List UInt8) (w : World) (h : Lets w sv ps) (hp : Byz w pv p)
    (hE : addE valid next (ps.map (·.1)) flags p.length = 0) :
    Calls Tryd.prog 15 #[boxV name valid next sv, .int .u8 (flags.toNat : Int), pv] w (AddR w name valid next ps flags p) := by
  have hb0 : Below w.heap.size w ((w.alloc (.cells #[.string name, .int .i64 valid, .int .i64 next, sv] 40)).alloc (.cells #[.string ⟨#[]⟩, .int .i64 0, .int .i64 0, .slice none 0 0] 40)) := ((Below.refl _ w).alloc (Nat.le_refl _) _).alloc (by simp) _
  have h0 := h.below hb0
  have hBx : BoxW ((w.alloc (.cells #[.string name, .int .i64 valid, .int .i64 next, sv] 40)).alloc (.cells #[.string ⟨#[]⟩, .int .i64 0, .int .i64 0, .slice none 0 0] 40)) w.heap.size name valid next sv :=
    (BoxW.new w name valid next sv 40).below ((Below.refl _ _).alloc (Nat.le_refl _) _) (by simp)
  have hBr : BoxW ((w.alloc (.cells #[.string name, .int .i64 valid, .int .i64 next, sv] 40)).alloc (.cells #[.string ⟨#[]⟩, .int .i64 0, .int .i64 0, .slice none 0 0] 40)) (w.heap.size + 1) ⟨#[]⟩ 0 0 (.slice none 0 0) := by
    have := BoxW.new (w.alloc (.cells #[.string name, .int .i64 valid, .int .i64 next, sv] 40)) ⟨#[]⟩ 0 0 (.slice none 0 0) 40
    simpa using this
  have hsz0 : ((w.alloc (.cells #[.string name, .int .i64 valid, .int .i64 next, sv] 40)).alloc (.cells #[.string ⟨#[]⟩, .int .i64 0, .int .i64 0, .slice none 0 0] 40)).heap.size = w.heap.size + 2 := by simp
  have HE := Lib.hid hE
  unfold addE at hE
  have hck0 : chk valid next (ps.map (·.1)) = 0 := by
    by_cases h1 : chk valid next (ps.map (·.1)) = 0
    · exact h1
    · rw [if_pos h1] at hE; exact absurd hE h1
  rw [if_neg (by simp [hck0])] at hE
  have hf32 : ¬ 32 ≤ flags.toNat := fun e => by rw [if_pos e] at hE; cases hE
  rw [if_neg hf32] at hE
  have hl6 : ¬ 600 < p.length := fun e => by rw [if_pos e] at hE; cases hE
  rw [if_neg hl6] at hE
  have hfull : ¬ ((ps.map (·.1)).length = 32 ∨ next = 4294967295) := fun e => by rw [if_pos e] at hE; cases hE
  rw [List.length_map] at hfull
  obtain ⟨hv1, hn1, hl32, hright⟩ := chk_ok hck0
  rw [List.length_map] at hl32
  have hck := check_any name valid next sv ps _ h0 (by omega)
  rw [hck0] at hck
  have hby : ∀ q ∈ ps, q.1.bytes.length ≤ 1000000 := fun q hq => by have := hright.bytes q.1 (List.mem_map.2 ⟨q, hq, rfl⟩); omega
  obtain ⟨⟨pa, pc, rfl⟩, _⟩ := id hp
  obtain ⟨sa, sc, rfl, _⟩ := h.shape
  have hu := flags.toNat_lt
  have h32' : ((ps.length : Int) == 32) = false := by rw [beq_eq_false_iff_ne]; omega
  have hn' : (next == 4294967295) = false := by rw [beq_eq_false_iff_ne]; omega
  have hcl := fun W hL => clone_any name valid next (.slice sa ps.length sc) ps W hL (by omega) hby
  unfold boxV at hck hcl ⊢
  have HCK := Lib.hid hck
  have HCL := Lib.hid hcl
  have HBX := Lib.hid hBx
  have HBR := Lib.hid hBr
  have HB0 := Lib.hid hb0
  have HSZ := Lib.hid hsz0
  have HL0 := Lib.hid h0
  have HP := Lib.hid hp
  have hn2 : next ≤ 4294967295 := hn1.2
  have hn3 : 1 ≤ next := hn1.1
  have hlp : p.length ≤ 600 := by omega
  have hln : ps.length ≤ 32 := hl32
  clear hck hcl hBx hBr hb0 hsz0 h0 h hE hck0 hfull hright hby hp hv1 hn1 hl32
  go_enter Tryd.func15, Tryd.ntmps15
  go_wp2_with fail
  refine HCK.out.mono ?_
  rintro e w1 ⟨rfl, hb1⟩
  have hB1 := HBX.out.below hb1 (by rw [HSZ.out]; omega)
  have hR1 := HBR.out.below hb1 (by rw [HSZ.out]; omega)
  have hbb := HB0.out.trans (hb1.mono HB0.out.size)
  have hz1 : w.heap.size + 2 ≤ w1.heap.size := by have := hb1.size; rw [HSZ.out] at this; exact this
  have HC1 := Lib.hid (HCL.out w1 (HL0.out.below hb1))
  have HB1 := Lib.hid hB1
  have HR1 := Lib.hid hR1
  have HBB := Lib.hid hbb
  obtain ⟨c0, c1, c2, c3, f0, f1, f2, f3⟩ := hB1
  clear hb1 hbb hR1 HB0 HBX HBR HCK HSZ HL0 HCL
  go_wp2_with fail
  refine HC1.out.mono ?_
  rintro e w2 ⟨a, c, qs, rfl, hown, hqs, hfr, hb2⟩
  have hB2 := HB1.out.below hb2 (by omega)
  have hR2 := HR1.out.below hb2 (by omega)
  have hbb2 := HBB.out.trans (hb2.mono HBB.out.size)
  have hz2 := hb2.size
  have HQN := Lib.hid (show qs.length = ps.length by have := congrArg List.length hqs; simpa using this)
  have hqn : qs.length ≤ 32 := by rw [HQN.out]; exact hln
  obtain ⟨W3, hW3, hb3, hf3⟩ := hB2.put4 name valid next (.slice a qs.length c)
  have hR3 : BoxW W3 (w.heap.size + 1) ⟨#[]⟩ 0 0 (.slice none 0 0) := hR2.kept (hf3.block _ (by omega) (by omega))
  have hown3 := Owns.fr hown hf3 (fun k e => by omega)
  have hfr3 := Fresh.fr (w := w2) hfr hf3 (fun k e => by omega)
  have hbb3 : Below w.heap.size w W3 := hbb2.trans (hf3.below hbb2.size (fun k e => by omega))
  have hz3 : w2.heap.size ≤ W3.heap.size := hf3.size
  have hp3 := HP.out.below hbb3
  have HC3 := Lib.hid (fun W (hW : Below W3.heap.size W3 W) => bclone_any _ _ W (hp3.below hW) (by omega))
  have HB3 := Lib.hid hb3
  have HR3 := Lib.hid hR3
  have HO3 := Lib.hid hown3
  have HF3 := Lib.hid hfr3
  have HBB3 := Lib.hid hbb3
  have HQS := Lib.hid hqs
  have HW3 := Lib.hid hW3
  obtain ⟨d0, d1, d2, d3, g0, g1, g2, g3⟩ := hB2
  clear hfr hown hb2 hR2 hbb2 hf3 hR3 hown3 hfr3 hbb3 hp3 hqs hW3 HC1 HB1 HR1 HBB HP c0 c1 c2 c3 f0 f1 f2 f3
  go_wp2_with fail
  rw [← HW3.out]
  clear d0 d1 d2 d3 g0 g1 g2 g3
  obtain ⟨c0, c1, c2, c3, f0, f1, f2, f3⟩ := hb3
  have hlt0 : w.heap.size < W3.heap.size := by omega
  have hlt1 : w.heap.size + 1 < W3.heap.size := by omega
  have hAPP : ∀ wn a' c', Row W3.heap.size wn (.slice a' p.length c') p → Below W3.heap.size W3 wn → ∃ a3 c3 w4, (∀ ty, (Builtin.append_ #[38, 38] ty #[.slice a qs.length c, .slice (some ⟨wn.heap.size, 0, none⟩) 1 1]).run Tryd.prog (wn.alloc (.cells #[.int .i64 next, .int .u8 (flags.toNat : Int), .slice a' p.length c'] 68)) = .ok (.slice a3 (qs.length + 1) c3) w4) ∧
      BoxW w4 w.heap.size name valid next (.slice a qs.length c) ∧ ∀ W5, W5 = w4.setCell ⟨w.heap.size, 3, none⟩ (.slice a3 (qs.length + 1) c3) → AddMid w W5 w1.heap.size name valid next a3 c3 (qs ++ [(⟨next, flags, p⟩, .slice a' p.length c')]) := by
    intro wn a' c' hrow hbn
    have hon := Owns.below HO3.out hbn
    obtain ⟨a3, c3, w4, hr, ho, hg, hwh⟩ := app_one wn (⟨next, flags, p⟩, .slice a' p.length c') hon (by have := hbn.size; omega) (by omega) hrow.1.z
    simp only [List.length_append, List.length_cons, List.length_nil, Nat.zero_add] at hr ho hwh
    have hob : ∀ g, (Value.slice a qs.length c).ownBlock = some g → w1.heap.size ≤ g ∧ g < W3.heap.size := fun g hgg => World.ownsRow.lt HO3.out g hgg
    have hb4 : BoxW w4 w.heap.size name valid next (.slice a qs.length c) := (HB3.out.below hbn hlt0).kept (hg.block _ (by have := hbn.size; omega) (fun e => by have := hob _ e.symm; omega))
    have hr4 : BoxW w4 (w.heap.size + 1) ⟨#[]⟩ 0 0 (.slice none 0 0) := (HR3.out.below hbn hlt1).kept (hg.block _ (by have := hbn.size; omega) (fun e => by have := hob _ e.symm; omega))
    refine ⟨a3, c3, w4, hr, hb4, fun W5 hW5 => ?_⟩
    subst hW5
    have hf5 : Fr (· = w.heap.size) w4 (w4.setCell ⟨w.heap.size, 3, none⟩ (.slice a3 (qs.length + 1) c3)) := (Fr.refl (· = w.heap.size) w4).setCell ⟨w.heap.size, 3, none⟩ (Or.inl rfl) _
    have hfr4 := add_last (B := w1.heap.size) (⟨next, flags, p⟩, .slice a' p.length c') HF3.out hbn (by omega) hrow hon hg (c3 := c3) (by simpa using hwh) (fun g hgg => ⟨(hob g hgg).2, by
      rcases HO3.out.2 with ⟨e, _⟩ | ⟨g', cap, cur, e, _⟩
      · rw [e] at hgg; simp [Value.ownBlock] at hgg
      · injection e with e1; exact ⟨g', e1⟩⟩)
    refine ⟨by rw [List.length_append]; exact hb4.set3 _, hr4.kept (setCell_kept _ _ _ _ (by simp)), ?_, hfr4.fr hf5 (fun k e => by omega), by omega, ?_⟩
    · rw [List.length_append]
      exact Owns.fr ho hf5 (fun k e => by omega)
    · exact ((HBB3.out.trans (hbn.mono HBB3.out.size)).grown hg (by have := hbn.size; omega) (fun k hk => by have := hob k hk; omega)).setCell (Nat.le_refl _) _
  have HAPP := Lib.hid hAPP
  clear hAPP
  go_region_law (first
    | (refine step_calls rfl 29 _ (ex_call1 29 (.tmp 46) _ rfl _ rfl (fun _ _ => rfl)) _ (HC3.out _ ((Below.refl _ _).drew)) ?_
       rintro e wn ⟨a', c', rfl, hrow, hbn⟩
       refine ⟨_, rfl, ?_⟩
       have hbn : Below W3.heap.size W3 wn := (Below.refl _ W3).drew.trans hbn
       obtain ⟨a9, k9, w4, hr, hb4, hmid⟩ := HAPP.out wn a' c' hrow hbn
       have HR4 := Lib.hid hr
       have HM := Lib.hid hmid
       obtain ⟨n0, n1, n2, n3, m0, m1, m2, m3⟩ := HB3.out.below hbn hlt0
       obtain ⟨x0, x1, x2, x3, y0, y1, y2, y3⟩ := hb4
       have hltn : w.heap.size < wn.heap.size := by have := hbn.size; omega
       clear hrow hr hmid hbn)
    | refine step_append rfl (.tmp 43) (.tmp 49) 38 38 rfl _ _ rfl rfl _ _ HR4.out ?_)
  all_goals
    obtain ⟨W5, hW5⟩ : ∃ W5, W5 = w4.setCell ⟨w.heap.size, 3, none⟩ (.slice a9 (qs.length + 1) k9) := ⟨_, rfl⟩
    have hmid := HM.out W5 hW5
    rw [← hW5]
    have hm6 := hmid.next (next + 1)
    obtain ⟨W6, hW6⟩ : ∃ W6, W6 = W5.setCell ⟨w.heap.size, 2, none⟩ (.int .i64 (next + 1)) := ⟨_, rfl⟩
    rw [← hW6] at hm6
    obtain ⟨W7, hW7, hb7, hf7⟩ := hm6.b1.put4 name valid (next + 1) (.slice a9 (qs.length + 1) k9)
    have hL : (qs ++ [((⟨next, flags, p⟩ : Letr), Value.slice a' p.length c')]).length = qs.length + 1 := by simp
    have HEND := Lib.hid (hm6.done (ps := ps) (flags := flags) (p := p) hf7 (by rw [List.map_append, HQS.out]; rfl) HE.out)
    have h5 := hmid.b0
    have h51 := hmid.b1
    have h6 := hm6.b0
    have h61 := hm6.b1
    rw [hL] at h5 h6
    obtain ⟨p0, p1, p2, p3, q0, q1, q2, q3⟩ := h5
    obtain ⟨r0, r1, r2, r3, s0, s1, s2, s3⟩ := h51
    obtain ⟨t0, t1, t2, t3, v0, v1, v2, v3⟩ := h6
    obtain ⟨z0, z1, z2, z3, o0, o1, o2, o3⟩ := h61
    obtain ⟨k0, k1, k2, k3, _⟩ := hb7
    have HL := Lib.hid hL
    have HW6 := Lib.hid hW6
    have HW7 := Lib.hid hW7
    clear hL hW7 hW6 hW5 HM HR4 HAPP hf7 hmid hm6 c0 c1 c2 c3 f0 f1 f2 f3 n0 n1 n2 n3 m0 m1 m2 m3 x0 x1 x2 x3 y0 y1 y2 y3
    go_wp2
    rw [← HW6.out, ← HW7.out]
    refine bodyPost_ret (v := .tuple #[.agg #[.string name, .int .i64 valid, .int .i64 (next + 1), .slice a9 (qs.length + 1) k9], .int .i64 next, .int .i64 0]) (by simp [results, Tryd.results15, go_sem, k0, k1, k2, k3]) rfl ?_
    have := HEND.out
    rw [HL.out] at this
    exact this
end Go.Proofs.YtpmakbjchepkmaaDoor
