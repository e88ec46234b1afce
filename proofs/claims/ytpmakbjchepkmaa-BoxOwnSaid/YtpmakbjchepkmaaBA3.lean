/- Box: the document's Add, where it lays a letter. -/
import Derived.Test.YtpmakbjchepkmaaBA2
import Derived.Deep.DeepCutAuto
namespace Go.Proofs.Ytpmakbjchepkmaa
open Go Go.RowKit

/-- What stands behind the last append of the document's Add: the boxes, the letters. -/
structure RMid (w W : World) (b2 : Nat) (name : ByteArray) (valid next : Int) (sv : Value) (nx : Int) (lv : Value) (qs : List LV) : Prop where
  b0 : BoxW W w.heap.size name valid next sv
  b1 : BoxW W (w.heap.size + 1) ⟨#[]⟩ 0 0 (.slice none 0 0)
  bc : BoxW W b2 name valid nx lv
  hb : w.heap.size + 2 ≤ b2
  own : ∃ B, b2 < B ∧ Owns B W lv qs
  by_ : ∀ q ∈ qs, Byz W q.2 q.1.bytes ∧ ∀ g, q.2.ownBlock = some g → q.1.bytes ≠ [] → g ≠ b2 ∧ g ≠ w.heap.size + 1
  below : Below w.heap.size w W
theorem RMid.next {w W : World} {b2 : Nat} {name : ByteArray} {valid next : Int} {sv : Value} {nx : Int} {lv : Value} {qs : List LV} (h : RMid w W b2 name valid next sv nx lv qs) (n : Int) : RMid w (W.setCell ⟨b2, 2, none⟩ (.int .i64 n)) b2 name valid next sv n lv qs := by
  have hb := h.hb
  obtain ⟨B, hB, ho⟩ := h.own
  have hf : Fr (· = b2) W (W.setCell ⟨b2, 2, none⟩ (.int .i64 n)) := (Fr.refl (· = b2) W).setCell ⟨b2, 2, none⟩ (Or.inl rfl) _
  refine ⟨h.b0.kept (setCell_kept _ _ _ _ (by simp; omega)), h.b1.kept (setCell_kept _ _ _ _ (by simp; omega)), h.bc.set2 n, hb, ⟨B, hB, ho.fr hf (fun k e => by omega)⟩, fun q hq => ⟨(h.by_ q hq).1.kept hf.size (fun g hg hn => setCell_kept _ _ _ _ (by have := (h.by_ q hq).2 g hg hn; simp; omega)), (h.by_ q hq).2⟩, h.below.setCell (by simp; omega) _⟩
theorem RMid.done {w W W' : World} {b2 : Nat} {name : ByteArray} {valid next : Int} {sv : Value} {a : Option Addr} {c n : Nat} {qs ps : List LV} {flags : UInt8} {p : List UInt8} (h : RMid w W b2 name valid next sv (next + 1) (.slice a n c) qs) (hn : qs.length = n) (hf : Fr (· = w.heap.size + 1) W W') (hq : qs.map (·.1) = ps.map (·.1) ++ [⟨next, flags, p⟩]) (hE : addE valid next (ps.map (·.1)) flags p.length = 0) :
    RAddR w name valid next ps flags p (.returned (.tuple #[boxV name valid (next + 1) (.slice a n c), .int .i64 next, .int .i64 0])) W' := by
  subst hn
  have hb := h.hb
  obtain ⟨B, hB, ho⟩ := h.own
  refine ⟨h.below.trans (hf.below h.below.size (fun k e => by omega)), fun h0 => absurd hE h0, fun _ => ⟨a, c, qs, rfl, (ho.fr hf (fun k e => by omega)).lets (fun q hq => ?_), hq⟩⟩
  exact (h.by_ q hq).1.kept hf.size (fun g hg hn => hf.block g ((h.by_ q hq).1.lt g hg hn) (by have := (h.by_ q hq).2 g hg hn; omega))

set_option maxHeartbeats 4000000 in
set_option maxRecDepth 100000 in
theorem radd_ok (name : ByteArray) (valid next : Int) (sv : Value) (ps : List LV) (flags : UInt8) (pv : Value) (p : List UInt8) (w : World) (h : Lets w sv ps) (hp : Byz w pv p)
    (hE : addE valid next (ps.map (·.1)) flags p.length = 0) :
    Calls Try.prog 16 #[boxV name valid next sv, .int .u8 (flags.toNat : Int), pv] w (RAddR w name valid next ps flags p) := by
  have hb0 : Below w.heap.size w ((w.alloc (.cells #[.string name, .int .i64 valid, .int .i64 next, sv] 24)).alloc (.cells #[.string ⟨#[]⟩, .int .i64 0, .int .i64 0, .slice none 0 0] 24)) := ((Below.refl _ w).alloc (Nat.le_refl _) _).alloc (by simp) _
  have h0 := h.below hb0
  have hBx : BoxW ((w.alloc (.cells #[.string name, .int .i64 valid, .int .i64 next, sv] 24)).alloc (.cells #[.string ⟨#[]⟩, .int .i64 0, .int .i64 0, .slice none 0 0] 24)) w.heap.size name valid next sv :=
    (BoxW.new w name valid next sv 24).below ((Below.refl _ _).alloc (Nat.le_refl _) _) (by simp)
  have hBr : BoxW ((w.alloc (.cells #[.string name, .int .i64 valid, .int .i64 next, sv] 24)).alloc (.cells #[.string ⟨#[]⟩, .int .i64 0, .int .i64 0, .slice none 0 0] 24)) (w.heap.size + 1) ⟨#[]⟩ 0 0 (.slice none 0 0) := by
    have := BoxW.new (w.alloc (.cells #[.string name, .int .i64 valid, .int .i64 next, sv] 24)) ⟨#[]⟩ 0 0 (.slice none 0 0) 24
    simpa using this
  have hsz0 : ((w.alloc (.cells #[.string name, .int .i64 valid, .int .i64 next, sv] 24)).alloc (.cells #[.string ⟨#[]⟩, .int .i64 0, .int .i64 0, .slice none 0 0] 24)).heap.size = w.heap.size + 2 := by simp
  have HE := Lib.hid hE
  unfold addE at hE
  have hck0 : chk valid next (ps.map (·.1)) = 0 := by
    by_cases h1 : chk valid next (ps.map (·.1)) = 0
    · exact h1
    · rw [if_pos h1] at hE; exact absurd hE h1
  rw [if_neg (by simp [hck0])] at hE
  have hf32 : ¬ 32 ≤ flags.toNat := fun e => by rw [if_pos e] at hE; cases hE
  rw [if_neg hf32] at hE
  have hl6 : ¬ 600 < p.length := fun e => by rw [if_pos e] at hE; cases hE
  rw [if_neg hl6] at hE
  have hfull : ¬ ((ps.map (·.1)).length = 32 ∨ next = 4294967295) := fun e => by rw [if_pos e] at hE; cases hE
  rw [List.length_map] at hfull
  obtain ⟨hv1, hn1, hl32, hright⟩ := chk_ok hck0
  rw [List.length_map] at hl32
  have hck := refCheck name valid next sv ps _ h0 (by omega)
  rw [hck0] at hck
  have hlt0 : ∀ q ∈ ps, ∀ g, q.2.ownBlock = some g → q.1.bytes ≠ [] → g < w.heap.size := fun q hq g hg hn => (h.bytes q hq).lt g hg hn
  obtain ⟨⟨pa, pc, rfl⟩, _⟩ := id hp
  obtain ⟨sa, sc, rfl, _⟩ := h.shape
  have hu := flags.toNat_lt
  have hf' : ¬ (31 : Int) < (flags.toNat : Int) := by omega
  have h32' : ¬ (31 : Int) < (ps.length : Int) := by omega
  have hn' : ¬ (4294967294 : Int) < next := by omega
  unfold boxV at hck ⊢
  have HCK := Lib.hid hck
  have HBX := Lib.hid hBx
  have HBR := Lib.hid hBr
  have HB0 := Lib.hid hb0
  have HSZ := Lib.hid hsz0
  have HL0 := Lib.hid h0
  have HP := Lib.hid hp
  have HLT := Lib.hid hlt0
  have hn2 : next ≤ 4294967295 := hn1.2
  have hn3 : 1 ≤ next := hn1.1
  have hlp : p.length ≤ 600 := by omega
  have hln : ps.length ≤ 32 := hl32
  clear hck hBx hBr hb0 hsz0 h0 h hE hck0 hfull hright hp hv1 hn1 hl32 hf32 hl6 hlt0
  go_enter Try.func16, Try.ntmps16
  go_wp2_with fail
  refine HCK.out.mono ?_
  rintro e w1 ⟨rfl, hb1⟩
  have hB1 := HBX.out.below hb1 (by rw [HSZ.out]; omega)
  have hR1 := HBR.out.below hb1 (by rw [HSZ.out]; omega)
  have hbb := HB0.out.trans (hb1.mono HB0.out.size)
  have hz1 : w.heap.size + 2 ≤ w1.heap.size := by have := hb1.size; rw [HSZ.out] at this; exact this
  have hy1 : Below w1.heap.size w1 (w1.alloc (.cells #[.string name, .int .i64 valid, .int .i64 next, .slice sa ps.length sc] 24)) := (Below.refl _ _).alloc (Nat.le_refl _) _
  have hC2 := BoxW.new w1 name valid next (.slice sa ps.length sc) 24
  obtain ⟨W2, hW2⟩ : ∃ W2, W2 = w1.alloc (.cells #[.string name, .int .i64 valid, .int .i64 next, .slice sa ps.length sc] 24) := ⟨_, rfl⟩
  rw [← hW2] at hy1 hC2
  have hB2 := hB1.below hy1 (by omega)
  have hR2 := hR1.below hy1 (by omega)
  have hL2 := (HL0.out.below hb1).below hy1
  have hbb2 := hbb.trans (hy1.mono hbb.size)
  have hP2 := HP.out.below hbb2
  have hz2 : w1.heap.size < W2.heap.size := by rw [hW2]; simp
  have HW2 := Lib.hid hW2
  have HC2 := Lib.hid hC2
  have HB2 := Lib.hid hB2
  have HR2 := Lib.hid hR2
  have HL2 := Lib.hid hL2
  have HP2 := Lib.hid hP2
  have HBB2 := Lib.hid hbb2
  have HK := Lib.hid (fun wx (hb : Below W2.heap.size W2 wx) => (⟨(hb.cell (p := ⟨w.heap.size, 2, none⟩) (by simp; omega)).trans hB2.c2, (hb.cell (p := ⟨w.heap.size, 3, none⟩) (by simp; omega)).trans hB2.c3⟩ : wx.cell? ⟨w.heap.size, 2, none⟩ = some (.int .i64 next) ∧ wx.cell? ⟨w.heap.size, 3, none⟩ = some (.slice sa ps.length sc)))
  obtain ⟨c0, c1, c2, c3, f0, f1, f2, f3⟩ := hB1
  clear hb1 hbb hy1 hW2 hC2 hB2 hR1 hR2 hL2 hP2 hbb2 HB0 HBX HBR HCK HSZ HL0 HP
  go_upto_region 11 with (first | rw [← HW2.out])
  clear c0 c1 c2 c3 f0 f1 f2 f3
  go_cut [] from 35 to 48 (fun wx => ∃ a c qs, RMid w wx w1.heap.size name valid next (.slice sa ps.length sc) next (.slice a (ps.length + 1) c) qs ∧ qs.length = ps.length + 1 ∧ qs.map (·.1) = ps.map (·.1) ++ [⟨next, flags, p⟩])
  case first =>
    have hKW := HK.out W2 (Below.refl _ _)
    go_region_held3 (fun wx => wx.cell? ⟨w.heap.size, 2, none⟩ = some (.int .i64 next) ∧ wx.cell? ⟨w.heap.size, 3, none⟩ = some (.slice sa ps.length sc)) (first
        | exact ⟨by assumption, by assumption⟩
        | (refine ⟨(World.cell?_setCell_other _ _ _ _ ?_).trans (HK.out _ d47).1, (World.cell?_setCell_other _ _ _ _ ?_).trans (HK.out _ d47).2⟩ <;> (intro e; injection e with e _; omega))
        | (refine HK.out _ ?_; repeat (with_reducible first | exact Below.refl _ _ | assumption | refine chain_alloc _ ?_ | refine chain_drew ?_ | refine chain ?_ (by assumption)))) (first
        | (refine step_appL0 rfl (.tmp 35) (.tmp 37) rfl _ rfl rfl (by repeat (with_reducible first | exact Below.refl _ _ | assumption | refine chain_alloc _ ?_ | refine chain_drew ?_ | refine chain ?_ (by assumption))) (by first | rfl | simp only [World.size_alloc, World.size_drew]) (HL2.out.below (by repeat (with_reducible first | exact Below.refl _ _ | assumption | refine chain_alloc _ ?_ | refine chain_drew ?_ | refine chain ?_ (by assumption)))) (by omega) ?_
           rintro a38 c38 w38 o38 b38 z38 k38
           have s38 := b38.size
           (try simp only [World.size_alloc, World.size_drew] at s38 k38 z38))
        | (refine step_appB0 rfl (.tmp 42) (.tmp 43) rfl _ rfl rfl (by repeat (with_reducible first | exact Below.refl _ _ | assumption | refine chain_alloc _ ?_ | refine chain_drew ?_ | refine chain ?_ (by assumption))) (by first | rfl | simp only [World.size_alloc, World.size_drew]) (HP2.out.below (by repeat (with_reducible first | exact Below.refl _ _ | assumption | refine chain_alloc _ ?_ | refine chain_drew ?_ | refine chain ?_ (by assumption)))) (by omega) ?_
           rintro a44 c44 w44 y44 b44 k44
           have s44 := b44.size
           (try simp only [World.size_alloc, World.size_drew] at s44 k44))
        | (refine step_appL1 rfl (.tmp 38) (.tmp 46) rfl ((⟨next, flags, p⟩ : Letr), Value.slice a44 p.length c44) rfl rfl o38 rfl (by omega) z38 (by repeat (with_reducible first | exact Below.refl _ _ | assumption | refine chain_alloc _ ?_ | refine chain_drew ?_ | refine chain ?_ (by assumption))) (by repeat (with_reducible first | exact Below.refl _ _ | assumption | refine chain_alloc _ ?_ | refine chain_drew ?_ | refine chain ?_ (by assumption))) (by first | rfl | simp only [World.size_alloc, World.size_drew]) (y44.below (by repeat (with_reducible first | exact Below.refl _ _ | assumption | refine chain_alloc _ ?_ | refine chain_drew ?_ | refine chain ?_ (by assumption)))) ?_
           rintro a47 c47 w47 o47 b47 y47
           have d47 : Below W2.heap.size W2 w47 := chain_grown (by repeat (with_reducible first | exact Below.refl _ _ | assumption | refine chain_alloc _ ?_ | refine chain_drew ?_ | refine chain ?_ (by assumption))) b47 (fun k hk => by have := k38 k hk; omega)
           obtain ⟨x0, x1, x2, x3, y0, y1, y2, y3⟩ := HC2.out.below d47 hz2))
    all_goals
      have h3 := HC2.out.below d47 hz2
      have h4 : RMid w (w47.setCell ⟨w1.heap.size, 3, none⟩ (.slice a47 (ps.length + 1) c47)) w1.heap.size name valid next (.slice sa ps.length sc) next (.slice a47 (ps.length + 1) c47) (ps ++ [((⟨next, flags, p⟩ : Letr), Value.slice a44 p.length c44)]) := by
        have hf : Fr (· = w1.heap.size) w47 (w47.setCell ⟨w1.heap.size, 3, none⟩ (.slice a47 (ps.length + 1) c47)) := (Fr.refl (· = w1.heap.size) w47).setCell ⟨w1.heap.size, 3, none⟩ (Or.inl rfl) _
        have hf0 : Below w.heap.size w w47 := HBB2.out.trans (d47.mono HBB2.out.size)
        refine ⟨(HB2.out.below d47 (by omega)).kept (setCell_kept _ _ _ _ (by simp; omega)), (HR2.out.below d47 (by omega)).kept (setCell_kept _ _ _ _ (by simp; omega)), h3.set3 _, hz1, ⟨_, ?_, o47.fr hf (fun k e => ?_)⟩, fun q hq => ?_, hf0.setCell (by simp; omega) _⟩
        · have := b38.size; simp only [World.size_alloc, World.size_drew] at *; omega
        · have := b38.size; simp only [World.size_alloc, World.size_drew] at *; omega
        · rcases List.mem_append.1 hq with hq | hq
          · have hy := (HL2.out.bytes q hq)
            have hz := fun g hg hn => HLT.out q hq g hg hn
            refine ⟨(hy.below d47).kept hf.size (fun g hg hn => setCell_kept _ _ _ _ (by have := hz g hg hn; simp; omega)), fun g hg hn => ⟨by have := hz g hg hn; omega, by have := hz g hg hn; omega⟩⟩
          · rw [List.mem_singleton] at hq
            subst hq
            have hz := fun (g : Nat) (hg : (Value.slice a44 p.length c44).ownBlock = some g) (hn : p ≠ []) => k44 hn g hg
            have hy := y47 (fun k hk hk2 => by
              by_cases hn : p = []
              · exact hn
              · have := k38 k hk; have := hz k hk2 hn; omega)
            exact ⟨hy.kept hf.size (fun g hg hn => setCell_kept _ _ _ _ (by have := hz g hg hn; simp; omega)), fun g hg hn => ⟨by have := hz g hg hn; omega, by have := hz g hg hn; omega⟩⟩
      go_wp2
      go_meet
      case rel => exact ⟨a47, c47, _, h4, by simp, by simp⟩
  case rest =>
    obtain ⟨a9, c9, qs, hmid, hqn, hqm⟩ := hcut
    obtain ⟨r0, r1, r2, r3, s0, s1, s2, s3⟩ := hmid.b0
    obtain ⟨t0, t1, t2, t3, u0, u1, u2, u3⟩ := hmid.bc
    have hm6 := hmid.next (next + 1)
    obtain ⟨W6, hW6⟩ : ∃ W6, W6 = wc.setCell ⟨w1.heap.size, 2, none⟩ (.int .i64 (next + 1)) := ⟨_, rfl⟩
    rw [← hW6] at hm6
    obtain ⟨W7, hW7, hb7, hf7⟩ := hm6.b1.put4 name valid (next + 1) (.slice a9 (ps.length + 1) c9)
    have HEND := Lib.hid (hm6.done (ps := ps) (flags := flags) (p := p) hqn hf7.drew hqm HE.out)
    have HM6 := Lib.hid hm6
    have HW6 := Lib.hid hW6
    have HW7 := Lib.hid hW7
    have HB7 := Lib.hid hb7
    clear hmid hqn hqm hm6 hW6 hW7 hb7 hf7
    go_upto_region 13 with (first | rw [← HW6.out])
    clear r0 r1 r2 r3 s0 s1 s2 s3 t0 t1 t2 t3 u0 u1 u2 u3
    obtain ⟨r0, r1, r2, r3, s0, s1, s2, s3⟩ := HM6.out.b0
    obtain ⟨t0, t1, t2, t3, u0, u1, u2, u3⟩ := HM6.out.bc
    obtain ⟨z0, z1, z2, z3, o0, o1, o2, o3⟩ := HM6.out.b1
    go_region
    all_goals
      go_wp2
      rw [← HW7.out]
      obtain ⟨k0, k1, k2, k3, _⟩ := HB7.out
      exact bodyPost_ret (v := .tuple #[.agg #[.string name, .int .i64 valid, .int .i64 (next + 1), .slice a9 (ps.length + 1) c9], .int .i64 next, .int .i64 0]) (by simp [results, Try.results16, go_sem, k0, k1, k2, k3]) rfl HEND.out
end Go.Proofs.Ytpmakbjchepkmaa
