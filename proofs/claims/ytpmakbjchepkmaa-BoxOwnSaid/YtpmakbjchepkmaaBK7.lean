/- Box: Cut: what it tells. -/
import Derived.Test.YtpmakbjchepkmaaBK6
namespace Go.Proofs.Ytpmakbjchepkmaa
open Go Go.RowKit

theorem containsL_any (sv : Value) (ps : List LV) (u : Int) (b : Nat) (w : World) (h : Lets w sv ps) (hu : w.cell? ⟨b, 0, none⟩ = some (.int .i64 u)) (hn : ps.length ≤ 1000) :
    Calls Try.prog 31 #[sv, .func (.func 42) #[] #[.pointer (some ⟨b, 0, none⟩)]] w fun e w' => e = .returned (.bool (decide (findU (ps.map (·.1)) u ≠ ps.length))) ∧ Below w.heap.size w w' := by
  have hc : Calls Try.prog 28 #[sv, .func (.func 42) #[] #[.pointer (some ⟨b, 0, none⟩)]] w fun e w' => e = .returned (.int .i64 (if findU (ps.map (·.1)) u = (ps.map (·.1)).length then -1 else ((findU (ps.map (·.1)) u : Nat) : Int))) ∧ Below w.heap.size w w' :=
    (idxL_any sv ps u b w h hu hn).mono fun e w' ⟨h1, h2⟩ => ⟨by rw [h1, idxFrom_eq]; simp only [Nat.zero_add]; rfl, h2⟩
  obtain ⟨qa, qc, rfl, _⟩ := h.shape
  rw [List.length_map] at hc
  generalize findU (ps.map (·.1)) u = fi at *
  clear h hu
  by_cases hg : fi = ps.length
  · rw [if_pos hg] at hc
    have HC := Lib.hid hc
    have HA := Lib.hid (show decide (fi ≠ ps.length) = false by simp [hg])
    clear hc hg
    go_enter Try.func31, Try.ntmps31
    go_wp2_with fail
    refine HC.out.mono ?_
    rintro e w1 ⟨rfl, hb1⟩
    go_wp2
    go_ret
    exact ⟨ret_bool HA.out.symm, hb1⟩
  · rw [if_neg hg] at hc
    have HC := Lib.hid hc
    have HA := Lib.hid (show decide (fi ≠ ps.length) = true by simp [hg])
    have h0 : (0 : Int) ≤ (fi : Int) := by omega
    clear hc hg
    go_enter Try.func31, Try.ntmps31
    go_wp2_with fail
    refine HC.out.mono ?_
    rintro e w1 ⟨rfl, hb1⟩
    go_wp2
    go_ret
    exact ⟨ret_bool HA.out.symm, hb1⟩
/-- numbered: the closure, its block a new one. -/
def NumN (W : World) (u : Int) (e : Ending) (w' : World) : Prop := ∃ b, e = .returned (.func (.func 42) #[] #[.pointer (some ⟨b, 0, none⟩)]) ∧ w'.cell? ⟨b, 0, none⟩ = some (.int .i64 u) ∧ W.heap.size ≤ b ∧ Below W.heap.size W w'
set_option maxHeartbeats 2000000 in
theorem numbered_new (u : Int) (w : World) : Calls Try.prog 29 #[.int .i64 u] w (NumN w u) := by
  have b1 : Below w.heap.size w (w.alloc (.cells #[.int .i64 u] 3)) := (Below.refl _ w).alloc (Nat.le_refl _) _
  have hc : (w.alloc (.cells #[.int .i64 u] 3)).cell? ⟨w.heap.size, 0, none⟩ = some (.int .i64 u) := World.cell?_alloc_new _ _ _ _
  go_enter Try.func29, Try.ntmps29
  go_wp2
  go_ret
  exact ⟨w.heap.size, rfl, hc, Nat.le_refl _, b1⟩

/-- What Cut tells. -/
def CutR (W : World) (name : ByteArray) (valid next : Int) (ps : List LV) (u : Int) (e : Ending) (w' : World) : Prop :=
  Below W.heap.size W w' ∧ (cutE valid next (ps.map (·.1)) u ≠ 0 → e = .returned (.tuple #[boxV0, .int .i64 (cutE valid next (ps.map (·.1)) u)])) ∧
  (cutE valid next (ps.map (·.1)) u = 0 → ∃ a c qs, e = .returned (.tuple #[boxV name valid next (.slice a qs.length c), .int .i64 0]) ∧ Owns W.heap.size w' (.slice a qs.length c) qs ∧ qs.map (·.1) = cutL (ps.map (·.1)) u ∧ Fresh W.heap.size w' a qs)
theorem CutR.bad {W w' : World} {name : ByteArray} {valid next : Int} {ps : List LV} {u : Int} {x : Int} (hx : cutE valid next (ps.map (·.1)) u = x) (h0 : x ≠ 0) (hb : Below W.heap.size W w') :
    CutR W name valid next ps u (.returned (.tuple #[boxV0, .int .i64 x])) w' :=
  ⟨hb, fun _ => by rw [hx], fun h => absurd (hx.symm.trans h) h0⟩
theorem cut_map (qs : List LV) (u : Int) : (qs.filter (stays u)).map (·.1) = cutL (qs.map (·.1)) u := by
  unfold cutL
  rw [List.filter_map]
  rfl
theorem AddMid.cutted {w W W' : World} {B : Nat} {name : ByteArray} {valid next : Int} {a : Option Addr} {c : Nat} {qs : List LV} {ps : List LV} {u : Int} (h : AddMid w W B name valid next a c qs) (hf : Fr (· = w.heap.size + 1) W W') (hq : qs.map (·.1) = cutL (ps.map (·.1)) u) (hE : cutE valid next (ps.map (·.1)) u = 0) :
    CutR w name valid next ps u (.returned (.tuple #[boxV name valid next (.slice a qs.length c), .int .i64 0])) W' := by
  have hB := h.hB
  exact ⟨h.below.trans (hf.below h.below.size (fun k e => by omega)), fun h0 => absurd hE h0, fun _ => ⟨a, c, qs, rfl, World.ownsRow.mono (h.own.fr hf (fun k e => by omega)) (by omega), hq, (h.fresh.fr hf (fun k e => by omega)).mono (by omega)⟩⟩
/-- From clone's end to Cut's end. -/
theorem cut_mid {w wm w2 : World} {name : ByteArray} {valid next : Int} {sv : Value} {ps qs : List LV} {u : Int} {a : Option Addr} {c fi : Nat} (hz : w.heap.size + 2 ≤ wm.heap.size) (hbm : Below w.heap.size w wm)
    (hB : BoxW w2 w.heap.size name valid next sv) (hR : BoxW w2 (w.heap.size + 1) ⟨#[]⟩ 0 0 (.slice none 0 0)) (hown : Owns wm.heap.size w2 (.slice a qs.length c) qs) (hqs : qs.map (·.1) = ps.map (·.1)) (hfr : Fresh wm.heap.size w2 a qs) (hb2 : Below wm.heap.size wm w2)
    (hfl : fi < ps.length) (hl32 : ps.length ≤ 32) (hE : cutE valid next (ps.map (·.1)) u = 0) :
    ∃ (gl : Nat) (W3 : World), a = some ⟨gl, 0, none⟩ ∧ W3 = (((w2.setCell ⟨w.heap.size, 0, none⟩ (.string name)).setCell ⟨w.heap.size, 1, none⟩ (.int .i64 valid)).setCell ⟨w.heap.size, 2, none⟩ (.int .i64 next)).setCell ⟨w.heap.size, 3, none⟩ (.slice (some ⟨gl, 0, none⟩) qs.length c) ∧
      BoxW W3 w.heap.size name valid next (.slice (some ⟨gl, 0, none⟩) qs.length c) ∧ w.heap.size + 1 < W3.heap.size ∧
      ∀ wn b, wn.cell? ⟨b, 0, none⟩ = some (.int .i64 u) → W3.heap.size ≤ b → Below W3.heap.size W3 wn →
        Calls Try.prog 32 #[.slice (some ⟨gl, 0, none⟩) qs.length c, .func (.func 42) #[] #[.pointer (some ⟨b, 0, none⟩)]] wn fun e w' => ∃ (m : Nat) (W4 W5 : World), e = .returned (.slice (some ⟨gl, 0, none⟩) m c) ∧ BoxW w' w.heap.size name valid next (.slice (some ⟨gl, 0, none⟩) qs.length c) ∧ BoxW w' (w.heap.size + 1) ⟨#[]⟩ 0 0 (.slice none 0 0) ∧
          W4 = w'.setCell ⟨w.heap.size, 3, none⟩ (.slice (some ⟨gl, 0, none⟩) m c) ∧ BoxW W4 w.heap.size name valid next (.slice (some ⟨gl, 0, none⟩) m c) ∧ BoxW W4 (w.heap.size + 1) ⟨#[]⟩ 0 0 (.slice none 0 0) ∧
          W5 = (((W4.setCell ⟨w.heap.size + 1, 0, none⟩ (.string name)).setCell ⟨w.heap.size + 1, 1, none⟩ (.int .i64 valid)).setCell ⟨w.heap.size + 1, 2, none⟩ (.int .i64 next)).setCell ⟨w.heap.size + 1, 3, none⟩ (.slice (some ⟨gl, 0, none⟩) m c) ∧ BoxW W5 (w.heap.size + 1) name valid next (.slice (some ⟨gl, 0, none⟩) m c) ∧
          CutR w name valid next ps u (.returned (.tuple #[boxV name valid next (.slice (some ⟨gl, 0, none⟩) m c), .int .i64 0])) W5 := by
  have hbb2 := hbm.trans (hb2.mono hbm.size)
  have hz2 := hb2.size
  have hqn : qs.length = ps.length := by have := congrArg List.length hqs; simpa using this
  have hcap : qs.length ≤ c := by
    rcases hown.2 with ⟨e, h0⟩ | ⟨g', cap, cur, e, hg', _, h1, _⟩
    · omega
    · injection e with _ _ e3; omega
  obtain ⟨gl, rfl, hgl⟩ : ∃ gl, a = some ⟨gl, 0, none⟩ ∧ wm.heap.size ≤ gl := by
    rcases hown.2 with ⟨_, h0⟩ | ⟨g', cap, cur, e, hg', _⟩
    · omega
    · injection e with e1; exact ⟨g', e1, hg'⟩
  obtain ⟨W3, hW3, hb3, hf3⟩ := hB.put4 name valid next (.slice (some ⟨gl, 0, none⟩) qs.length c)
  have hbb3 : Below w.heap.size w W3 := hbb2.trans (hf3.below hbb2.size (fun k e => by omega))
  have hmid : AddMid w W3 wm.heap.size name valid next (some ⟨gl, 0, none⟩) c qs := ⟨hb3, hR.kept (hf3.block _ (by omega) (by omega)), hown.fr hf3 (fun k e => by omega), Fresh.fr (w := w2) hfr hf3 (fun k e => by omega), by omega, hbb3⟩
  have hz3 := hmid.b1.lt
  have hglt := (World.ownsRow.lt hmid.own gl rfl).2
  refine ⟨gl, W3, rfl, hW3, hmid.b0, hz3, fun wn b hcb hbs hbn => ?_⟩
  have hd := delete_any wm.heap.size gl c qs u b wn (Owns.below hmid.own hbn) (fun q hq => ((hmid.fresh q hq).1.below hbn).1.z) (fun q hq => (hmid.fresh q hq).2 gl rfl) hcb (by omega) (by omega) hcap
  refine hd.mono ?_
  rintro e w' ⟨rfl, ho, hf⟩
  have h0' := hmid.b0.below hbn (by omega)
  have h1' := hmid.b1.below hbn (by omega)
  have hsz := hbn.size
  have k0 : BoxW w' w.heap.size name valid next (.slice (some ⟨gl, 0, none⟩) qs.length c) := h0'.kept (hf.block _ (by omega) (by omega))
  have k1 : BoxW w' (w.heap.size + 1) ⟨#[]⟩ 0 0 (.slice none 0 0) := h1'.kept (hf.block _ (by omega) (by omega))
  have hfo : Fr (· = w.heap.size) w' (w'.setCell ⟨w.heap.size, 3, none⟩ (.slice (some ⟨gl, 0, none⟩) (qs.filter (stays u)).length c)) := (Fr.refl (· = w.heap.size) w').setCell ⟨w.heap.size, 3, none⟩ (Or.inl rfl) _
  have hbw : Below w.heap.size w w' := (hbb3.trans (hbn.mono hbb3.size)).trans (hf.below (by have := hbb3.size; omega) (fun k e => by omega))
  have hfr' : Fresh wm.heap.size w' (some ⟨gl, 0, none⟩) (qs.filter (stays u)) := fun q hq => by
    obtain ⟨r1, r2⟩ := hmid.fresh q (List.mem_filter.1 hq).1
    have r3 := r1.below hbn
    exact ⟨r3.kept hf.size (fun x hx => hf.block x (row_own r3 x hx).2 (fun e => r2 gl rfl (by rw [hx, e]))), r2⟩
  have hm4 : AddMid w (w'.setCell ⟨w.heap.size, 3, none⟩ (.slice (some ⟨gl, 0, none⟩) (qs.filter (stays u)).length c)) wm.heap.size name valid next (some ⟨gl, 0, none⟩) c (qs.filter (stays u)) :=
    ⟨k0.set3 _, k1.kept (setCell_kept _ _ _ _ (by simp)), ho.fr hfo (fun k e => by omega), Fresh.fr (w := w') hfr' hfo (fun k e => by omega), by omega, hbw.setCell (Nat.le_refl _) _⟩
  obtain ⟨W5, hW5, hb5, hf5⟩ := hm4.b1.put4 name valid next (.slice (some ⟨gl, 0, none⟩) (qs.filter (stays u)).length c)
  exact ⟨_, _, W5, rfl, k0, k1, rfl, hm4.b0, hm4.b1, hW5, hb5, hm4.cutted hf5 (by rw [cut_map, hqs]) hE⟩
end Go.Proofs.Ytpmakbjchepkmaa
