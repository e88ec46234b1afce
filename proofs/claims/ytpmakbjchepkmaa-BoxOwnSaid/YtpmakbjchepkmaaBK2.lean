/- Box: Flag: what it tells. -/
import Derived.Test.YtpmakbjchepkmaaBK1
import Derived.Test.YtpmakbjchepkmaaB10
namespace Go.Proofs.Ytpmakbjchepkmaa
open Go Go.RowKit

/-- What Flag tells. -/
def FlagR (W : World) (name : ByteArray) (valid next : Int) (ps : List LV) (u how : Int) (flags : UInt8) (e : Ending) (w' : World) : Prop :=
  Below W.heap.size W w' ∧ (flagE valid next (ps.map (·.1)) u how flags ≠ 0 → e = .returned (.tuple #[boxV0, .int .i64 (flagE valid next (ps.map (·.1)) u how flags)])) ∧
  (flagE valid next (ps.map (·.1)) u how flags = 0 → ∃ a c qs, e = .returned (.tuple #[boxV name valid next (.slice a qs.length c), .int .i64 0]) ∧ Owns W.heap.size w' (.slice a qs.length c) qs ∧ qs.map (·.1) = flagL (ps.map (·.1)) u how flags ∧ Fresh W.heap.size w' a qs)
theorem FlagR.bad {W w' : World} {name : ByteArray} {valid next : Int} {ps : List LV} {u how : Int} {flags : UInt8} {x : Int} (hx : flagE valid next (ps.map (·.1)) u how flags = x) (h0 : x ≠ 0) (hb : Below W.heap.size W w') :
    FlagR W name valid next ps u how flags (.returned (.tuple #[boxV0, .int .i64 x])) w' :=
  ⟨hb, fun _ => by rw [hx], fun h => absurd (hx.symm.trans h) h0⟩

theorem over_one (qs : List LV) (k : Nat) (p : LV) (f : UInt8) (hq : qs[k]? = some p) : over (cellsP qs) (k * 3 + 1) [.int .u8 (f.toNat : Int)] = cellsP (qs.set k ({ p.1 with flags := f }, p.2)) := by
  have hk := (List.getElem?_eq_some_iff.1 hq).1
  rw [show cellsP (qs.set k ({ p.1 with flags := f }, p.2)) = over (cellsP qs) (k * 3) (cellsLV ({ p.1 with flags := f }, p.2)) from (flat_set cellsLV 3 qs k (fun _ _ => rfl) _ rfl (by omega)).symm]
  obtain ⟨a0, a1, a2⟩ := cellsP_at qs k p hq
  apply List.ext_getElem?
  intro j
  have hl := cellsP_len qs
  unfold over
  simp only [cellsLV, List.getElem?_append, List.length_append, List.length_take, List.getElem?_take, List.getElem?_drop, List.length_cons, List.length_nil]
  by_cases h1 : j < k * 3
  · simp [show j < k * 3 + 1 by omega, h1, show j < min (k * 3 + 1) (cellsP qs).length by omega, show j < min (k * 3 + 1) (cellsP qs).length + 1 by omega, show j < min (k * 3) (cellsP qs).length by omega, show j < min (k * 3) (cellsP qs).length + 3 by omega]
  · by_cases h3 : j < k * 3 + 3
    · rcases (show j = k * 3 ∨ j = k * 3 + 1 ∨ j = k * 3 + 2 by omega) with rfl | rfl | rfl
      · simp [show k * 3 < min (k * 3 + 1) (cellsP qs).length by omega, show k * 3 < min (k * 3 + 1) (cellsP qs).length + 1 by omega, show ¬ k * 3 < min (k * 3) (cellsP qs).length by omega, show k * 3 < min (k * 3) (cellsP qs).length + 3 by omega, show k * 3 - min (k * 3) (cellsP qs).length = 0 by omega, a0]
      · simp [show ¬ k * 3 + 1 < min (k * 3 + 1) (cellsP qs).length by omega, show k * 3 + 1 < min (k * 3 + 1) (cellsP qs).length + 1 by omega, show ¬ k * 3 + 1 < min (k * 3) (cellsP qs).length by omega, show k * 3 + 1 < min (k * 3) (cellsP qs).length + 3 by omega, show k * 3 + 1 - min (k * 3) (cellsP qs).length = 1 by omega, show k * 3 + 1 - min (k * 3 + 1) (cellsP qs).length = 0 by omega]
      · simp [show ¬ k * 3 + 2 < min (k * 3 + 1) (cellsP qs).length + 1 by omega, show ¬ k * 3 + 2 < min (k * 3) (cellsP qs).length by omega, show k * 3 + 2 < min (k * 3) (cellsP qs).length + 3 by omega, show k * 3 + 2 - min (k * 3) (cellsP qs).length = 2 by omega, show k * 3 + 1 + 1 + (k * 3 + 1 - min (k * 3 + 1) (cellsP qs).length) = k * 3 + 2 by omega, a2]
    · simp [show ¬ j < min (k * 3 + 1) (cellsP qs).length + 1 by omega, show ¬ j < min (k * 3) (cellsP qs).length + 3 by omega, show k * 3 + 1 + 1 + (j - (min (k * 3 + 1) (cellsP qs).length + 1)) = j by omega, show k * 3 + 3 + (j - (min (k * 3) (cellsP qs).length + 3)) = j by omega]
theorem map_set (qs : List LV) (k : Nat) (p : LV) (f : UInt8) (hq : qs[k]? = some p) : (qs.set k ({ p.1 with flags := f }, p.2)).map (·.1) = (qs.map (·.1)).modify k fun x => { x with flags := f } := by
  apply List.ext_getElem?
  intro j
  rw [List.getElem?_map, List.getElem?_set, List.getElem?_modify, List.getElem?_map]
  have hk := (List.getElem?_eq_some_iff.1 hq).1
  by_cases h : k = j
  · subst h
    rw [if_pos rfl, if_pos hk, hq]; simp
  · rw [if_neg h]; simp [h]
theorem modify_at {α : Type} (l : List α) (k : Nat) (f g : α → α) {x : α} (hx : l[k]? = some x) (h : f x = g x) : l.modify k f = l.modify k g := by
  apply List.ext_getElem?
  intro j
  rw [List.getElem?_modify, List.getElem?_modify]
  by_cases e : k = j
  · subst e; simp [hx, h]
  · simp [e]
theorem AddMid.flag {w W : World} {B : Nat} {name : ByteArray} {valid next : Int} {g c : Nat} {qs : List LV} (h : AddMid w W B name valid next (some ⟨g, 0, none⟩) c qs) (k : Nat) (p : LV) (f : UInt8) (hq : qs[k]? = some p) :
    AddMid w (W.setCell ⟨g, k * 3 + 1, none⟩ (.int .u8 (f.toNat : Int))) B name valid next (some ⟨g, 0, none⟩) c (qs.set k ({ p.1 with flags := f }, p.2)) := by
  have hk := (List.getElem?_eq_some_iff.1 hq).1
  have hB := h.hB
  have hg := World.ownsRow.lt h.own g rfl
  have hne : ∀ x, x ≠ g → (W.setCell ⟨g, k * 3 + 1, none⟩ (.int .u8 (f.toNat : Int))).heap[x]? = W.heap[x]? := fun x hx => setCell_kept _ _ _ _ hx
  refine ⟨?_, h.b1.kept (hne _ (by omega)), ?_, fun q hqm => ?_, hB, h.below.setCell (by simp only; omega) _⟩
  · rw [List.length_set]; exact h.b0.kept (hne _ (by omega))
  · have h2 := owns_set h.own (k * 3 + 1) [.int .u8 (f.toNat : Int)] (by simp; omega)
    rw [over_one qs k p f hq] at h2
    unfold Owns
    rw [List.length_set]
    exact h2
  · have hqm' : ∃ q0 ∈ qs, q.2 = q0.2 ∧ q.1.bytes = q0.1.bytes := by
      rcases List.mem_or_eq_of_mem_set hqm with hm | rfl
      · exact ⟨q, hm, rfl, rfl⟩
      · exact ⟨p, List.mem_of_getElem? hq, rfl, rfl⟩
    obtain ⟨q0, hm, e1, e2⟩ := hqm'
    obtain ⟨r1, r2⟩ := h.fresh q0 hm
    rw [e1, e2]
    exact ⟨r1.kept (by simp [World.setCell]) (fun x hx => hne x (fun e => by subst e; exact r2 _ rfl hx)), r2⟩
theorem AddMid.flagged {w W W' : World} {B : Nat} {name : ByteArray} {valid next : Int} {a : Option Addr} {c : Nat} {qs : List LV} {ps : List LV} {u how : Int} {flags : UInt8} (h : AddMid w W B name valid next a c qs) (hf : Fr (· = w.heap.size + 1) W W') (hq : qs.map (·.1) = flagL (ps.map (·.1)) u how flags) (hE : flagE valid next (ps.map (·.1)) u how flags = 0) :
    FlagR w name valid next ps u how flags (.returned (.tuple #[boxV name valid next (.slice a qs.length c), .int .i64 0])) W' := by
  have hB := h.hB
  exact ⟨h.below.trans (hf.below h.below.size (fun k e => by omega)), fun h0 => absurd hE h0, fun _ => ⟨a, c, qs, rfl, World.ownsRow.mono (h.own.fr hf (fun k e => by omega)) (by omega), hq, (h.fresh.fr hf (fun k e => by omega)).mono (by omega)⟩⟩
theorem lay_or (a b : UInt8) : bits .or .u8 (a.toNat : Int) (b.toNat : Int) = ((a ||| b).toNat : Int) := by
  rw [u8_or_nat _ _ a.toNat_lt b.toNat_lt, UInt8.toNat_or]
theorem not_255 : ∀ n, n < 256 → n ^^^ 255 = 255 - n := by decide +kernel
theorem lay_not (a b : UInt8) : bits .andNot .u8 (a.toNat : Int) (b.toNat : Int) = ((a &&& (b ^^^ 255)).toNat : Int) := by
  rw [u8_andNot_nat _ _ a.toNat_lt b.toNat_lt, UInt8.toNat_and, UInt8.toNat_xor, ← not_255 _ b.toNat_lt]
  rfl

/-- From clone's end to Flag's end. -/
theorem flag_mid {w wm w2 : World} {name : ByteArray} {valid next : Int} {sv : Value} {ps qs : List LV} {u how : Int} {flags : UInt8} {a : Option Addr} {c fi : Nat} (hz : w.heap.size + 2 ≤ wm.heap.size) (hbm : Below w.heap.size w wm)
    (hB : BoxW w2 w.heap.size name valid next sv) (hR : BoxW w2 (w.heap.size + 1) ⟨#[]⟩ 0 0 (.slice none 0 0)) (hown : Owns wm.heap.size w2 (.slice a qs.length c) qs) (hqs : qs.map (·.1) = ps.map (·.1)) (hfr : Fresh wm.heap.size w2 a qs) (hb2 : Below wm.heap.size wm w2)
    (hfl : fi < ps.length) (hFU : findU (ps.map (·.1)) u = fi) (hE : flagE valid next (ps.map (·.1)) u how flags = 0) :
    ∃ (gl : Nat) (p : LV) (W3 : World), a = some ⟨gl, 0, none⟩ ∧ fi < qs.length ∧ W3 = (((w2.setCell ⟨w.heap.size, 0, none⟩ (.string name)).setCell ⟨w.heap.size, 1, none⟩ (.int .i64 valid)).setCell ⟨w.heap.size, 2, none⟩ (.int .i64 next)).setCell ⟨w.heap.size, 3, none⟩ (.slice (some ⟨gl, 0, none⟩) qs.length c) ∧
      BoxW W3 w.heap.size name valid next (.slice (some ⟨gl, 0, none⟩) qs.length c) ∧ BoxW W3 (w.heap.size + 1) ⟨#[]⟩ 0 0 (.slice none 0 0) ∧ W3.cell? ⟨gl, fi * 3 + 1, none⟩ = some (.int .u8 (p.1.flags.toNat : Int)) ∧ W3.frozen? ⟨gl, fi * 3 + 1, none⟩ = false ∧
      ∀ f : UInt8, f = layF how p.1.flags flags → ∃ W4 W5 : World, W4 = W3.setCell ⟨gl, fi * 3 + 1, none⟩ (.int .u8 (f.toNat : Int)) ∧ BoxW W4 w.heap.size name valid next (.slice (some ⟨gl, 0, none⟩) qs.length c) ∧ BoxW W4 (w.heap.size + 1) ⟨#[]⟩ 0 0 (.slice none 0 0) ∧
        W5 = (((W4.setCell ⟨w.heap.size + 1, 0, none⟩ (.string name)).setCell ⟨w.heap.size + 1, 1, none⟩ (.int .i64 valid)).setCell ⟨w.heap.size + 1, 2, none⟩ (.int .i64 next)).setCell ⟨w.heap.size + 1, 3, none⟩ (.slice (some ⟨gl, 0, none⟩) qs.length c) ∧ BoxW W5 (w.heap.size + 1) name valid next (.slice (some ⟨gl, 0, none⟩) qs.length c) ∧
        FlagR w name valid next ps u how flags (.returned (.tuple #[boxV name valid next (.slice (some ⟨gl, 0, none⟩) qs.length c), .int .i64 0])) W5 := by
  have hbb2 := hbm.trans (hb2.mono hbm.size)
  have hz2 := hb2.size
  have hqn : qs.length = ps.length := by have := congrArg List.length hqs; simpa using this
  have hfq : fi < qs.length := by omega
  have hqi := List.getElem?_eq_getElem hfq
  generalize qs[fi] = p at hqi
  obtain ⟨gl, rfl, hgl⟩ : ∃ gl, a = some ⟨gl, 0, none⟩ ∧ wm.heap.size ≤ gl := by
    rcases hown.2 with ⟨_, h0⟩ | ⟨g', cap, cur, e, hg', _⟩
    · omega
    · injection e with e1; exact ⟨g', e1, hg'⟩
  obtain ⟨W3, hW3, hb3, hf3⟩ := hB.put4 name valid next (.slice (some ⟨gl, 0, none⟩) qs.length c)
  have hbb3 : Below w.heap.size w W3 := hbb2.trans (hf3.below hbb2.size (fun k e => by omega))
  have hmid : AddMid w W3 wm.heap.size name valid next (some ⟨gl, 0, none⟩) c qs := ⟨hb3, hR.kept (hf3.block _ (by omega) (by omega)), hown.fr hf3 (fun k e => by omega), hfr.fr hf3 (fun k e => by omega), by omega, hbb3⟩
  have x1 : W3.cell? ⟨gl, fi * 3 + 1, none⟩ = some (.int .u8 (p.1.flags.toNat : Int)) := by
    have := World.ownsRow.cells hmid.own (g := gl) rfl (fi * 3 + 1) _ (cellsP_at qs fi p hqi).2.1
    rwa [addr_plus, Nat.zero_add] at this
  have x2 : W3.frozen? ⟨gl, fi * 3 + 1, none⟩ = false := (owns_there hmid.own (fi * 3) 3 (by omega) 1 (by omega)).2
  refine ⟨gl, p, W3, rfl, hfq, hW3, hmid.b0, hmid.b1, x1, x2, fun f hf => ?_⟩
  have hm := hmid.flag fi p f hqi
  obtain ⟨W5, hW5, hb5, hf5⟩ := hm.b1.put4 name valid next (.slice (some ⟨gl, 0, none⟩) qs.length c)
  have hb0 := hm.b0
  rw [List.length_set] at hb0
  have hd := hm.flagged (ps := ps) (u := u) (how := how) (flags := flags) hf5 (by
    rw [map_set qs fi p f hqi, hqs, flagL, hFU, hf]
    exact modify_at _ _ _ _ (by rw [← hqs, List.getElem?_map, hqi]; rfl) rfl) hE
  rw [List.length_set] at hd
  exact ⟨_, W5, rfl, hb0, hm.b1, hW5, hb5, hd⟩
end Go.Proofs.Ytpmakbjchepkmaa
