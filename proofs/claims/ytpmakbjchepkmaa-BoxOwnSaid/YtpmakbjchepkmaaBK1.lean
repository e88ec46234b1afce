/- Box: which letter has a UID: the closure, slices.IndexFunc. -/
import Derived.Test.YtpmakbjchepkmaaBF2
import Derived.Test.YtpmakbjchepkmaaB8
namespace Go.Proofs.Ytpmakbjchepkmaa
open Go Go.RowKit

theorem idxFrom_eq {α : Type} (f : α → Bool) : ∀ (l : List α) (k : Nat), idxFrom f k l = if l.findIdx f = l.length then -1 else ((k + l.findIdx f : Nat) : Int)
  | [], k => rfl
  | x :: t, k => by
    unfold idxFrom
    rw [List.findIdx_cons]
    cases h : f x with
    | true => simp
    | false =>
      simp only [cond_false, List.length_cons, Bool.false_eq_true, if_false]
      rw [idxFrom_eq f t (k + 1)]
      by_cases h2 : t.findIdx f = t.length
      · rw [if_pos h2, if_pos (by omega)]
      · rw [if_neg h2, if_neg (by omega)]; omega

set_option maxHeartbeats 2000000 in
set_option maxRecDepth 100000 in
theorem isU_any (u : Int) (x : Letr) (bv : Value) (b : Nat) (w : World) (hu : w.cell? ⟨b, 0, none⟩ = some (.int .i64 u)) (hs : ∃ ba bc, bv = .slice ba x.bytes.length bc) :
    Calls Try.prog 42 #[letV x bv, .pointer (some ⟨b, 0, none⟩)] w fun e w' => e = .returned (.bool (x.uid == u)) ∧ Below w.heap.size w w' := by
  obtain ⟨ba, bc, rfl⟩ := hs
  have b1 : Below w.heap.size w (w.alloc (.cells #[.int .i64 x.uid, .int .u8 (x.flags.toNat : Int), .slice ba x.bytes.length bc] 44)) := (Below.refl _ w).alloc (Nat.le_refl _) _
  have hlt := World.block_lt_of_cell? w _ hu
  have hc := (b1.cell (p := ⟨b, 0, none⟩) hlt).trans hu
  unfold letV
  clear hu
  go_enter Try.func42, Try.ntmps42
  go_wp2
  go_ret
  exact ⟨rfl, b1⟩
set_option maxHeartbeats 2000000 in
set_option maxRecDepth 100000 in
theorem idxL_any (sv : Value) (ps : List LV) (u : Int) (b : Nat) (w : World) (h : Lets w sv ps) (hu : w.cell? ⟨b, 0, none⟩ = some (.int .i64 u)) (hn : ps.length ≤ 1000) :
    Calls Try.prog 28 #[sv, .func (.func 42) #[] #[.pointer (some ⟨b, 0, none⟩)]] w fun e w' => e = .returned (.int .i64 (idxFrom (fun x : Letr => x.uid == u) 0 (ps.map (·.1)))) ∧ Below w.heap.size w w' := by
  obtain ⟨a, cap, rfl, g, off, hg, hc⟩ := h.opened
  have hlt := World.block_lt_of_cell? w _ hu
  have HU := Lib.hid (fun x bv W (hs : ∃ ba bc, bv = Value.slice ba x.bytes.length bc) (hW : Below w.heap.size w W) => isU_any u x bv b W ((hW.cell (p := ⟨b, 0, none⟩) hlt).trans hu) hs)
  have HC := Lib.hid hc
  have HG := Lib.hid hg
  have HY := Lib.hid h.bytes
  generalize hF : idxFrom (fun x : Letr => x.uid == u) 0 (ps.map (·.1)) = F
  have HF := Lib.hid hF
  clear hF h hc hg hu hlt
  go_enter Try.func28, Try.ntmps28
  go_wp2
  go_loopw [8] (fun i wr => ∃ k : Nat, k ≤ ps.length ∧ i = .int .i64 k ∧ idxFrom (fun x : Letr => x.uid == u) k ((ps.map (·.1)).drop k) = F ∧ Below w.heap.size w wr) (fun i _ => ps.length - (intOf i).toNat)
  case atStart => exact ⟨0, Nat.zero_le _, rfl, HF.out, Below.refl _ _⟩
  case round =>
    obtain ⟨k, hk, rfl, hgo, hbw⟩ := hrel
    by_cases hlt : k < ps.length
    · have hp := List.getElem?_eq_getElem hlt
      generalize ps[k] = p at hp
      rw [drop_at (by rw [List.getElem?_map, hp]; rfl)] at hgo
      have hne : ps ≠ [] := fun e => by subst e; simp at hlt
      obtain ⟨rfl, hgl⟩ := HG.out hne
      obtain ⟨a0, a1, a2⟩ := HC.out k p hp
      have d0 := (hbw.cell (p := ⟨g, off + k * 3, none⟩) hgl).trans a0
      have d1 := (hbw.cell (p := ⟨g, off + k * 3 + 1, none⟩) hgl).trans a1
      have d2 := (hbw.cell (p := ⟨g, off + k * 3 + 2, none⟩) hgl).trans a2
      obtain ⟨⟨ba, bc, hbv⟩, _⟩ := HY.out p (List.mem_of_getElem? hp)
      rw [hbv] at d2
      have HC2 := Lib.hid (HU.out p.1 (.slice ba p.1.bytes.length bc) wr ⟨_, _, rfl⟩ hbw)
      unfold letV at HC2
      unfold idxFrom at hgo
      have HBW := Lib.hid hbw
      have hz := hbw.size
      clear hp hne hgl a0 a1 a2 hbv hbw
      generalize hR : (p.1.uid == u) = R at *
      clear hR
      cases R with
      | true =>
        have HGo := Lib.hid hgo
        clear hgo
        go_wp2_with fail
        refine HC2.out.mono ?_
        rintro e w1 ⟨rfl, hb1⟩
        have HB1 := Lib.hid (HBW.out.trans (hb1.mono HBW.out.size))
        clear hb1
        go_wp2
        go_ret
        exact ⟨ret_int HGo.out, HB1.out⟩
      | false =>
        have HGo := Lib.hid hgo
        clear hgo
        go_wp2_with fail
        refine HC2.out.mono ?_
        rintro e w1 ⟨rfl, hb1⟩
        have HB1 := Lib.hid (HBW.out.trans (hb1.mono HBW.out.size))
        clear hb1
        go_wp2
        go_roundw
        case rel => exact ⟨k + 1, by omega, by go_num, HGo.out, HB1.out⟩
        case measure => simp [intOf]; omega
    · have hk : k = ps.length := by omega
      subst hk
      rw [List.drop_of_length_le (by simp)] at hgo
      have HGo := Lib.hid hgo
      clear hgo
      go_wp2
      go_ret
      exact ⟨ret_int HGo.out, hbw⟩
/-- numbered: the closure, a block of its own. -/
def NumR (W : World) (u : Int) (e : Ending) (w' : World) : Prop := ∃ b, e = .returned (.func (.func 42) #[] #[.pointer (some ⟨b, 0, none⟩)]) ∧ w'.cell? ⟨b, 0, none⟩ = some (.int .i64 u) ∧ Below W.heap.size W w'
set_option maxHeartbeats 2000000 in
theorem numbered_any (u : Int) (w : World) : Calls Try.prog 29 #[.int .i64 u] w (NumR w u) := by
  have b1 : Below w.heap.size w (w.alloc (.cells #[.int .i64 u] 3)) := (Below.refl _ w).alloc (Nat.le_refl _) _
  have hc : (w.alloc (.cells #[.int .i64 u] 3)).cell? ⟨w.heap.size, 0, none⟩ = some (.int .i64 u) := World.cell?_alloc_new _ _ _ _
  go_enter Try.func29, Try.ntmps29
  go_wp2
  go_ret
  exact ⟨w.heap.size, rfl, hc, b1⟩
end Go.Proofs.Ytpmakbjchepkmaa
