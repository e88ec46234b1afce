/- Coord: a life begins. -/
import Derived.Test.YtleghofpabdkhaaY12
namespace Go.Proofs.Ytleghofpabdkhaa
open Go Go.RowKit

/-- What DeleteFunc tells of any of one's own. -/
def DelA (B : Nat) (W : World) (sv : Value) (qs : List Trn) (e : Ending) (w' : World) : Prop :=
  ∃ a c, e = .returned (.slice a (qs.filter (·.dn)).length c) ∧ TsAt B w' (.slice a (qs.filter (·.dn)).length c) (qs.filter (·.dn)) ∧ Fr (fun k => sv.ownBlock = some k) W w' ∧ ∀ g, (Value.slice a (qs.filter (·.dn)).length c).ownBlock = some g → sv.ownBlock = some g
set_option maxHeartbeats 4000000 in
set_option maxRecDepth 100000 in
theorem delA_any (B : Nat) (sv : Value) (qs : List Trn) (w : World) (h : TsAt B w sv qs) (hn : qs.length ≤ 1000) :
    Calls Try.prog 62 #[sv, .func (.func 63) #[] #[]] w (DelA B w sv qs) := by
  obtain ⟨a, k, e, hk⟩ := owns_shape h
  have h2 := h.2
  rcases h2 with ⟨e0, h0⟩ | ⟨g, cap, cur, e2, _⟩
  · have hq : qs = [] := List.length_eq_zero_iff.1 h0
    subst hq
    rw [e0] at h ⊢
    have HIX := Lib.hid (idxlive_any B w _ [] h (by decide))
    have HE := Lib.hid (fun w1 (hb1 : Below w.heap.size w w1) => (⟨none, 0, rfl, owns_frame h (fun k hk => hb1.block k (World.ownsRow.lt h k hk).2), Fr.of_below _ hb1, fun g hg => hg⟩ : DelA B w (.slice none 0 0) [] (.returned (.slice none 0 0)) w1))
    have e1 : idxF liveB 0 [] = -1 := rfl
    rw [e1] at HIX
    clear h e e0 h0 e1 hk
    go_enter Try.func62, Try.ntmps62
    go_wp2_with fail
    refine HIX.out.mono ?_
    rintro e w1 ⟨rfl, hb1⟩
    go_wp2
    go_ret
    exact HE.out w1 hb1
  · rw [e] at e2
    injection e2 with ea _ ec
    subst ea ec
    subst e
    refine (delF_any B g k qs w h hn).mono ?_
    rintro e w1 ⟨rfl, h1, h2⟩
    exact ⟨_, _, rfl, h1, h2.mono (fun k' _ e => by rw [e]; rfl), fun g' hg' => hg'⟩
/-- A life begins, in plain words. -/
def Cd.live (c : Cd) (n : Int) : Int × Cd := if n ≤ c.life then (13, c) else (0, { c with life := n, next := 1, under := c.under.filter (·.dn) })
set_option maxHeartbeats 4000000 in
set_option maxRecDepth 100000 in
theorem live_any (B p : Nat) (w : World) (c : Cd) (sv : Value) (n : Int) (h : CdAt B w p c sv) (hn : c.under.length ≤ 1000) :
    Calls Try.prog 40 #[.pointer (some ⟨p, 0, none⟩), .int .i64 n] w fun e w' => e = .returned (.int .i64 (c.live n).1) ∧ OpC B w p sv (c.live n).2 w' := by
  obtain ⟨sa, sc, rfl, _⟩ := h.lens
  obtain ⟨c0, c1, c2, c3, f1, f2, f3⟩ := h.cells
  by_cases hlt : n ≤ c.life
  · have HE : Hid ((Ending.returned (.int .i64 13) : Ending) = .returned (.int .i64 (c.live n).1) ∧ OpC B w p (.slice sa c.under.length sc) (c.live n).2 w) := Lib.hid (by unfold Cd.live; rw [if_pos hlt]; exact ⟨rfl, OpC.same h (Below.refl _ _)⟩)
    clear h
    go_enter Try.func40, Try.ntmps40
    go_wp2
    go_ret
    exact HE.out
  · have HD : Hid (c.live n = (0, { c with life := n, next := 1, under := c.under.filter (·.dn) })) := Lib.hid (by unfold Cd.live; rw [if_neg hlt])
    obtain ⟨w2, hw2⟩ : ∃ w2, (w.setCell ⟨p, 1, none⟩ (.int .i64 n)).setCell ⟨p, 2, none⟩ (.int .i64 1) = w2 := ⟨_, rfl⟩
    have hf2 : Fr (· = p) w w2 := by rw [← hw2]; exact ((Fr.refl (· = p) w).setCell ⟨p, 1, none⟩ (Or.inl rfl) _).setCell ⟨p, 2, none⟩ (Or.inl rfl) _
    have hr2 : w2.heap[p]? = some (.cells #[.int .i64 c.node, .int .i64 n, .int .i64 1, .slice sa c.under.length sc] 72 (0, 0)) := by
      rw [← hw2]
      exact heap_setCell_same _ p 2 _ _ _ (heap_setCell_same w p 1 _ _ _ h.row)
    have hus2 : TsAt B w2 (.slice sa c.under.length sc) c.under := owns_frame h.us (fun g hg => hf2.block g (World.ownsRow.lt h.us g hg).2 (h.ne g hg))
    have HC := Lib.hid (delA_any B _ c.under w2 hus2 hn)
    have hplt := h.lt
    have hne := h.ne
    have hba := h.base
    have d3 : w2.cell? ⟨p, 3, none⟩ = some (.slice sa c.under.length sc) := cell_of_row _ _ _ _ _ _ hr2
    have HFIN : Hid (∀ w1 a c', TsAt B w1 (.slice a (c.under.filter (·.dn)).length c') (c.under.filter (·.dn)) → Fr (fun k => (Value.slice sa c.under.length sc).ownBlock = some k) w2 w1 → (∀ g, (Value.slice a (c.under.filter (·.dn)).length c').ownBlock = some g → (Value.slice sa c.under.length sc).ownBlock = some g) → w1.cell? ⟨p, 3, none⟩ = some (.slice sa c.under.length sc) ∧ w1.frozen? ⟨p, 3, none⟩ = false ∧ OpC B w p (.slice sa c.under.length sc) { c with life := n, next := 1, under := c.under.filter (·.dn) } (w1.setCell ⟨p, 3, none⟩ (.slice a (c.under.filter (·.dn)).length c'))) := Lib.hid (fun w1 a c' hus1 hf hg => by
      have hrow := (hf.block p (by have := hf2.size; omega) (fun e => hne p e rfl)).trans hr2
      have hfp : Fr (· = p) w1 (w1.setCell ⟨p, 3, none⟩ (.slice a (c.under.filter (·.dn)).length c')) := (Fr.refl (· = p) w1).setCell ⟨p, 3, none⟩ (Or.inl rfl) _
      refine ⟨cell_of_row _ _ _ _ _ _ hrow, frozen_of_row _ _ _ _ _ hrow, .slice a (c.under.filter (·.dn)).length c', ⟨?_, ?_, fun g hgg => hne g (hg g hgg), hba⟩, ?_, fun gg hgg => Or.inl (hg gg hgg)⟩
      · exact heap_setCell_same w1 p 3 _ _ _ hrow
      · exact owns_frame hus1 (fun gg hgg => hfp.block gg (World.ownsRow.lt hus1 gg hgg).2 (hne gg (hg gg hgg)))
      · exact ((hf2.mono (o' := fun k' => k' = p ∨ (Value.slice sa c.under.length sc).ownBlock = some k') (fun k' _ e => Or.inl e)).trans hf (fun _ _ h => h) (fun _ _ e => Or.inr e)).setCell ⟨p, 3, none⟩ (Or.inl (Or.inl rfl)) _)
    have HW2 := Lib.hid hw2
    clear h hf2 hr2 hus2 hplt hne hba hw2
    go_enter Try.func40, Try.ntmps40
    go_wp2_with (first | rw [HW2.out])
    refine HC.out.mono ?_
    rintro e w1 ⟨a, c', rfl, k1, k2, k3⟩
    obtain ⟨m1, m2, m3⟩ := HFIN.out w1 a c' k1 k2 k3
    have HOP := Lib.hid m3
    clear k1 k2 k3 m3 HFIN HC d3
    go_wp2
    go_ret
    rw [HD.out]
    exact ⟨rfl, HOP.out⟩
end Go.Proofs.Ytleghofpabdkhaa
