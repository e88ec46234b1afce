/- Frame: lay. -/
import Derived.Test.YtjlhcgimijcghaaF5
namespace Go.Proofs.Ytjlhcgimijcghaa
open Go Go.RowKit

set_option maxHeartbeats 1000000 in
theorem layc_any (B W0 : Nat) (d : List UInt8) (b : UInt8) (v : Value) (w : World) (hc : w.cell? ⟨B, 0, none⟩ = some v) (hf : w.frozen? ⟨B, 0, none⟩ = false) (hrow : Row W0 w v d) (hW : W0 ≤ w.heap.size) (hB : B < W0) (hlen : d.length + 1 ≤ 140737488355328) :
    Calls Try.prog 26 #[.int .u8 (b.toNat : Int), .pointer (some ⟨B, 0, none⟩)] w fun e w' => e = .returned (.tuple #[]) ∧ (∃ v', w'.cell? ⟨B, 0, none⟩ = some v' ∧ w'.frozen? ⟨B, 0, none⟩ = false ∧ Row W0 w' v' (d ++ [b])) ∧ Fr (fun k => k = B ∨ v.ownBlock = some k) w w' := by
  have hb1 : Below w.heap.size w (w.alloc (.cells #[.int .u8 (b.toNat : Int)] 5)) := (Below.refl _ w).alloc (Nat.le_refl _) _
  have hx := (Row.made w 5 [b] #[.int .u8 (b.toNat : Int)] rfl (Nat.le_refl _) (by simp [maxLen])).1
  obtain ⟨v2, w2, hr2, hrow2, hg2, hor⟩ := app_row _ (hrow.below hb1) hx (Nat.le_trans hW hb1.size) hlen
  have hown := hrow.own
  have hblt : B < w.heap.size := by omega
  have hcB : w2.heap[B]? = w.heap[B]? := (hg2.block B (by have := hb1.size; omega) (fun e => by have := hown B e.symm; omega)).trans (hb1.block B hblt)
  have hc2 : w2.cell? ⟨B, 0, none⟩ = some v := (World.cell?_of_block (a := ⟨B, 0, none⟩) hcB).trans hc
  have hf2 : w2.frozen? ⟨B, 0, none⟩ = false := (World.frozen?_of_block (a := ⟨B, 0, none⟩) hcB).trans hf
  have hown2 := hrow2.own
  have fin : (w2.setCell ⟨B, 0, none⟩ v2).cell? ⟨B, 0, none⟩ = some v2 ∧ (w2.setCell ⟨B, 0, none⟩ v2).frozen? ⟨B, 0, none⟩ = false ∧ Row W0 (w2.setCell ⟨B, 0, none⟩ v2) v2 (d ++ [b]) :=
    ⟨World.cell?_setCell_same _ _ _ hc2, by rw [World.frozen?_setCell]; exact hf2, hrow2.fr (S := fun k => k = B) (Fr.set w2 B v2 rfl) (fun g hg e => by have := hown2 g hg; omega)⟩
  have hfr : Fr (fun k => k = B ∨ v.ownBlock = some k) w (w2.setCell ⟨B, 0, none⟩ v2) :=
    ((Fr.of_below (S := fun k => k = B ∨ v.ownBlock = some k) hb1).trans (T := fun k => v.ownBlock = some k) (U := fun k => k = B ∨ v.ownBlock = some k) ⟨hg2.os, hg2.tape, hg2.output, hg2.size, fun k hk hn => hg2.block k hk (fun e => hn e.symm)⟩ (fun _ h => h) (fun _ _ h => Or.inr h)).trans (T := fun k => k = B) (Fr.set w2 B v2 rfl) (fun _ h => h) (fun _ _ h => Or.inl h)
  obtain ⟨a, c, rfl, hcap⟩ := hrow.1.shape
  obtain ⟨a2, c2, rfl, hcap2⟩ := hrow2.1.shape
  have R2 := Lib.hid hr2
  have FIN := Lib.hid fin
  have HFR := Lib.hid hfr
  generalize (d ++ [b]).length = n2 at *
  clear hr2 fin hfr hrow hrow2 hown hown2 hx hg2 hor hcB hb1
  go_enter Try.func26, Try.ntmps26
  go_wp2_with (at_builtin; refine wpList_append_run _ rfl _ _ 22 22 rfl _ _ rfl rfl _ w2 R2.out ?_)
  go_end0
  exact ⟨rfl, ⟨_, FIN.out⟩, HFR.out⟩

set_option maxHeartbeats 1000000 in
theorem lay_any (G cap : Nat) (vs : List Value) (ls : List (List UInt8)) (w : World) (hn : ls.length ≤ 1000) (hl : (ls.flatten).length ≤ 140737488355328) (hll : ∀ l ∈ ls, l.length ≤ 140737488355328) (hR : Rd G vs ls w) (hG : G < w.heap.size) :
    Calls Try.prog 21 #[.slice (some ⟨G, 0, none⟩) ls.length cap] w fun e w' => ∃ v, e = .returned v ∧ Row w.heap.size w' v ls.flatten ∧ Below w.heap.size w w' := by
  have hmf : ∀ (fn : Fn) (first cap : Array Value) (w : World), (Instr.makeFunc fn first cap).run Try.prog w = .ok (.func fn first cap) w := fun _ _ _ _ => rfl
  have hb1 : Below w.heap.size w (w.alloc (.cells #[.slice none 0 0] 22)) := (Below.refl _ w).alloc (Nat.le_refl _) _
  have hsz : (w.alloc (.cells #[.slice none 0 0] 22)).heap.size = w.heap.size + 1 := by simp
  have hth := (through_fr 26 w.heap.size G cap vs ls (fun d wr => ∃ v, wr.cell? ⟨w.heap.size, 0, none⟩ = some v ∧ wr.frozen? ⟨w.heap.size, 0, none⟩ = false ∧ Row (w.heap.size + 1) wr v d) _ hn hll (hR.below hb1) (by omega)
      (fun v hv e => by
        obtain ⟨j, hj⟩ := List.getElem?_of_mem hv
        obtain ⟨hlt, _⟩ := List.getElem?_eq_some_iff.1 hj
        have := (hR.2 j v _ hj (List.getElem?_eq_getElem (by rw [← hR.1]; exact hlt))).2.lt _ e
        omega)
      (fun d b wr ⟨v, h1, h2, h3⟩ hf hle => (layc_any w.heap.size (w.heap.size + 1) d b v wr h1 h2 h3 (by rw [← hsz]; exact hf.size) (by omega) (by simp only [List.length_append, List.length_cons, List.length_nil] at hle; omega)).mono fun e w' ⟨e1, e2, e3⟩ => ⟨e1, e2,
        hf.trans e3 (fun _ h => h) (fun i hi h => by
          rcases h with h | h
          · exact h
          · have := h3.own i h; omega)⟩)
      en_lay ⟨_, (new_cell w _ _).1, (new_cell w _ _).2, Row.nil _ _⟩).mono fun e w' ⟨e1, e2, e3⟩ => (⟨e1, e2, e3.to_below hb1 hb1.size (fun k hk => Nat.le_of_eq hk.symm)⟩ : _ ∧ _ ∧ Below w.heap.size w w')
  clear hR hb1 hsz
  have HTH := Lib.hid hth
  clear hth
  go_enter Try.func21, Try.ntmps21
  go_wp2_with fail
  refine HTH.out.mono ?_
  rintro e w1 ⟨rfl, ⟨v, hc, _, hrow⟩, hb⟩
  have HB := Lib.hid hb
  have hr : Row w.heap.size w1 v ls.flatten := ⟨hrow.1, fun ad n c hv => by
    obtain ⟨q1, q2⟩ := hrow.2 ad n c hv
    exact ⟨by omega, q2⟩⟩
  have HR := Lib.hid hr
  obtain ⟨a, c, rfl, hcap⟩ := hrow.1.shape
  clear hb hrow hr hcap hl
  generalize (ls.flatten).length = nn at *
  go_wp2
  go_ret
  exact ⟨_, rfl, HR.out, HB.out⟩
end Go.Proofs.Ytjlhcgimijcghaa
