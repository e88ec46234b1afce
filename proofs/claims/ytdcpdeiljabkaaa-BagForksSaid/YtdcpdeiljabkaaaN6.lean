/- Bag: Lose, First, New, live. -/
import Derived.Test.YtdcpdeiljabkaaaN5
namespace Go.Proofs.Ytdcpdeiljabkaaa
open Go Go.RowKit

def Bg.lose (b : Bg) (i : Int) : Int × Bg := if b.has i = true then (0, { b.cut i.toNat with lost := b.lost + 1 }) else (2, b)
set_option maxHeartbeats 4000000 in
set_option maxRecDepth 100000 in
theorem lose_any (B p : Nat) (w : World) (b : Bg) (sv : Value) (ps : List UV) (i : Int) (h : BagAt B w p b sv ps) (hn : b.us.length ≤ 1000) (hlo : b.lost ≤ 1000000) :
    Calls Try.prog 12 #[.pointer (some ⟨p, 0, none⟩), .int .i64 i] w fun e w' => e = .returned (.int .i64 (b.lose i).1) ∧ OpS B w p sv ps (b.lose i).2 w' := by
  have HH := Lib.hid (has_any B p w b sv ps i h)
  unfold Bg.lose
  by_cases hh : b.has i = true
  case neg =>
    rw [Bool.not_eq_true] at hh
    have HE := Lib.hid (OpS.same h (Below.refl _ w))
    rw [hh] at HH ⊢
    rw [if_neg (by simp)]
    clear h
    go_enter Try.func12, Try.ntmps12
    go_wp2_with fail
    refine HH.out.mono ?_
    rintro e w1 ⟨rfl, rfl⟩
    clear HH
    go_wp2
    go_ret
    exact ⟨rfl, HE.out⟩
  rw [hh] at HH
  rw [if_pos hh]
  have hib : 0 ≤ i ∧ i < (b.us.length : Int) := by unfold Bg.has at hh; simpa using hh
  obtain ⟨k, rfl⟩ : ∃ k : Nat, i = (k : Int) := ⟨i.toNat, (Int.toNat_of_nonneg hib.1).symm⟩
  rw [Int.toNat_natCast]
  have HRM := Lib.hid (remove_any B p w b sv ps k h (by omega) hn)
  have HFIN : Hid (∀ w1, OpS B w p sv ps (b.cut k) w1 → w1.cell? ⟨p, 1, none⟩ = some (.int .i64 (b.lost : Int)) ∧ w1.frozen? ⟨p, 1, none⟩ = false ∧ OpS B w p sv ps { b.cut k with lost := b.lost + 1 } (w1.setCell ⟨p, 1, none⟩ (.int .i64 ((b.lost : Int) + 1)))) := Lib.hid (fun w1 hop => by
    obtain ⟨sv', ps', h1, h2, h3⟩ := hop
    refine ⟨h1.cells.2.1, h1.cells.2.2.2.1, sv', ps', ⟨?_, ?_, h1.eq, h1.ne, h1.base⟩, h2.setCell ⟨p, 1, none⟩ (Or.inl (Or.inl rfl)) _, h3⟩
    · have := heap_setCell_same w1 p 1 _ _ (.int .i64 ((b.lost : Int) + 1)) h1.row
      rw [this]
      simp [Bg.cut]
    · have hf : Fr (· = p) w1 (w1.setCell ⟨p, 1, none⟩ (.int .i64 ((b.lost : Int) + 1))) := (Fr.refl (· = p) w1).setCell ⟨p, 1, none⟩ (Or.inl rfl) _
      exact h1.us.kept hf.size (fun g hg => hf.block g (h1.us.has g hg).2 (h1.ne g hg)))
  clear h hib hh
  go_enter Try.func12, Try.ntmps12
  go_wp2_with fail
  refine HH.out.mono ?_
  rintro e w1 ⟨rfl, rfl⟩
  clear HH
  go_wp2_with fail
  refine HRM.out.mono ?_
  rintro e w2 ⟨rfl, hop⟩
  obtain ⟨k1, k2, hE⟩ := HFIN.out w2 hop
  have HE := Lib.hid hE
  clear hop hE HFIN HRM
  go_wp2
  go_ret
  exact ⟨rfl, HE.out⟩

def firstF (to_ : Int) : Nat → List Und → Int × Bool
  | _, [] => (0, false)
  | k, x :: t => if (x.dst == to_) = true then ((k : Int), true) else firstF to_ (k + 1) t
theorem drop_atn {α : Type} {l : List α} {k : Nat} {x : α} (h : l[k]? = some x) : l.drop k = x :: l.drop (k + 1) := by
  obtain ⟨hk, rfl⟩ := List.getElem?_eq_some_iff.1 h
  exact List.drop_eq_getElem_cons hk
theorem ret_pair {a a' : Int} {b b' : Bool} (h : (a, b) = (a', b')) : Ending.returned (.tuple #[.int .i64 a, .bool b]) = .returned (.tuple #[.int .i64 a', .bool b']) := by injection h with h1 h2; rw [h1, h2]
set_option maxHeartbeats 4000000 in
set_option maxRecDepth 100000 in
theorem first_any (B p : Nat) (w : World) (b : Bg) (sv : Value) (ps : List UV) (t : Int) (h : BagAt B w p b sv ps) (hn : b.us.length ≤ 1000) :
    Calls Try.prog 21 #[.pointer (some ⟨p, 0, none⟩), .int .i64 t] w fun e w' => e = .returned (.tuple #[.int .i64 (firstF t 0 b.us).1, .bool (firstF t 0 b.us).2]) ∧ w = w' := by
  obtain ⟨F1, F2, hF⟩ : ∃ a c, firstF t 0 b.us = (a, c) := ⟨_, _, rfl⟩
  rw [hF]
  have HF := Lib.hid hF
  have HL := Lib.hid (len_any B p w b sv ps h)
  obtain ⟨c0, c1, c2, f1, f2⟩ := h.cells
  obtain ⟨sa, sc, rfl, _⟩ := h.us.len_le
  have HAT : Hid (∀ k q, ps[k]? = some q → ∃ g, sa = some ⟨g, 0, none⟩ ∧ w.cell? ⟨g, k * 3 + 1, none⟩ = some (.int .i64 q.1.dst)) := Lib.hid (fun k q hq => by
    obtain ⟨g, c, e, _, _, _, h1, _⟩ := h.us.at k q hq
    injection e with e1 _ _
    exact ⟨g, e1, h1⟩)
  have HEQ := Lib.hid h.eq
  have hlen := h.len
  rw [hlen] at c2
  have HLEN := Lib.hid hlen
  clear h hF f1 f2 hlen
  go_enter Try.func21, Try.ntmps21
  go_wp2_with fail
  refine HL.out.mono ?_
  rintro e w1 ⟨rfl, rfl⟩
  clear HL
  go_wp2_with fail
  go_loop [9] (fun iv => ∃ k : Nat, k ≤ b.us.length ∧ iv = .int .i64 (k : Int) ∧ Hid (firstF t k (b.us.drop k) = (F1, F2))) (fun iv => b.us.length - (intOf iv).toNat)
  case atStart => exact ⟨0, Nat.zero_le _, rfl, Lib.hid HF.out⟩
  case round =>
    clear HF
    obtain ⟨k, hk, rfl, hH⟩ := hrel
    by_cases hlt : k < b.us.length
    · have hlt' : (k : Int) < (b.us.length : Int) := by omega
      obtain ⟨q, hp⟩ : ∃ q, ps[k]? = some q := ⟨_, List.getElem?_eq_getElem (show k < ps.length by rw [HLEN.out]; exact hlt)⟩
      obtain ⟨g, rfl, q1⟩ := HAT.out k q hp
      have hxk : b.us[k]? = some q.1 := by rw [← HEQ.out, List.getElem?_map, hp]; rfl
      have hgo := hH.out
      rw [drop_atn hxk, firstF] at hgo
      cases he : (q.1.dst == t) with
      | true =>
        rw [he, if_pos rfl] at hgo
        have HG := Lib.hid hgo
        clear hp hxk hgo hH
        go_wp2
        go_ret2
        exact ⟨ret_pair HG.out, rfl⟩
      | false =>
        rw [he, if_neg (by simp)] at hgo
        have HG := Lib.hid hgo
        clear hp hxk hgo hH
        go_wp2
        go_round
        case rel => exact ⟨k + 1, by omega, by go_num, HG⟩
        case measure => simp [intOf]; omega
    · have hkl : k = b.us.length := by omega
      have hgo := hH.out
      rw [hkl, List.drop_length, firstF] at hgo
      have hlt' : ¬ (k : Int) < (b.us.length : Int) := by omega
      have HG := Lib.hid hgo
      clear hgo hH hkl
      go_wp2
      go_ret2
      exact ⟨ret_pair HG.out, rfl⟩
set_option maxRecDepth 100000 in
theorem new_bad (n : Int) (w : World) (h : n < 1 ∨ 48 < n) :
    Calls Try.prog 9 #[.int .i64 n] w fun e w' => e = .returned (.tuple #[.pointer none, .int .i64 2]) ∧ w = w' := by
  have h' : n < 1 ∨ (¬ n < 1 ∧ 48 < n) := by omega
  clear h
  rcases h' with h | ⟨h1, h2⟩
  all_goals
    go_enter Try.func9, Try.ntmps9
    go_wp2
    go_ret2
    exact ⟨rfl, rfl⟩
theorem us_nil (B : Nat) (w : World) : UsAt B w (.slice none 0 0) [] := UsAt.nil B w
theorem hasU_nil (g : Nat) : ¬ HasU (.slice none 0 0) [] g := by
  rintro (h | ⟨p, hp, _⟩)
  · simp [Value.ownBlock] at h
  · cases hp
def NewR (B : Nat) (w : World) (n : Nat) (e : Ending) (w' : World) : Prop :=
  e = .returned (.tuple #[.pointer (some ⟨w.heap.size, 0, none⟩), .int .i64 0]) ∧ BagAt B w' w.heap.size ⟨n, 0, []⟩ (.slice none 0 0) [] ∧ Below w.heap.size w w'
set_option maxRecDepth 100000 in
theorem new_any (B n : Nat) (w : World) (h1 : 1 ≤ n) (h2 : n ≤ 48) (hB : B ≤ w.heap.size) :
    Calls Try.prog 9 #[.int .i64 (n : Int)] w (NewR B w n) := by
  have HE : Hid (NewR B w n (.returned (.tuple #[.pointer (some ⟨w.heap.size, 0, none⟩), .int .i64 0])) (w.alloc (.cells #[.int .i64 (n : Int), .int .i64 0, .slice none 0 0] 56))) := Lib.hid
    ⟨rfl, ⟨heap_alloc_new w _, us_nil _ _, rfl, fun g hg => absurd hg (hasU_nil g), hB⟩, (Below.refl _ w).alloc (Nat.le_refl _) _⟩
  have h1' : ¬ (n : Int) < 1 := by omega
  have h2' : ¬ (48 : Int) < (n : Int) := by omega
  go_enter Try.func9, Try.ntmps9
  go_wp2
  go_ret2
  exact HE.out
end Go.Proofs.Ytdcpdeiljabkaaa
