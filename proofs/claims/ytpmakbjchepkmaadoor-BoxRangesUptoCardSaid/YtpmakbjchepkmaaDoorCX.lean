/- Box: the document's Set, where it tells a fault ahead of its loop. -/
import Derived.Test.YtpmakbjchepkmaaDoorCW
namespace Go.Proofs.YtpmakbjchepkmaaDoor
open Go Go.RowKit

/-- What the document's Set tells of a fault. -/
def SetBad (w : World) (x : Int × Int) (e : Ending) (w' : World) : Prop := e = .returned (.tuple #[.slice none 0 0, .int .i64 x.1, .int .i64 x.2]) ∧ Below w.heap.size w w'
theorem parts_err (s : ByteArray) (most : Int) : (partsF s (s.size + 1) 0 []).2.2 = 0 ∨ (partsF s (s.size + 1) 0 []).2.2 = 3 ∨ (partsF s (s.size + 1) 0 []).2.2 = 4 := by
  rcases parts_run (s := s) (most := most) (s.size + 1) 0 [] (Rd.new most) (by omega) (Nat.zero_le _) rfl rfl rfl rfl rfl with ⟨h, _⟩ | ⟨h, _⟩ | ⟨h, _⟩
  · exact Or.inr (Or.inl h)
  · exact Or.inr (Or.inr h)
  · exact Or.inl h
set_option maxRecDepth 100000 in
set_option maxHeartbeats 2000000 in
theorem refSet_arg (w : World) (s : ByteArray) (most : Int) (h : most < 0 ∨ 4294967295 < most) :
    Calls Tryd.prog 6 #[.string s, .int .i64 most] w (SetBad w (refE s most)) := by
  have e : refE s most = (0, 2) := by unfold refE; rw [if_pos h]
  rw [e]
  have h2 : most < 0 ∨ (¬ most < 0 ∧ 4294967295 < most) := by omega
  clear h e
  rcases h2 with h | ⟨h1, h⟩
  all_goals
    go_enter Tryd.func6, Tryd.ntmps6
    go_wp2
    exact bodyPost_ret (v := .tuple #[.slice none 0 0, .int .i64 0, .int .i64 2]) (by simp [results, Tryd.results6, go_sem]) rfl ⟨rfl, Below.refl _ _⟩
set_option maxRecDepth 100000 in
set_option maxHeartbeats 4000000 in
theorem refSet_early (w : World) (s : ByteArray) (most : Int) (hT : Tabs w) (hs : s.size ≤ 4294967296) (h0 : ¬ (most < 0 ∨ 4294967295 < most)) (h : (partsF s (s.size + 1) 0 []).2.2 ≠ 0 ∨ 32 < (partsF s (s.size + 1) 0 []).1.length) :
    Calls Tryd.prog 6 #[.string s, .int .i64 most] w (SetBad w (refE s most)) := by
  have hm1 : ¬ most < 0 := by omega
  have hm2 : ¬ 4294967295 < most := by omega
  have HL := Lib.hid (letters_any s w hT (by omega))
  have HP := Lib.hid (fun W v (hv : Lts W v s) => parts_any W v s hv hs)
  have HE := Lib.hid (parts_err s most)
  have hre : refE s most = if (partsF s (s.size + 1) 0 []).2.2 ≠ 0 then (((partsF s (s.size + 1) 0 []).2.1 : Int), ((partsF s (s.size + 1) 0 []).2.2 : Int)) else (0, 6) := by
    unfold refE
    rw [if_neg h0]
    by_cases h1 : (partsF s (s.size + 1) 0 []).2.2 = 0
    · rw [if_neg (fun hn => hn h1), if_pos (by rcases h with h | h; exact absurd h1 h; exact h), if_neg (fun hn => hn h1)]
    · rw [if_pos h1, if_pos h1]
  rw [hre]
  clear h0 hre hT
  obtain ⟨P, hP⟩ : ∃ P, partsF s (s.size + 1) 0 [] = P := ⟨_, rfl⟩
  rw [hP] at h HP HE ⊢
  clear hP
  obtain ⟨L, j, e⟩ := P
  have HH : Hid (e ≠ 0 ∨ 32 < L.length) := Lib.hid h
  clear h
  go_enter Tryd.func6, Tryd.ntmps6
  go_wp2_with fail
  all_goals
    refine HL.out.mono ?_
    rintro e1 w1 ⟨v1, rfl, ho, b1⟩
    have HP1 := Lib.hid (HP.out w1 v1 (Lts.of ho))
    have B1 := Lib.hid b1
    clear HL HP ho b1
    go_wp2_with fail
    refine HP1.out.mono ?_
    rintro e2 w2 ⟨v2, rfl, b2, h2, h3⟩
    have B2 := Lib.hid (B1.out.trans (b2.mono B1.out.size))
    simp only at h2 h3
    clear b2 HP1 B1
    rcases HE.out with h | h | h
    · have h : e = 0 := h
      subst h
      rw [show ((0 : Nat) : Int) = 0 from rfl]
      have hlen : 32 < L.length := by
        rcases HH.out with h | h
        · exact absurd rfl h
        · exact h
      obtain ⟨va, vc, hv2, _⟩ := owns_shape (h2 rfl)
      subst hv2
      have hlen2 : (32 : Int) < (L.length : Int) := by omega
      clear h2 h3 HE HH
      go_wp2
      all_goals exact bodyPost_ret (v := .tuple #[.slice none 0 0, .int .i64 0, .int .i64 6]) (by simp [results, Tryd.results6, go_sem]) rfl (show SetBad w _ _ _ from ⟨rfl, B2.out⟩)
    · have h : e = 3 := h
      subst h
      have h30 : ¬ (3 : Int) = 0 := by decide
      rw [show ((3 : Nat) : Int) = 3 from rfl]
      clear h2 h3 HE HH
      go_wp2
      all_goals exact bodyPost_ret (v := .tuple #[.slice none 0 0, .int .i64 (j : Int), .int .i64 3]) (by simp [results, Tryd.results6, go_sem]) rfl (show SetBad w _ _ _ from ⟨rfl, B2.out⟩)
    · have h : e = 4 := h
      subst h
      have h40 : ¬ (4 : Int) = 0 := by decide
      rw [show ((4 : Nat) : Int) = 4 from rfl]
      clear h2 h3 HE HH
      go_wp2
      all_goals exact bodyPost_ret (v := .tuple #[.slice none 0 0, .int .i64 (j : Int), .int .i64 4]) (by simp [results, Tryd.results6, go_sem]) rfl (show SetBad w _ _ _ from ⟨rfl, B2.out⟩)
/-- The merging loop, step by step. -/
theorem absorb_on {q : Rg} {t : List Rg} {p : Rg} (h : q.2 + 1 < p.1 ∨ p.2 + 1 < q.1) : absorb (q :: t) p = (q :: (absorb t p).1, (absorb t p).2) := by
  rw [absorb, if_pos h]
theorem absorb_in {q : Rg} {t : List Rg} {p : Rg} (h : ¬ (q.2 + 1 < p.1 ∨ p.2 + 1 < q.1)) : absorb (q :: t) p = absorb t (min p.1 q.1, max p.2 q.2) := by
  rw [absorb, if_neg h]
end Go.Proofs.YtpmakbjchepkmaaDoor
