/- Box: the code's Set and the document's tell the same: plain facts. -/
import Derived.Test.YtpmakbjchepkmaaDoorCU
import Derived.Test.YtpmakbjchepkmaaDoorCM
namespace Go.Proofs.YtpmakbjchepkmaaDoor
open Go Go.RowKit

/-- What the document's Set tells: its place and error. -/
def refE (s : ByteArray) (most : Int) : Int × Int :=
  if most < 0 ∨ 4294967295 < most then (0, 2)
  else if (partsF s (s.size + 1) 0 []).2.2 ≠ 0 then (((partsF s (s.size + 1) 0 []).2.1 : Int), ((partsF s (s.size + 1) 0 []).2.2 : Int))
  else if 32 < (partsF s (s.size + 1) 0 []).1.length then (0, 6)
  else if (partsF s (s.size + 1) 0 []).1.any negP = true ∧ most = 0 then (0, 2) else (0, 0)
theorem set_same (s : ByteArray) (most : Int) : setE s most = refE s most ∧ ((partsF s (s.size + 1) 0 []).2.2 = 0 → setP s most = (partsF s (s.size + 1) 0 []).1.map (mapP most)) := by
  have h := parts_run (s := s) (most := most) (s.size + 1) 0 [] (Rd.new most) (by omega) (Nat.zero_le _) rfl rfl rfl rfl rfl
  unfold setE refE setP
  rw [Nat.sub_zero] at h
  obtain ⟨R, hR⟩ : ∃ R, rdRun s s.size 0 (Rd.new most) = R := ⟨_, rfl⟩
  obtain ⟨P, hP⟩ : ∃ P, partsF s (s.size + 1) 0 [] = P := ⟨_, rfl⟩
  rw [hR, hP] at h
  rw [hR, hP]
  obtain ⟨r, o⟩ := R
  obtain ⟨L, j, e⟩ := P
  rcases h with ⟨h1, h2, h3, h4⟩ | ⟨h1, h2⟩ | ⟨h1, h2, h3, h4, h5, h6⟩
  · simp only at h1 h2 h3 h4
    subst h1 h2 h3
    refine ⟨?_, (fun h => by cases h)⟩
    split
    · rfl
    · rw [setEnd, if_pos h4]
      rfl
  · simp only at h1 h2
    subst h1 h2
    refine ⟨?_, (fun h => by cases h)⟩
    split
    · rfl
    · rfl
  · simp only at h1 h2 h3 h4 h5 h6
    subst h1 h2 h3
    refine ⟨?_, fun _ => h5⟩
    split
    · rfl
    · rw [setEnd, if_neg h4, h5, h6, List.length_map]
      simp only [ne_eq, not_true_eq_false, if_false]
/-- What they tell, where there is no fault. -/
theorem set_ranges (s : ByteArray) (most : Int) (h0 : (partsF s (s.size + 1) 0 []).2.2 = 0) {x : Rg} {t : List Rg} (hp : (x :: t).Perm (setP s most)) (hs : (x :: t).Pairwise (fun x y => x.1 ≤ y.1)) :
    joinGo [] x.1 x.2 t = ((partsF s (s.size + 1) 0 []).1.map (mapP most)).foldl mergeR [] := by
  have e := (set_same s most).2 h0
  rw [e] at hp
  refine join_merge _ x t hp hs (fun p hp => ?_)
  obtain ⟨q, _, rfl⟩ := List.mem_map.1 hp
  show min _ _ ≤ max _ _
  omega
end Go.Proofs.YtpmakbjchepkmaaDoor
