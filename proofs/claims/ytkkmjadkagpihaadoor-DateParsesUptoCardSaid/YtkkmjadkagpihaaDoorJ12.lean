/- Date: the document's Digits, hms, zone, and its names. -/
import Derived.Test.YtkkmjadkagpihaaDoorJ10
import Derived.Test.YtkkmjadkagpihaaDoorHS
namespace Go.Proofs.YtkkmjadkagpihaaDoor
open Go Go.RowKit

theorem dgB_nat (d : Nat) : ((dgB d).toNat : Int) = 48 + ((d : Int) % 10) := by
  unfold dgB
  rw [UInt8.toNat_ofNat']
  have : (48 + d % 10) % 2 ^ 8 = 48 + d % 10 := Nat.mod_eq_of_lt (by omega)
  rw [this]; omega

theorem refDigits (v n : Nat) (L : List UInt8) (hL : dgs n v = L) (w : World) (hv : v ≤ 1000000) (hn : n ≤ 18) :
    Calls Tryd.prog 61 #[.int .i64 (v : Int), .int .i64 (n : Int)] w fun e w' => e = .returned (.string ⟨L.toArray⟩) ∧ Below w.heap.size w w' := by
  go_enter Tryd.func61, Tryd.ntmps61
  go_wp2
  go_loopw [0, 5, 6] (fun x out i wr => ∃ k : Nat, k ≤ n ∧ i = .int .i64 k ∧ x = .int .i64 ((v / 10 ^ k : Nat) : Int) ∧ out = .string ⟨(dgs k v).toArray⟩ ∧ Below w.heap.size w wr) (fun _ _ i _ => n - (intOf i).toNat)
  case atStart => exact ⟨0, Nat.zero_le _, rfl, by simp, rfl, Below.refl _ _⟩
  case round =>
    obtain ⟨k, hk, rfl, rfl, rfl, hb⟩ := hrel
    have hl : (dgs k v).length = k := dgs_len k v
    have hz := hb.size
    by_cases hlt : k < n
    · have hc := dgs_cons k v
      have hd10 : v / 10 ^ (k + 1) = v / 10 ^ k / 10 := by rw [Nat.pow_succ, Nat.div_div_eq_div_mul]
      have hbd : v / 10 ^ k ≤ 1000000 := Nat.le_trans (Nat.div_le_self _ _) hv
      have HC := Lib.hid hc
      have HD := Lib.hid hd10
      clear hc hd10
      generalize v / 10 ^ k = u at *
      have hcv := run_one_byte (P := Tryd.prog) wr 81 9 5 Tryd.underlying81 Tryd.underlying5 Tryd.underlying9 (dgB u) (48 + (u : Int) % 10) (dgB_nat u).symm
      obtain ⟨Z, hZ⟩ : ∃ Z, dgB u :: dgs k v = Z := ⟨_, rfl⟩
      have hadd := add_to [dgB u] (dgs k v) Z hZ.symm (by rw [← hZ]; simp; omega)
      have HZ := Lib.hid hZ
      clear hZ
      go_wp2
      go_roundw
      case rel => exact ⟨k + 1, by omega, by go_num, by rw [HD.out]; go_num, by rw [HC.out, HZ.out], hb.alloc hz _⟩
      case measure => simp [intOf]; omega
    · obtain rfl : k = n := by omega
      go_wp2
      go_ret
      exact ⟨ret_str hL, hb⟩

theorem refDigits_of (x : Int) (n size : Nat) (hx : x = (n : Int)) (L : List UInt8) (hL : dgs size n = L) (w : World) (hn : n ≤ 1000000) (h2 : size ≤ 18) (y : Int) (hy : y = (size : Int)) :
    Calls Tryd.prog 61 #[.int .i64 x, .int .i64 y] w fun e w' => e = .returned (.string ⟨L.toArray⟩) ∧ Below w.heap.size w w' := by
  subst hx; subst hy
  exact refDigits n size L hL w hn h2

/-- The time of a day; a zone. -/
def hmsL (o : Nat) : List UInt8 := ((dgs 2 (o / 3600) ++ [58]) ++ dgs 2 (o / 60 % 60)) ++ [58] ++ dgs 2 (o % 60)
def zonL (neg : Bool) (z : Nat) : List UInt8 := ((if neg then [45] else [43]) ++ dgs 2 (z / 60)) ++ dgs 2 (z % 60)
theorem hmsL_len (o : Nat) : (hmsL o).length = 8 := by simp [hmsL, dgs_len]
theorem zonL_len (neg : Bool) (z : Nat) : (zonL neg z).length = 5 := by cases neg <;> simp [zonL, dgs_len]

theorem refHms (o : Nat) (w : World) (ho : o < 86400) (Z : List UInt8) (hZ : hmsL o = Z) :
    Calls Tryd.prog 62 #[.int .i64 (o : Int)] w fun e w' => e = .returned (.string ⟨Z.toArray⟩) ∧ Below w.heap.size w w' := by
  obtain ⟨A1, a1⟩ : ∃ A, dgs 2 (o / 3600) = A := ⟨_, rfl⟩
  obtain ⟨A2, a2⟩ : ∃ A, dgs 2 (o / 60 % 60) = A := ⟨_, rfl⟩
  obtain ⟨A3, a3⟩ : ∃ A, dgs 2 (o % 60) = A := ⟨_, rfl⟩
  have l1 : A1.length = 2 := by rw [← a1, dgs_len]
  have l2 : A2.length = 2 := by rw [← a2, dgs_len]
  have l3 : A3.length = 2 := by rw [← a3, dgs_len]
  obtain ⟨X1, h1⟩ : ∃ X, X = A1 ++ [58] := ⟨_, rfl⟩
  obtain ⟨X2, h2⟩ : ∃ X, X = X1 ++ A2 := ⟨_, rfl⟩
  obtain ⟨X3, h3⟩ : ∃ X, X = X2 ++ [58] := ⟨_, rfl⟩
  have hZ' : Z = X3 ++ A3 := by rw [← hZ, hmsL, a1, a2, a3, h3, h2, h1]
  have m1 : X1.length = 3 := by rw [h1]; simp [l1]
  have m2 : X2.length = 5 := by rw [h2]; simp [m1, l2]
  have m3 : X3.length = 6 := by rw [h3]; simp [m2]
  have m4 : Z.length = 8 := by rw [hZ']; simp [m3, l3]
  have x1 := add_to A1 [58] X1 h1 (by omega)
  have x2 := add_to X1 A2 X2 h2 (by omega)
  have x3 := add_to X2 [58] X3 h3 (by omega)
  have x4 := add_to X3 A3 Z hZ' (by omega)
  have H1 := Lib.hid a1
  have H2 := Lib.hid a2
  have H3 := Lib.hid a3
  clear h1 h2 h3 hZ hZ' l1 l2 l3 m1 m2 m3 m4 a1 a2 a3
  go_enter Tryd.func62, Tryd.ntmps62
  go_wp2_with fail
  refine (refDigits_of _ (o / 3600) 2 (by omega) A1 H1.out _ (by omega) (by omega) _ rfl).mono ?_
  rintro e w1 ⟨rfl, hb1⟩
  go_wp2_with fail
  refine (refDigits_of _ (o / 60 % 60) 2 (by omega) A2 H2.out _ (by omega) (by omega) _ rfl).mono ?_
  rintro e w2 ⟨rfl, hb2⟩
  go_wp2_with fail
  refine (refDigits_of _ (o % 60) 2 (by omega) A3 H3.out _ (by omega) (by omega) _ rfl).mono ?_
  rintro e w3 ⟨rfl, hb3⟩
  go_wp2
  go_ret
  have b12 := hb1.trans (hb2.mono hb1.size)
  exact ⟨rfl, b12.trans (hb3.mono b12.size)⟩

theorem refZone (zone : Int) (w : World) (hz1 : -1439 ≤ zone) (hz2 : zone ≤ 1439) (Z : List UInt8) (hZ : zonL (decide (zone < 0)) zone.natAbs = Z) :
    Calls Tryd.prog 63 #[.int .i64 zone] w fun e w' => e = .returned (.string ⟨Z.toArray⟩) ∧ Below w.heap.size w w' := by
  by_cases hz : zone < 0
  · rw [show decide (zone < 0) = true by simpa using hz] at hZ
    obtain ⟨k, rfl⟩ : ∃ k : Nat, zone = -(k : Int) := ⟨zone.natAbs, by omega⟩
    rw [Int.natAbs_neg, Int.natAbs_natCast] at hZ
    obtain ⟨A1, a1⟩ : ∃ A, dgs 2 (k / 60) = A := ⟨_, rfl⟩
    obtain ⟨A2, a2⟩ : ∃ A, dgs 2 (k % 60) = A := ⟨_, rfl⟩
    have l1 : A1.length = 2 := by rw [← a1, dgs_len]
    have l2 : A2.length = 2 := by rw [← a2, dgs_len]
    obtain ⟨X1, h1⟩ : ∃ X, X = [45] ++ A1 := ⟨_, rfl⟩
    have hZ' : Z = X1 ++ A2 := by rw [← hZ, zonL, a1, a2, h1, if_pos rfl]
    have m1 : X1.length = 3 := by rw [h1]; simp [l1]
    have m2 : Z.length = 5 := by rw [hZ']; simp [m1, l2]
    have x1 := add_to [45] A1 X1 h1 (by omega)
    have x2 := add_to X1 A2 Z hZ' (by omega)
    have H1 := Lib.hid a1
    have H2 := Lib.hid a2
    clear h1 hZ hZ' l1 l2 m1 m2 a1 a2
    go_enter Tryd.func63, Tryd.ntmps63
    go_wp2_with fail
    refine (refDigits_of _ (k / 60) 2 (by omega) A1 H1.out _ (by omega) (by omega) _ rfl).mono ?_
    rintro e w1 ⟨rfl, hb1⟩
    go_wp2_with fail
    refine (refDigits_of _ (k % 60) 2 (by omega) A2 H2.out _ (by omega) (by omega) _ rfl).mono ?_
    rintro e w2 ⟨rfl, hb2⟩
    go_wp2
    go_ret
    exact ⟨rfl, hb1.trans (hb2.mono hb1.size)⟩
  · rw [show decide (zone < 0) = false by simpa using hz] at hZ
    obtain ⟨k, rfl⟩ : ∃ k : Nat, zone = (k : Int) := ⟨zone.natAbs, by omega⟩
    rw [Int.natAbs_natCast] at hZ
    obtain ⟨A1, a1⟩ : ∃ A, dgs 2 (k / 60) = A := ⟨_, rfl⟩
    obtain ⟨A2, a2⟩ : ∃ A, dgs 2 (k % 60) = A := ⟨_, rfl⟩
    have l1 : A1.length = 2 := by rw [← a1, dgs_len]
    have l2 : A2.length = 2 := by rw [← a2, dgs_len]
    obtain ⟨X1, h1⟩ : ∃ X, X = [43] ++ A1 := ⟨_, rfl⟩
    have hZ' : Z = X1 ++ A2 := by rw [← hZ, zonL, a1, a2, h1, if_neg (by decide)]
    have m1 : X1.length = 3 := by rw [h1]; simp [l1]
    have m2 : Z.length = 5 := by rw [hZ']; simp [m1, l2]
    have x1 := add_to [43] A1 X1 h1 (by omega)
    have x2 := add_to X1 A2 Z hZ' (by omega)
    have H1 := Lib.hid a1
    have H2 := Lib.hid a2
    clear h1 hZ hZ' l1 l2 m1 m2 a1 a2
    go_enter Tryd.func63, Tryd.ntmps63
    go_wp2_with fail
    refine (refDigits_of _ (k / 60) 2 (by omega) A1 H1.out _ (by omega) (by omega) _ rfl).mono ?_
    rintro e w1 ⟨rfl, hb1⟩
    go_wp2_with fail
    refine (refDigits_of _ (k % 60) 2 (by omega) A2 H2.out _ (by omega) (by omega) _ rfl).mono ?_
    rintro e w2 ⟨rfl, hb2⟩
    go_wp2
    go_ret
    exact ⟨rfl, hb1.trans (hb2.mono hb1.size)⟩

/-- A list of names in a block. -/
def Names (l : List UInt8) (n g : Nat) (w : World) : Prop := g < w.heap.size ∧ ∀ k, k < n → w.cell? ⟨g, k, none⟩ = some (.string ⟨(nthL l k).toArray⟩)
theorem Names.below {l : List UInt8} {n g : Nat} {w w' : World} (h : Names l n g w) (hb : Below w.heap.size w w') : Names l n g w' := ⟨Nat.lt_of_lt_of_le h.1 hb.size, fun k hk => (hb.cell h.1).trans (h.2 k hk)⟩
theorem refWeeks (w : World) :
    Calls Tryd.prog 48 #[] w fun e w' => e = .returned (.slice (some ⟨w.heap.size, 0, none⟩) 7 7) ∧ Below w.heap.size w w' ∧ Names weeksL 7 w.heap.size w' := by
  go_enter Tryd.func48, Tryd.ntmps48
  go_wp2
  go_ret
  refine ⟨rfl, bal (Below.refl _ _) _, by simp, fun k hk => (World.cell?_alloc_mark _ _ _ _ _).trans ?_⟩
  have : k = 0 ∨ k = 1 ∨ k = 2 ∨ k = 3 ∨ k = 4 ∨ k = 5 ∨ k = 6 := by omega
  rcases this with rfl | rfl | rfl | rfl | rfl | rfl | rfl <;> rfl
theorem refMonths (w : World) :
    Calls Tryd.prog 50 #[] w fun e w' => e = .returned (.slice (some ⟨w.heap.size, 0, none⟩) 12 12) ∧ Below w.heap.size w w' ∧ Names monthsL 12 w.heap.size w' := by
  go_enter Tryd.func50, Tryd.ntmps50
  go_wp2
  go_ret
  refine ⟨rfl, bal (Below.refl _ _) _, by simp, fun k hk => (World.cell?_alloc_mark _ _ _ _ _).trans ?_⟩
  have : k = 0 ∨ k = 1 ∨ k = 2 ∨ k = 3 ∨ k = 4 ∨ k = 5 ∨ k = 6 ∨ k = 7 ∨ k = 8 ∨ k = 9 ∨ k = 10 ∨ k = 11 := by omega
  rcases this with rfl | rfl | rfl | rfl | rfl | rfl | rfl | rfl | rfl | rfl | rfl | rfl <;> rfl
end Go.Proofs.YtkkmjadkagpihaaDoor
