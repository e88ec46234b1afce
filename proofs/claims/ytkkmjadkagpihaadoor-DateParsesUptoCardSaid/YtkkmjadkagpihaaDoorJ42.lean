/- Date: the document's patterns. -/
import Derived.Test.YtkkmjadkagpihaaDoorJ37
import Derived.Test.YtkkmjadkagpihaaDoorJP2
namespace Go.Proofs.YtkkmjadkagpihaaDoor
open Go Go.RowKit

/-- The n-th pattern of Parse. -/
def patS (n : Nat) : List UInt8 := patQ (n / 16 % 2) (n / 8 % 2) (n / 4 % 2) (n % 4)
def patB (n : Nat) : ByteArray := ⟨(patS n).toArray⟩
def patsL (n : Nat) : List Value := (List.range n).map fun k => .string (patB k)
theorem patsL_len (n : Nat) : (patsL n).length = n := by simp [patsL]
theorem patsL_snoc (n : Nat) : patsL (n + 1) = patsL n ++ [.string (patB n)] := by simp [patsL, List.range_succ]

theorem cell_two_new (w : World) (o : Obj) (x : Value) (t : TypeId) : ∀ j u, [x][j]? = some u → ((w.alloc o).alloc (.cells #[x] t)).cell? ((⟨w.heap.size + 1, 0, none⟩ : Addr).add j) = some u := by
  have h := cell_one_new (w.alloc o) x t
  rwa [World.size_alloc] at h
theorem own_re {w : World} {B n m : Nat} {v : Value} (h : n = m) (k : w.ownsRow B 9 1 v n (patsL n)) : w.ownsRow B 9 1 v m (patsL m) := h ▸ k
set_option maxHeartbeats 4000000 in
set_option maxRecDepth 100000 in
theorem patterns_any (w : World) :
    Calls Tryd.prog 44 #[] w fun e w' => ∃ v, e = .returned v ∧ w'.ownsRow w.heap.size 9 1 v 32 (patsL 32) ∧ Below w.heap.size w w' := by
  obtain ⟨i0, hi, hz0, hz1, hz2⟩ := info_parts info9
  go_enter Tryd.func44, Tryd.ntmps44
  go_wp2
  go_loopw [1, 2, 3, 4, 5, 6] (fun v ii _ _ _ _ wr => ∃ i : Nat, i ≤ 2 ∧ ii = .int .i64 (i : Int) ∧ wr.ownsRow w.heap.size 9 1 v (16 * i) (patsL (16 * i)) ∧ Below w.heap.size w wr) (fun _ ii _ _ _ _ _ => 2 - (intOf ii).toNat)
  case atStart => exact ⟨0, by omega, rfl, World.ownsRow_lit (size := 1) w #[] 0 (Nat.le_refl _) (by decide) rfl, (Below.refl _ w).alloc (Nat.le_refl _) _⟩
  case round =>
    obtain ⟨i, hi2, rfl, hown, hb⟩ := hrel
    by_cases hil : i < 2
    · go_wp2
      go_loopw [1, 3, 4, 5, 6] (fun v jj _ _ _ wr2 => ∃ j : Nat, j ≤ 2 ∧ jj = .int .i64 (j : Int) ∧ wr2.ownsRow w.heap.size 9 1 v (16 * i + 8 * j) (patsL (16 * i + 8 * j)) ∧ Below w.heap.size w wr2) (fun _ jj _ _ _ _ => 2 - (intOf jj).toNat)
      case atStart => exact ⟨0, by omega, rfl, hown, hb⟩
      case round =>
        obtain ⟨j, hj2, rfl, hown2, hb2⟩ := hrel
        by_cases hjl : j < 2
        · clear hown hb
          go_wp2
          go_loopw [1, 4, 5, 6] (fun v kk _ _ wr3 => ∃ k : Nat, k ≤ 2 ∧ kk = .int .i64 (k : Int) ∧ wr3.ownsRow w.heap.size 9 1 v (16 * i + 8 * j + 4 * k) (patsL (16 * i + 8 * j + 4 * k)) ∧ Below w.heap.size w wr3) (fun _ kk _ _ _ => 2 - (intOf kk).toNat)
          case atStart => exact ⟨0, by omega, rfl, hown2, hb2⟩
          case round =>
            obtain ⟨k, hk2, rfl, hown3, hb3⟩ := hrel
            by_cases hkl : k < 2
            · clear hown2 hb2
              go_wp2
              go_loopw [1, 5, 6] (fun v mm _ wr4 => ∃ m : Nat, m ≤ 4 ∧ mm = .int .i64 (m : Int) ∧ wr4.ownsRow w.heap.size 9 1 v (16 * i + 8 * j + 4 * k + m) (patsL (16 * i + 8 * j + 4 * k + m)) ∧ Below w.heap.size w wr4) (fun _ mm _ _ => 4 - (intOf mm).toNat)
              case atStart => exact ⟨0, by omega, rfl, hown3, hb3⟩
              case round =>
                obtain ⟨m, hm4, rfl, hown4, hb4⟩ := hrel
                by_cases hml : m < 4
                · clear hown3 hb3
                  have hlen := patsL_len (16 * i + 8 * j + 4 * k + m)
                  have hz4 := hb4.size
                  have hsn := Lib.hid (patsL_snoc (16 * i + 8 * j + 4 * k + m))
                  rcases (show i = 0 ∨ i = 1 by omega) with rfl | rfl <;> rcases (show j = 0 ∨ j = 1 by omega) with rfl | rfl <;> rcases (show k = 0 ∨ k = 1 by omega) with rfl | rfl <;> rcases (show m = 0 ∨ m = 1 ∨ m = 2 ∨ m = 3 by omega) with rfl | rfl | rfl | rfl
                  case inl.inl.inl.inl =>
                    go_wp2_with (at_builtin; refine wpList_append_own _ rfl _ _ 56 rfl w.heap.size 9 i0 (.string ⟨#[]⟩) 1 16 Tryd.underlying56 hi hz0 hz1 hz2 rfl (by decide) _ _ _ rfl ((hown4.alloc _).alloc _) ⟨wr.heap.size + 1, 0, none⟩ 1 1 [.string (patB 0)] rfl rfl ?c1 ?c2 ?c3 ?c4 ?c5 ?_)
                    case c1 =>
                      intro j u hj
                      refine cell_two_new _ _ _ _ j u ?_
                      rw [← hj]
                      exact congrArg (fun x : ByteArray => ([Value.string x][j]? : Option Value)) (by decide +kernel)
                    case c2 => intro u hu; simp at hu; subst hu; rfl
                    case c3 => unfold maxLen; omega
                    case c4 => omega
                    case c5 => simp; omega
                    intro v' w2 hown5 hgrow _
                    have hb5 := below_grown (bal (bal hb4 _) _) ((hown4.alloc _).alloc _) (by simp; omega) hgrow
                    have HO := Lib.hid hown5
                    clear hown4 hown5 hgrow hb4
                    go_wp2
                    go_roundw
                    case rel => exact ⟨_, _, _, _, _, _, _, _, _, _, _, _, _, _, _, _, _, _, _, _, _, _, _, _, _, _, _, _, _, _, _, ⟨1, by omega, rfl, by have := HO.out; rw [← hsn.out] at this; exact this, hb5⟩, rfl⟩
                    case measure => simp [intOf]
                  case inl.inl.inl.inr.inl =>
                    go_wp2_with (at_builtin; refine wpList_append_own _ rfl _ _ 56 rfl w.heap.size 9 i0 (.string ⟨#[]⟩) 1 16 Tryd.underlying56 hi hz0 hz1 hz2 rfl (by decide) _ _ _ rfl ((hown4.alloc _).alloc _) ⟨wr.heap.size + 1, 0, none⟩ 1 1 [.string (patB 1)] rfl rfl ?c1 ?c2 ?c3 ?c4 ?c5 ?_)
                    case c1 =>
                      intro j u hj
                      refine cell_two_new _ _ _ _ j u ?_
                      rw [← hj]
                      exact congrArg (fun x : ByteArray => ([Value.string x][j]? : Option Value)) (by decide +kernel)
                    case c2 => intro u hu; simp at hu; subst hu; rfl
                    case c3 => unfold maxLen; omega
                    case c4 => omega
                    case c5 => simp; omega
                    intro v' w2 hown5 hgrow _
                    have hb5 := below_grown (bal (bal hb4 _) _) ((hown4.alloc _).alloc _) (by simp; omega) hgrow
                    have HO := Lib.hid hown5
                    clear hown4 hown5 hgrow hb4
                    go_wp2
                    go_roundw
                    case rel => exact ⟨_, _, _, _, _, _, _, _, _, _, _, _, _, _, _, _, _, _, _, _, _, _, _, _, _, _, _, _, _, _, _, ⟨2, by omega, rfl, by have := HO.out; rw [← hsn.out] at this; exact this, hb5⟩, rfl⟩
                    case measure => simp [intOf]
                  case inl.inl.inl.inr.inr.inl =>
                    go_wp2_with (at_builtin; refine wpList_append_own _ rfl _ _ 56 rfl w.heap.size 9 i0 (.string ⟨#[]⟩) 1 16 Tryd.underlying56 hi hz0 hz1 hz2 rfl (by decide) _ _ _ rfl ((hown4.alloc _).alloc _) ⟨wr.heap.size + 1, 0, none⟩ 1 1 [.string (patB 2)] rfl rfl ?c1 ?c2 ?c3 ?c4 ?c5 ?_)
                    case c1 =>
                      intro j u hj
                      refine cell_two_new _ _ _ _ j u ?_
                      rw [← hj]
                      exact congrArg (fun x : ByteArray => ([Value.string x][j]? : Option Value)) (by decide +kernel)
                    case c2 => intro u hu; simp at hu; subst hu; rfl
                    case c3 => unfold maxLen; omega
                    case c4 => omega
                    case c5 => simp; omega
                    intro v' w2 hown5 hgrow _
                    have hb5 := below_grown (bal (bal hb4 _) _) ((hown4.alloc _).alloc _) (by simp; omega) hgrow
                    have HO := Lib.hid hown5
                    clear hown4 hown5 hgrow hb4
                    go_wp2
                    go_roundw
                    case rel => exact ⟨_, _, _, _, _, _, _, _, _, _, _, _, _, _, _, _, _, _, _, _, _, _, _, _, _, _, _, _, _, _, _, ⟨3, by omega, rfl, by have := HO.out; rw [← hsn.out] at this; exact this, hb5⟩, rfl⟩
                    case measure => simp [intOf]
                  case inl.inl.inl.inr.inr.inr =>
                    go_wp2_with (at_builtin; refine wpList_append_own _ rfl _ _ 56 rfl w.heap.size 9 i0 (.string ⟨#[]⟩) 1 16 Tryd.underlying56 hi hz0 hz1 hz2 rfl (by decide) _ _ _ rfl ((hown4.alloc _).alloc _) ⟨wr.heap.size + 1, 0, none⟩ 1 1 [.string (patB 3)] rfl rfl ?c1 ?c2 ?c3 ?c4 ?c5 ?_)
                    case c1 =>
                      intro j u hj
                      refine cell_two_new _ _ _ _ j u ?_
                      rw [← hj]
                      exact congrArg (fun x : ByteArray => ([Value.string x][j]? : Option Value)) (by decide +kernel)
                    case c2 => intro u hu; simp at hu; subst hu; rfl
                    case c3 => unfold maxLen; omega
                    case c4 => omega
                    case c5 => simp; omega
                    intro v' w2 hown5 hgrow _
                    have hb5 := below_grown (bal (bal hb4 _) _) ((hown4.alloc _).alloc _) (by simp; omega) hgrow
                    have HO := Lib.hid hown5
                    clear hown4 hown5 hgrow hb4
                    go_wp2
                    go_roundw
                    case rel => exact ⟨_, _, _, _, _, _, _, _, _, _, _, _, _, _, _, _, _, _, _, _, _, _, _, _, _, _, _, _, _, _, _, ⟨4, by omega, rfl, by have := HO.out; rw [← hsn.out] at this; exact this, hb5⟩, rfl⟩
                    case measure => simp [intOf]
                  case inl.inl.inr.inl =>
                    go_wp2_with (at_builtin; refine wpList_append_own _ rfl _ _ 56 rfl w.heap.size 9 i0 (.string ⟨#[]⟩) 1 16 Tryd.underlying56 hi hz0 hz1 hz2 rfl (by decide) _ _ _ rfl ((hown4.alloc _).alloc _) ⟨wr.heap.size + 1, 0, none⟩ 1 1 [.string (patB 4)] rfl rfl ?c1 ?c2 ?c3 ?c4 ?c5 ?_)
                    case c1 =>
                      intro j u hj
                      refine cell_two_new _ _ _ _ j u ?_
                      rw [← hj]
                      exact congrArg (fun x : ByteArray => ([Value.string x][j]? : Option Value)) (by decide +kernel)
                    case c2 => intro u hu; simp at hu; subst hu; rfl
                    case c3 => unfold maxLen; omega
                    case c4 => omega
                    case c5 => simp; omega
                    intro v' w2 hown5 hgrow _
                    have hb5 := below_grown (bal (bal hb4 _) _) ((hown4.alloc _).alloc _) (by simp; omega) hgrow
                    have HO := Lib.hid hown5
                    clear hown4 hown5 hgrow hb4
                    go_wp2
                    go_roundw
                    case rel => exact ⟨_, _, _, _, _, _, _, _, _, _, _, _, _, _, _, _, _, _, _, _, _, _, _, _, _, _, _, _, _, _, _, ⟨1, by omega, rfl, by have := HO.out; rw [← hsn.out] at this; exact this, hb5⟩, rfl⟩
                    case measure => simp [intOf]
                  case inl.inl.inr.inr.inl =>
                    go_wp2_with (at_builtin; refine wpList_append_own _ rfl _ _ 56 rfl w.heap.size 9 i0 (.string ⟨#[]⟩) 1 16 Tryd.underlying56 hi hz0 hz1 hz2 rfl (by decide) _ _ _ rfl ((hown4.alloc _).alloc _) ⟨wr.heap.size + 1, 0, none⟩ 1 1 [.string (patB 5)] rfl rfl ?c1 ?c2 ?c3 ?c4 ?c5 ?_)
                    case c1 =>
                      intro j u hj
                      refine cell_two_new _ _ _ _ j u ?_
                      rw [← hj]
                      exact congrArg (fun x : ByteArray => ([Value.string x][j]? : Option Value)) (by decide +kernel)
                    case c2 => intro u hu; simp at hu; subst hu; rfl
                    case c3 => unfold maxLen; omega
                    case c4 => omega
                    case c5 => simp; omega
                    intro v' w2 hown5 hgrow _
                    have hb5 := below_grown (bal (bal hb4 _) _) ((hown4.alloc _).alloc _) (by simp; omega) hgrow
                    have HO := Lib.hid hown5
                    clear hown4 hown5 hgrow hb4
                    go_wp2
                    go_roundw
                    case rel => exact ⟨_, _, _, _, _, _, _, _, _, _, _, _, _, _, _, _, _, _, _, _, _, _, _, _, _, _, _, _, _, _, _, ⟨2, by omega, rfl, by have := HO.out; rw [← hsn.out] at this; exact this, hb5⟩, rfl⟩
                    case measure => simp [intOf]
                  case inl.inl.inr.inr.inr.inl =>
                    go_wp2_with (at_builtin; refine wpList_append_own _ rfl _ _ 56 rfl w.heap.size 9 i0 (.string ⟨#[]⟩) 1 16 Tryd.underlying56 hi hz0 hz1 hz2 rfl (by decide) _ _ _ rfl ((hown4.alloc _).alloc _) ⟨wr.heap.size + 1, 0, none⟩ 1 1 [.string (patB 6)] rfl rfl ?c1 ?c2 ?c3 ?c4 ?c5 ?_)
                    case c1 =>
                      intro j u hj
                      refine cell_two_new _ _ _ _ j u ?_
                      rw [← hj]
                      exact congrArg (fun x : ByteArray => ([Value.string x][j]? : Option Value)) (by decide +kernel)
                    case c2 => intro u hu; simp at hu; subst hu; rfl
                    case c3 => unfold maxLen; omega
                    case c4 => omega
                    case c5 => simp; omega
                    intro v' w2 hown5 hgrow _
                    have hb5 := below_grown (bal (bal hb4 _) _) ((hown4.alloc _).alloc _) (by simp; omega) hgrow
                    have HO := Lib.hid hown5
                    clear hown4 hown5 hgrow hb4
                    go_wp2
                    go_roundw
                    case rel => exact ⟨_, _, _, _, _, _, _, _, _, _, _, _, _, _, _, _, _, _, _, _, _, _, _, _, _, _, _, _, _, _, _, ⟨3, by omega, rfl, by have := HO.out; rw [← hsn.out] at this; exact this, hb5⟩, rfl⟩
                    case measure => simp [intOf]
                  case inl.inl.inr.inr.inr.inr =>
                    go_wp2_with (at_builtin; refine wpList_append_own _ rfl _ _ 56 rfl w.heap.size 9 i0 (.string ⟨#[]⟩) 1 16 Tryd.underlying56 hi hz0 hz1 hz2 rfl (by decide) _ _ _ rfl ((hown4.alloc _).alloc _) ⟨wr.heap.size + 1, 0, none⟩ 1 1 [.string (patB 7)] rfl rfl ?c1 ?c2 ?c3 ?c4 ?c5 ?_)
                    case c1 =>
                      intro j u hj
                      refine cell_two_new _ _ _ _ j u ?_
                      rw [← hj]
                      exact congrArg (fun x : ByteArray => ([Value.string x][j]? : Option Value)) (by decide +kernel)
                    case c2 => intro u hu; simp at hu; subst hu; rfl
                    case c3 => unfold maxLen; omega
                    case c4 => omega
                    case c5 => simp; omega
                    intro v' w2 hown5 hgrow _
                    have hb5 := below_grown (bal (bal hb4 _) _) ((hown4.alloc _).alloc _) (by simp; omega) hgrow
                    have HO := Lib.hid hown5
                    clear hown4 hown5 hgrow hb4
                    go_wp2
                    go_roundw
                    case rel => exact ⟨_, _, _, _, _, _, _, _, _, _, _, _, _, _, _, _, _, _, _, _, _, _, _, _, _, _, _, _, _, _, _, ⟨4, by omega, rfl, by have := HO.out; rw [← hsn.out] at this; exact this, hb5⟩, rfl⟩
                    case measure => simp [intOf]
                  case inl.inr.inl.inl =>
                    go_wp2_with (at_builtin; refine wpList_append_own _ rfl _ _ 56 rfl w.heap.size 9 i0 (.string ⟨#[]⟩) 1 16 Tryd.underlying56 hi hz0 hz1 hz2 rfl (by decide) _ _ _ rfl ((hown4.alloc _).alloc _) ⟨wr.heap.size + 1, 0, none⟩ 1 1 [.string (patB 8)] rfl rfl ?c1 ?c2 ?c3 ?c4 ?c5 ?_)
                    case c1 =>
                      intro j u hj
                      refine cell_two_new _ _ _ _ j u ?_
                      rw [← hj]
                      exact congrArg (fun x : ByteArray => ([Value.string x][j]? : Option Value)) (by decide +kernel)
                    case c2 => intro u hu; simp at hu; subst hu; rfl
                    case c3 => unfold maxLen; omega
                    case c4 => omega
                    case c5 => simp; omega
                    intro v' w2 hown5 hgrow _
                    have hb5 := below_grown (bal (bal hb4 _) _) ((hown4.alloc _).alloc _) (by simp; omega) hgrow
                    have HO := Lib.hid hown5
                    clear hown4 hown5 hgrow hb4
                    go_wp2
                    go_roundw
                    case rel => exact ⟨_, _, _, _, _, _, _, _, _, _, _, _, _, _, _, _, _, _, _, _, _, _, _, _, _, _, _, _, _, _, _, ⟨1, by omega, rfl, by have := HO.out; rw [← hsn.out] at this; exact this, hb5⟩, rfl⟩
                    case measure => simp [intOf]
                  case inl.inr.inl.inr.inl =>
                    go_wp2_with (at_builtin; refine wpList_append_own _ rfl _ _ 56 rfl w.heap.size 9 i0 (.string ⟨#[]⟩) 1 16 Tryd.underlying56 hi hz0 hz1 hz2 rfl (by decide) _ _ _ rfl ((hown4.alloc _).alloc _) ⟨wr.heap.size + 1, 0, none⟩ 1 1 [.string (patB 9)] rfl rfl ?c1 ?c2 ?c3 ?c4 ?c5 ?_)
                    case c1 =>
                      intro j u hj
                      refine cell_two_new _ _ _ _ j u ?_
                      rw [← hj]
                      exact congrArg (fun x : ByteArray => ([Value.string x][j]? : Option Value)) (by decide +kernel)
                    case c2 => intro u hu; simp at hu; subst hu; rfl
                    case c3 => unfold maxLen; omega
                    case c4 => omega
                    case c5 => simp; omega
                    intro v' w2 hown5 hgrow _
                    have hb5 := below_grown (bal (bal hb4 _) _) ((hown4.alloc _).alloc _) (by simp; omega) hgrow
                    have HO := Lib.hid hown5
                    clear hown4 hown5 hgrow hb4
                    go_wp2
                    go_roundw
                    case rel => exact ⟨_, _, _, _, _, _, _, _, _, _, _, _, _, _, _, _, _, _, _, _, _, _, _, _, _, _, _, _, _, _, _, ⟨2, by omega, rfl, by have := HO.out; rw [← hsn.out] at this; exact this, hb5⟩, rfl⟩
                    case measure => simp [intOf]
                  case inl.inr.inl.inr.inr.inl =>
                    go_wp2_with (at_builtin; refine wpList_append_own _ rfl _ _ 56 rfl w.heap.size 9 i0 (.string ⟨#[]⟩) 1 16 Tryd.underlying56 hi hz0 hz1 hz2 rfl (by decide) _ _ _ rfl ((hown4.alloc _).alloc _) ⟨wr.heap.size + 1, 0, none⟩ 1 1 [.string (patB 10)] rfl rfl ?c1 ?c2 ?c3 ?c4 ?c5 ?_)
                    case c1 =>
                      intro j u hj
                      refine cell_two_new _ _ _ _ j u ?_
                      rw [← hj]
                      exact congrArg (fun x : ByteArray => ([Value.string x][j]? : Option Value)) (by decide +kernel)
                    case c2 => intro u hu; simp at hu; subst hu; rfl
                    case c3 => unfold maxLen; omega
                    case c4 => omega
                    case c5 => simp; omega
                    intro v' w2 hown5 hgrow _
                    have hb5 := below_grown (bal (bal hb4 _) _) ((hown4.alloc _).alloc _) (by simp; omega) hgrow
                    have HO := Lib.hid hown5
                    clear hown4 hown5 hgrow hb4
                    go_wp2
                    go_roundw
                    case rel => exact ⟨_, _, _, _, _, _, _, _, _, _, _, _, _, _, _, _, _, _, _, _, _, _, _, _, _, _, _, _, _, _, _, ⟨3, by omega, rfl, by have := HO.out; rw [← hsn.out] at this; exact this, hb5⟩, rfl⟩
                    case measure => simp [intOf]
                  case inl.inr.inl.inr.inr.inr =>
                    go_wp2_with (at_builtin; refine wpList_append_own _ rfl _ _ 56 rfl w.heap.size 9 i0 (.string ⟨#[]⟩) 1 16 Tryd.underlying56 hi hz0 hz1 hz2 rfl (by decide) _ _ _ rfl ((hown4.alloc _).alloc _) ⟨wr.heap.size + 1, 0, none⟩ 1 1 [.string (patB 11)] rfl rfl ?c1 ?c2 ?c3 ?c4 ?c5 ?_)
                    case c1 =>
                      intro j u hj
                      refine cell_two_new _ _ _ _ j u ?_
                      rw [← hj]
                      exact congrArg (fun x : ByteArray => ([Value.string x][j]? : Option Value)) (by decide +kernel)
                    case c2 => intro u hu; simp at hu; subst hu; rfl
                    case c3 => unfold maxLen; omega
                    case c4 => omega
                    case c5 => simp; omega
                    intro v' w2 hown5 hgrow _
                    have hb5 := below_grown (bal (bal hb4 _) _) ((hown4.alloc _).alloc _) (by simp; omega) hgrow
                    have HO := Lib.hid hown5
                    clear hown4 hown5 hgrow hb4
                    go_wp2
                    go_roundw
                    case rel => exact ⟨_, _, _, _, _, _, _, _, _, _, _, _, _, _, _, _, _, _, _, _, _, _, _, _, _, _, _, _, _, _, _, ⟨4, by omega, rfl, by have := HO.out; rw [← hsn.out] at this; exact this, hb5⟩, rfl⟩
                    case measure => simp [intOf]
                  case inl.inr.inr.inl =>
                    go_wp2_with (at_builtin; refine wpList_append_own _ rfl _ _ 56 rfl w.heap.size 9 i0 (.string ⟨#[]⟩) 1 16 Tryd.underlying56 hi hz0 hz1 hz2 rfl (by decide) _ _ _ rfl ((hown4.alloc _).alloc _) ⟨wr.heap.size + 1, 0, none⟩ 1 1 [.string (patB 12)] rfl rfl ?c1 ?c2 ?c3 ?c4 ?c5 ?_)
                    case c1 =>
                      intro j u hj
                      refine cell_two_new _ _ _ _ j u ?_
                      rw [← hj]
                      exact congrArg (fun x : ByteArray => ([Value.string x][j]? : Option Value)) (by decide +kernel)
                    case c2 => intro u hu; simp at hu; subst hu; rfl
                    case c3 => unfold maxLen; omega
                    case c4 => omega
                    case c5 => simp; omega
                    intro v' w2 hown5 hgrow _
                    have hb5 := below_grown (bal (bal hb4 _) _) ((hown4.alloc _).alloc _) (by simp; omega) hgrow
                    have HO := Lib.hid hown5
                    clear hown4 hown5 hgrow hb4
                    go_wp2
                    go_roundw
                    case rel => exact ⟨_, _, _, _, _, _, _, _, _, _, _, _, _, _, _, _, _, _, _, _, _, _, _, _, _, _, _, _, _, _, _, ⟨1, by omega, rfl, by have := HO.out; rw [← hsn.out] at this; exact this, hb5⟩, rfl⟩
                    case measure => simp [intOf]
                  case inl.inr.inr.inr.inl =>
                    go_wp2_with (at_builtin; refine wpList_append_own _ rfl _ _ 56 rfl w.heap.size 9 i0 (.string ⟨#[]⟩) 1 16 Tryd.underlying56 hi hz0 hz1 hz2 rfl (by decide) _ _ _ rfl ((hown4.alloc _).alloc _) ⟨wr.heap.size + 1, 0, none⟩ 1 1 [.string (patB 13)] rfl rfl ?c1 ?c2 ?c3 ?c4 ?c5 ?_)
                    case c1 =>
                      intro j u hj
                      refine cell_two_new _ _ _ _ j u ?_
                      rw [← hj]
                      exact congrArg (fun x : ByteArray => ([Value.string x][j]? : Option Value)) (by decide +kernel)
                    case c2 => intro u hu; simp at hu; subst hu; rfl
                    case c3 => unfold maxLen; omega
                    case c4 => omega
                    case c5 => simp; omega
                    intro v' w2 hown5 hgrow _
                    have hb5 := below_grown (bal (bal hb4 _) _) ((hown4.alloc _).alloc _) (by simp; omega) hgrow
                    have HO := Lib.hid hown5
                    clear hown4 hown5 hgrow hb4
                    go_wp2
                    go_roundw
                    case rel => exact ⟨_, _, _, _, _, _, _, _, _, _, _, _, _, _, _, _, _, _, _, _, _, _, _, _, _, _, _, _, _, _, _, ⟨2, by omega, rfl, by have := HO.out; rw [← hsn.out] at this; exact this, hb5⟩, rfl⟩
                    case measure => simp [intOf]
                  case inl.inr.inr.inr.inr.inl =>
                    go_wp2_with (at_builtin; refine wpList_append_own _ rfl _ _ 56 rfl w.heap.size 9 i0 (.string ⟨#[]⟩) 1 16 Tryd.underlying56 hi hz0 hz1 hz2 rfl (by decide) _ _ _ rfl ((hown4.alloc _).alloc _) ⟨wr.heap.size + 1, 0, none⟩ 1 1 [.string (patB 14)] rfl rfl ?c1 ?c2 ?c3 ?c4 ?c5 ?_)
                    case c1 =>
                      intro j u hj
                      refine cell_two_new _ _ _ _ j u ?_
                      rw [← hj]
                      exact congrArg (fun x : ByteArray => ([Value.string x][j]? : Option Value)) (by decide +kernel)
                    case c2 => intro u hu; simp at hu; subst hu; rfl
                    case c3 => unfold maxLen; omega
                    case c4 => omega
                    case c5 => simp; omega
                    intro v' w2 hown5 hgrow _
                    have hb5 := below_grown (bal (bal hb4 _) _) ((hown4.alloc _).alloc _) (by simp; omega) hgrow
                    have HO := Lib.hid hown5
                    clear hown4 hown5 hgrow hb4
                    go_wp2
                    go_roundw
                    case rel => exact ⟨_, _, _, _, _, _, _, _, _, _, _, _, _, _, _, _, _, _, _, _, _, _, _, _, _, _, _, _, _, _, _, ⟨3, by omega, rfl, by have := HO.out; rw [← hsn.out] at this; exact this, hb5⟩, rfl⟩
                    case measure => simp [intOf]
                  case inl.inr.inr.inr.inr.inr =>
                    go_wp2_with (at_builtin; refine wpList_append_own _ rfl _ _ 56 rfl w.heap.size 9 i0 (.string ⟨#[]⟩) 1 16 Tryd.underlying56 hi hz0 hz1 hz2 rfl (by decide) _ _ _ rfl ((hown4.alloc _).alloc _) ⟨wr.heap.size + 1, 0, none⟩ 1 1 [.string (patB 15)] rfl rfl ?c1 ?c2 ?c3 ?c4 ?c5 ?_)
                    case c1 =>
                      intro j u hj
                      refine cell_two_new _ _ _ _ j u ?_
                      rw [← hj]
                      exact congrArg (fun x : ByteArray => ([Value.string x][j]? : Option Value)) (by decide +kernel)
                    case c2 => intro u hu; simp at hu; subst hu; rfl
                    case c3 => unfold maxLen; omega
                    case c4 => omega
                    case c5 => simp; omega
                    intro v' w2 hown5 hgrow _
                    have hb5 := below_grown (bal (bal hb4 _) _) ((hown4.alloc _).alloc _) (by simp; omega) hgrow
                    have HO := Lib.hid hown5
                    clear hown4 hown5 hgrow hb4
                    go_wp2
                    go_roundw
                    case rel => exact ⟨_, _, _, _, _, _, _, _, _, _, _, _, _, _, _, _, _, _, _, _, _, _, _, _, _, _, _, _, _, _, _, ⟨4, by omega, rfl, by have := HO.out; rw [← hsn.out] at this; exact this, hb5⟩, rfl⟩
                    case measure => simp [intOf]
                  case inr.inl.inl.inl =>
                    go_wp2_with (at_builtin; refine wpList_append_own _ rfl _ _ 56 rfl w.heap.size 9 i0 (.string ⟨#[]⟩) 1 16 Tryd.underlying56 hi hz0 hz1 hz2 rfl (by decide) _ _ _ rfl ((hown4.alloc _).alloc _) ⟨wr.heap.size + 1, 0, none⟩ 1 1 [.string (patB 16)] rfl rfl ?c1 ?c2 ?c3 ?c4 ?c5 ?_)
                    case c1 =>
                      intro j u hj
                      refine cell_two_new _ _ _ _ j u ?_
                      rw [← hj]
                      exact congrArg (fun x : ByteArray => ([Value.string x][j]? : Option Value)) (by decide +kernel)
                    case c2 => intro u hu; simp at hu; subst hu; rfl
                    case c3 => unfold maxLen; omega
                    case c4 => omega
                    case c5 => simp; omega
                    intro v' w2 hown5 hgrow _
                    have hb5 := below_grown (bal (bal hb4 _) _) ((hown4.alloc _).alloc _) (by simp; omega) hgrow
                    have HO := Lib.hid hown5
                    clear hown4 hown5 hgrow hb4
                    go_wp2
                    go_roundw
                    case rel => exact ⟨_, _, _, _, _, _, _, _, _, _, _, _, _, _, _, _, _, _, _, _, _, _, _, _, _, _, _, _, _, _, _, ⟨1, by omega, rfl, by have := HO.out; rw [← hsn.out] at this; exact this, hb5⟩, rfl⟩
                    case measure => simp [intOf]
                  case inr.inl.inl.inr.inl =>
                    go_wp2_with (at_builtin; refine wpList_append_own _ rfl _ _ 56 rfl w.heap.size 9 i0 (.string ⟨#[]⟩) 1 16 Tryd.underlying56 hi hz0 hz1 hz2 rfl (by decide) _ _ _ rfl ((hown4.alloc _).alloc _) ⟨wr.heap.size + 1, 0, none⟩ 1 1 [.string (patB 17)] rfl rfl ?c1 ?c2 ?c3 ?c4 ?c5 ?_)
                    case c1 =>
                      intro j u hj
                      refine cell_two_new _ _ _ _ j u ?_
                      rw [← hj]
                      exact congrArg (fun x : ByteArray => ([Value.string x][j]? : Option Value)) (by decide +kernel)
                    case c2 => intro u hu; simp at hu; subst hu; rfl
                    case c3 => unfold maxLen; omega
                    case c4 => omega
                    case c5 => simp; omega
                    intro v' w2 hown5 hgrow _
                    have hb5 := below_grown (bal (bal hb4 _) _) ((hown4.alloc _).alloc _) (by simp; omega) hgrow
                    have HO := Lib.hid hown5
                    clear hown4 hown5 hgrow hb4
                    go_wp2
                    go_roundw
                    case rel => exact ⟨_, _, _, _, _, _, _, _, _, _, _, _, _, _, _, _, _, _, _, _, _, _, _, _, _, _, _, _, _, _, _, ⟨2, by omega, rfl, by have := HO.out; rw [← hsn.out] at this; exact this, hb5⟩, rfl⟩
                    case measure => simp [intOf]
                  case inr.inl.inl.inr.inr.inl =>
                    go_wp2_with (at_builtin; refine wpList_append_own _ rfl _ _ 56 rfl w.heap.size 9 i0 (.string ⟨#[]⟩) 1 16 Tryd.underlying56 hi hz0 hz1 hz2 rfl (by decide) _ _ _ rfl ((hown4.alloc _).alloc _) ⟨wr.heap.size + 1, 0, none⟩ 1 1 [.string (patB 18)] rfl rfl ?c1 ?c2 ?c3 ?c4 ?c5 ?_)
                    case c1 =>
                      intro j u hj
                      refine cell_two_new _ _ _ _ j u ?_
                      rw [← hj]
                      exact congrArg (fun x : ByteArray => ([Value.string x][j]? : Option Value)) (by decide +kernel)
                    case c2 => intro u hu; simp at hu; subst hu; rfl
                    case c3 => unfold maxLen; omega
                    case c4 => omega
                    case c5 => simp; omega
                    intro v' w2 hown5 hgrow _
                    have hb5 := below_grown (bal (bal hb4 _) _) ((hown4.alloc _).alloc _) (by simp; omega) hgrow
                    have HO := Lib.hid hown5
                    clear hown4 hown5 hgrow hb4
                    go_wp2
                    go_roundw
                    case rel => exact ⟨_, _, _, _, _, _, _, _, _, _, _, _, _, _, _, _, _, _, _, _, _, _, _, _, _, _, _, _, _, _, _, ⟨3, by omega, rfl, by have := HO.out; rw [← hsn.out] at this; exact this, hb5⟩, rfl⟩
                    case measure => simp [intOf]
                  case inr.inl.inl.inr.inr.inr =>
                    go_wp2_with (at_builtin; refine wpList_append_own _ rfl _ _ 56 rfl w.heap.size 9 i0 (.string ⟨#[]⟩) 1 16 Tryd.underlying56 hi hz0 hz1 hz2 rfl (by decide) _ _ _ rfl ((hown4.alloc _).alloc _) ⟨wr.heap.size + 1, 0, none⟩ 1 1 [.string (patB 19)] rfl rfl ?c1 ?c2 ?c3 ?c4 ?c5 ?_)
                    case c1 =>
                      intro j u hj
                      refine cell_two_new _ _ _ _ j u ?_
                      rw [← hj]
                      exact congrArg (fun x : ByteArray => ([Value.string x][j]? : Option Value)) (by decide +kernel)
                    case c2 => intro u hu; simp at hu; subst hu; rfl
                    case c3 => unfold maxLen; omega
                    case c4 => omega
                    case c5 => simp; omega
                    intro v' w2 hown5 hgrow _
                    have hb5 := below_grown (bal (bal hb4 _) _) ((hown4.alloc _).alloc _) (by simp; omega) hgrow
                    have HO := Lib.hid hown5
                    clear hown4 hown5 hgrow hb4
                    go_wp2
                    go_roundw
                    case rel => exact ⟨_, _, _, _, _, _, _, _, _, _, _, _, _, _, _, _, _, _, _, _, _, _, _, _, _, _, _, _, _, _, _, ⟨4, by omega, rfl, by have := HO.out; rw [← hsn.out] at this; exact this, hb5⟩, rfl⟩
                    case measure => simp [intOf]
                  case inr.inl.inr.inl =>
                    go_wp2_with (at_builtin; refine wpList_append_own _ rfl _ _ 56 rfl w.heap.size 9 i0 (.string ⟨#[]⟩) 1 16 Tryd.underlying56 hi hz0 hz1 hz2 rfl (by decide) _ _ _ rfl ((hown4.alloc _).alloc _) ⟨wr.heap.size + 1, 0, none⟩ 1 1 [.string (patB 20)] rfl rfl ?c1 ?c2 ?c3 ?c4 ?c5 ?_)
                    case c1 =>
                      intro j u hj
                      refine cell_two_new _ _ _ _ j u ?_
                      rw [← hj]
                      exact congrArg (fun x : ByteArray => ([Value.string x][j]? : Option Value)) (by decide +kernel)
                    case c2 => intro u hu; simp at hu; subst hu; rfl
                    case c3 => unfold maxLen; omega
                    case c4 => omega
                    case c5 => simp; omega
                    intro v' w2 hown5 hgrow _
                    have hb5 := below_grown (bal (bal hb4 _) _) ((hown4.alloc _).alloc _) (by simp; omega) hgrow
                    have HO := Lib.hid hown5
                    clear hown4 hown5 hgrow hb4
                    go_wp2
                    go_roundw
                    case rel => exact ⟨_, _, _, _, _, _, _, _, _, _, _, _, _, _, _, _, _, _, _, _, _, _, _, _, _, _, _, _, _, _, _, ⟨1, by omega, rfl, by have := HO.out; rw [← hsn.out] at this; exact this, hb5⟩, rfl⟩
                    case measure => simp [intOf]
                  case inr.inl.inr.inr.inl =>
                    go_wp2_with (at_builtin; refine wpList_append_own _ rfl _ _ 56 rfl w.heap.size 9 i0 (.string ⟨#[]⟩) 1 16 Tryd.underlying56 hi hz0 hz1 hz2 rfl (by decide) _ _ _ rfl ((hown4.alloc _).alloc _) ⟨wr.heap.size + 1, 0, none⟩ 1 1 [.string (patB 21)] rfl rfl ?c1 ?c2 ?c3 ?c4 ?c5 ?_)
                    case c1 =>
                      intro j u hj
                      refine cell_two_new _ _ _ _ j u ?_
                      rw [← hj]
                      exact congrArg (fun x : ByteArray => ([Value.string x][j]? : Option Value)) (by decide +kernel)
                    case c2 => intro u hu; simp at hu; subst hu; rfl
                    case c3 => unfold maxLen; omega
                    case c4 => omega
                    case c5 => simp; omega
                    intro v' w2 hown5 hgrow _
                    have hb5 := below_grown (bal (bal hb4 _) _) ((hown4.alloc _).alloc _) (by simp; omega) hgrow
                    have HO := Lib.hid hown5
                    clear hown4 hown5 hgrow hb4
                    go_wp2
                    go_roundw
                    case rel => exact ⟨_, _, _, _, _, _, _, _, _, _, _, _, _, _, _, _, _, _, _, _, _, _, _, _, _, _, _, _, _, _, _, ⟨2, by omega, rfl, by have := HO.out; rw [← hsn.out] at this; exact this, hb5⟩, rfl⟩
                    case measure => simp [intOf]
                  case inr.inl.inr.inr.inr.inl =>
                    go_wp2_with (at_builtin; refine wpList_append_own _ rfl _ _ 56 rfl w.heap.size 9 i0 (.string ⟨#[]⟩) 1 16 Tryd.underlying56 hi hz0 hz1 hz2 rfl (by decide) _ _ _ rfl ((hown4.alloc _).alloc _) ⟨wr.heap.size + 1, 0, none⟩ 1 1 [.string (patB 22)] rfl rfl ?c1 ?c2 ?c3 ?c4 ?c5 ?_)
                    case c1 =>
                      intro j u hj
                      refine cell_two_new _ _ _ _ j u ?_
                      rw [← hj]
                      exact congrArg (fun x : ByteArray => ([Value.string x][j]? : Option Value)) (by decide +kernel)
                    case c2 => intro u hu; simp at hu; subst hu; rfl
                    case c3 => unfold maxLen; omega
                    case c4 => omega
                    case c5 => simp; omega
                    intro v' w2 hown5 hgrow _
                    have hb5 := below_grown (bal (bal hb4 _) _) ((hown4.alloc _).alloc _) (by simp; omega) hgrow
                    have HO := Lib.hid hown5
                    clear hown4 hown5 hgrow hb4
                    go_wp2
                    go_roundw
                    case rel => exact ⟨_, _, _, _, _, _, _, _, _, _, _, _, _, _, _, _, _, _, _, _, _, _, _, _, _, _, _, _, _, _, _, ⟨3, by omega, rfl, by have := HO.out; rw [← hsn.out] at this; exact this, hb5⟩, rfl⟩
                    case measure => simp [intOf]
                  case inr.inl.inr.inr.inr.inr =>
                    go_wp2_with (at_builtin; refine wpList_append_own _ rfl _ _ 56 rfl w.heap.size 9 i0 (.string ⟨#[]⟩) 1 16 Tryd.underlying56 hi hz0 hz1 hz2 rfl (by decide) _ _ _ rfl ((hown4.alloc _).alloc _) ⟨wr.heap.size + 1, 0, none⟩ 1 1 [.string (patB 23)] rfl rfl ?c1 ?c2 ?c3 ?c4 ?c5 ?_)
                    case c1 =>
                      intro j u hj
                      refine cell_two_new _ _ _ _ j u ?_
                      rw [← hj]
                      exact congrArg (fun x : ByteArray => ([Value.string x][j]? : Option Value)) (by decide +kernel)
                    case c2 => intro u hu; simp at hu; subst hu; rfl
                    case c3 => unfold maxLen; omega
                    case c4 => omega
                    case c5 => simp; omega
                    intro v' w2 hown5 hgrow _
                    have hb5 := below_grown (bal (bal hb4 _) _) ((hown4.alloc _).alloc _) (by simp; omega) hgrow
                    have HO := Lib.hid hown5
                    clear hown4 hown5 hgrow hb4
                    go_wp2
                    go_roundw
                    case rel => exact ⟨_, _, _, _, _, _, _, _, _, _, _, _, _, _, _, _, _, _, _, _, _, _, _, _, _, _, _, _, _, _, _, ⟨4, by omega, rfl, by have := HO.out; rw [← hsn.out] at this; exact this, hb5⟩, rfl⟩
                    case measure => simp [intOf]
                  case inr.inr.inl.inl =>
                    go_wp2_with (at_builtin; refine wpList_append_own _ rfl _ _ 56 rfl w.heap.size 9 i0 (.string ⟨#[]⟩) 1 16 Tryd.underlying56 hi hz0 hz1 hz2 rfl (by decide) _ _ _ rfl ((hown4.alloc _).alloc _) ⟨wr.heap.size + 1, 0, none⟩ 1 1 [.string (patB 24)] rfl rfl ?c1 ?c2 ?c3 ?c4 ?c5 ?_)
                    case c1 =>
                      intro j u hj
                      refine cell_two_new _ _ _ _ j u ?_
                      rw [← hj]
                      exact congrArg (fun x : ByteArray => ([Value.string x][j]? : Option Value)) (by decide +kernel)
                    case c2 => intro u hu; simp at hu; subst hu; rfl
                    case c3 => unfold maxLen; omega
                    case c4 => omega
                    case c5 => simp; omega
                    intro v' w2 hown5 hgrow _
                    have hb5 := below_grown (bal (bal hb4 _) _) ((hown4.alloc _).alloc _) (by simp; omega) hgrow
                    have HO := Lib.hid hown5
                    clear hown4 hown5 hgrow hb4
                    go_wp2
                    go_roundw
                    case rel => exact ⟨_, _, _, _, _, _, _, _, _, _, _, _, _, _, _, _, _, _, _, _, _, _, _, _, _, _, _, _, _, _, _, ⟨1, by omega, rfl, by have := HO.out; rw [← hsn.out] at this; exact this, hb5⟩, rfl⟩
                    case measure => simp [intOf]
                  case inr.inr.inl.inr.inl =>
                    go_wp2_with (at_builtin; refine wpList_append_own _ rfl _ _ 56 rfl w.heap.size 9 i0 (.string ⟨#[]⟩) 1 16 Tryd.underlying56 hi hz0 hz1 hz2 rfl (by decide) _ _ _ rfl ((hown4.alloc _).alloc _) ⟨wr.heap.size + 1, 0, none⟩ 1 1 [.string (patB 25)] rfl rfl ?c1 ?c2 ?c3 ?c4 ?c5 ?_)
                    case c1 =>
                      intro j u hj
                      refine cell_two_new _ _ _ _ j u ?_
                      rw [← hj]
                      exact congrArg (fun x : ByteArray => ([Value.string x][j]? : Option Value)) (by decide +kernel)
                    case c2 => intro u hu; simp at hu; subst hu; rfl
                    case c3 => unfold maxLen; omega
                    case c4 => omega
                    case c5 => simp; omega
                    intro v' w2 hown5 hgrow _
                    have hb5 := below_grown (bal (bal hb4 _) _) ((hown4.alloc _).alloc _) (by simp; omega) hgrow
                    have HO := Lib.hid hown5
                    clear hown4 hown5 hgrow hb4
                    go_wp2
                    go_roundw
                    case rel => exact ⟨_, _, _, _, _, _, _, _, _, _, _, _, _, _, _, _, _, _, _, _, _, _, _, _, _, _, _, _, _, _, _, ⟨2, by omega, rfl, by have := HO.out; rw [← hsn.out] at this; exact this, hb5⟩, rfl⟩
                    case measure => simp [intOf]
                  case inr.inr.inl.inr.inr.inl =>
                    go_wp2_with (at_builtin; refine wpList_append_own _ rfl _ _ 56 rfl w.heap.size 9 i0 (.string ⟨#[]⟩) 1 16 Tryd.underlying56 hi hz0 hz1 hz2 rfl (by decide) _ _ _ rfl ((hown4.alloc _).alloc _) ⟨wr.heap.size + 1, 0, none⟩ 1 1 [.string (patB 26)] rfl rfl ?c1 ?c2 ?c3 ?c4 ?c5 ?_)
                    case c1 =>
                      intro j u hj
                      refine cell_two_new _ _ _ _ j u ?_
                      rw [← hj]
                      exact congrArg (fun x : ByteArray => ([Value.string x][j]? : Option Value)) (by decide +kernel)
                    case c2 => intro u hu; simp at hu; subst hu; rfl
                    case c3 => unfold maxLen; omega
                    case c4 => omega
                    case c5 => simp; omega
                    intro v' w2 hown5 hgrow _
                    have hb5 := below_grown (bal (bal hb4 _) _) ((hown4.alloc _).alloc _) (by simp; omega) hgrow
                    have HO := Lib.hid hown5
                    clear hown4 hown5 hgrow hb4
                    go_wp2
                    go_roundw
                    case rel => exact ⟨_, _, _, _, _, _, _, _, _, _, _, _, _, _, _, _, _, _, _, _, _, _, _, _, _, _, _, _, _, _, _, ⟨3, by omega, rfl, by have := HO.out; rw [← hsn.out] at this; exact this, hb5⟩, rfl⟩
                    case measure => simp [intOf]
                  case inr.inr.inl.inr.inr.inr =>
                    go_wp2_with (at_builtin; refine wpList_append_own _ rfl _ _ 56 rfl w.heap.size 9 i0 (.string ⟨#[]⟩) 1 16 Tryd.underlying56 hi hz0 hz1 hz2 rfl (by decide) _ _ _ rfl ((hown4.alloc _).alloc _) ⟨wr.heap.size + 1, 0, none⟩ 1 1 [.string (patB 27)] rfl rfl ?c1 ?c2 ?c3 ?c4 ?c5 ?_)
                    case c1 =>
                      intro j u hj
                      refine cell_two_new _ _ _ _ j u ?_
                      rw [← hj]
                      exact congrArg (fun x : ByteArray => ([Value.string x][j]? : Option Value)) (by decide +kernel)
                    case c2 => intro u hu; simp at hu; subst hu; rfl
                    case c3 => unfold maxLen; omega
                    case c4 => omega
                    case c5 => simp; omega
                    intro v' w2 hown5 hgrow _
                    have hb5 := below_grown (bal (bal hb4 _) _) ((hown4.alloc _).alloc _) (by simp; omega) hgrow
                    have HO := Lib.hid hown5
                    clear hown4 hown5 hgrow hb4
                    go_wp2
                    go_roundw
                    case rel => exact ⟨_, _, _, _, _, _, _, _, _, _, _, _, _, _, _, _, _, _, _, _, _, _, _, _, _, _, _, _, _, _, _, ⟨4, by omega, rfl, by have := HO.out; rw [← hsn.out] at this; exact this, hb5⟩, rfl⟩
                    case measure => simp [intOf]
                  case inr.inr.inr.inl =>
                    go_wp2_with (at_builtin; refine wpList_append_own _ rfl _ _ 56 rfl w.heap.size 9 i0 (.string ⟨#[]⟩) 1 16 Tryd.underlying56 hi hz0 hz1 hz2 rfl (by decide) _ _ _ rfl ((hown4.alloc _).alloc _) ⟨wr.heap.size + 1, 0, none⟩ 1 1 [.string (patB 28)] rfl rfl ?c1 ?c2 ?c3 ?c4 ?c5 ?_)
                    case c1 =>
                      intro j u hj
                      refine cell_two_new _ _ _ _ j u ?_
                      rw [← hj]
                      exact congrArg (fun x : ByteArray => ([Value.string x][j]? : Option Value)) (by decide +kernel)
                    case c2 => intro u hu; simp at hu; subst hu; rfl
                    case c3 => unfold maxLen; omega
                    case c4 => omega
                    case c5 => simp; omega
                    intro v' w2 hown5 hgrow _
                    have hb5 := below_grown (bal (bal hb4 _) _) ((hown4.alloc _).alloc _) (by simp; omega) hgrow
                    have HO := Lib.hid hown5
                    clear hown4 hown5 hgrow hb4
                    go_wp2
                    go_roundw
                    case rel => exact ⟨_, _, _, _, _, _, _, _, _, _, _, _, _, _, _, _, _, _, _, _, _, _, _, _, _, _, _, _, _, _, _, ⟨1, by omega, rfl, by have := HO.out; rw [← hsn.out] at this; exact this, hb5⟩, rfl⟩
                    case measure => simp [intOf]
                  case inr.inr.inr.inr.inl =>
                    go_wp2_with (at_builtin; refine wpList_append_own _ rfl _ _ 56 rfl w.heap.size 9 i0 (.string ⟨#[]⟩) 1 16 Tryd.underlying56 hi hz0 hz1 hz2 rfl (by decide) _ _ _ rfl ((hown4.alloc _).alloc _) ⟨wr.heap.size + 1, 0, none⟩ 1 1 [.string (patB 29)] rfl rfl ?c1 ?c2 ?c3 ?c4 ?c5 ?_)
                    case c1 =>
                      intro j u hj
                      refine cell_two_new _ _ _ _ j u ?_
                      rw [← hj]
                      exact congrArg (fun x : ByteArray => ([Value.string x][j]? : Option Value)) (by decide +kernel)
                    case c2 => intro u hu; simp at hu; subst hu; rfl
                    case c3 => unfold maxLen; omega
                    case c4 => omega
                    case c5 => simp; omega
                    intro v' w2 hown5 hgrow _
                    have hb5 := below_grown (bal (bal hb4 _) _) ((hown4.alloc _).alloc _) (by simp; omega) hgrow
                    have HO := Lib.hid hown5
                    clear hown4 hown5 hgrow hb4
                    go_wp2
                    go_roundw
                    case rel => exact ⟨_, _, _, _, _, _, _, _, _, _, _, _, _, _, _, _, _, _, _, _, _, _, _, _, _, _, _, _, _, _, _, ⟨2, by omega, rfl, by have := HO.out; rw [← hsn.out] at this; exact this, hb5⟩, rfl⟩
                    case measure => simp [intOf]
                  case inr.inr.inr.inr.inr.inl =>
                    go_wp2_with (at_builtin; refine wpList_append_own _ rfl _ _ 56 rfl w.heap.size 9 i0 (.string ⟨#[]⟩) 1 16 Tryd.underlying56 hi hz0 hz1 hz2 rfl (by decide) _ _ _ rfl ((hown4.alloc _).alloc _) ⟨wr.heap.size + 1, 0, none⟩ 1 1 [.string (patB 30)] rfl rfl ?c1 ?c2 ?c3 ?c4 ?c5 ?_)
                    case c1 =>
                      intro j u hj
                      refine cell_two_new _ _ _ _ j u ?_
                      rw [← hj]
                      exact congrArg (fun x : ByteArray => ([Value.string x][j]? : Option Value)) (by decide +kernel)
                    case c2 => intro u hu; simp at hu; subst hu; rfl
                    case c3 => unfold maxLen; omega
                    case c4 => omega
                    case c5 => simp; omega
                    intro v' w2 hown5 hgrow _
                    have hb5 := below_grown (bal (bal hb4 _) _) ((hown4.alloc _).alloc _) (by simp; omega) hgrow
                    have HO := Lib.hid hown5
                    clear hown4 hown5 hgrow hb4
                    go_wp2
                    go_roundw
                    case rel => exact ⟨_, _, _, _, _, _, _, _, _, _, _, _, _, _, _, _, _, _, _, _, _, _, _, _, _, _, _, _, _, _, _, ⟨3, by omega, rfl, by have := HO.out; rw [← hsn.out] at this; exact this, hb5⟩, rfl⟩
                    case measure => simp [intOf]
                  case inr.inr.inr.inr.inr.inr =>
                    go_wp2_with (at_builtin; refine wpList_append_own _ rfl _ _ 56 rfl w.heap.size 9 i0 (.string ⟨#[]⟩) 1 16 Tryd.underlying56 hi hz0 hz1 hz2 rfl (by decide) _ _ _ rfl ((hown4.alloc _).alloc _) ⟨wr.heap.size + 1, 0, none⟩ 1 1 [.string (patB 31)] rfl rfl ?c1 ?c2 ?c3 ?c4 ?c5 ?_)
                    case c1 =>
                      intro j u hj
                      refine cell_two_new _ _ _ _ j u ?_
                      rw [← hj]
                      exact congrArg (fun x : ByteArray => ([Value.string x][j]? : Option Value)) (by decide +kernel)
                    case c2 => intro u hu; simp at hu; subst hu; rfl
                    case c3 => unfold maxLen; omega
                    case c4 => omega
                    case c5 => simp; omega
                    intro v' w2 hown5 hgrow _
                    have hb5 := below_grown (bal (bal hb4 _) _) ((hown4.alloc _).alloc _) (by simp; omega) hgrow
                    have HO := Lib.hid hown5
                    clear hown4 hown5 hgrow hb4
                    go_wp2
                    go_roundw
                    case rel => exact ⟨_, _, _, _, _, _, _, _, _, _, _, _, _, _, _, _, _, _, _, _, _, _, _, _, _, _, _, _, _, _, _, ⟨4, by omega, rfl, by have := HO.out; rw [← hsn.out] at this; exact this, hb5⟩, rfl⟩
                    case measure => simp [intOf]
                · obtain rfl : m = 4 := by omega
                  go_wp2
                  go_roundw
                  case rel => exact ⟨k + 1, by omega, by go_num, own_re (by omega) hown4, hb4⟩
                  case measure => simp [intOf]; omega
            · obtain rfl : k = 2 := by omega
              go_wp2
              go_roundw
              case rel => exact ⟨j + 1, by omega, by go_num, own_re (by omega) hown3, hb3⟩
              case measure => simp [intOf]; omega
        · obtain rfl : j = 2 := by omega
          go_wp2
          go_roundw
          case rel => exact ⟨i + 1, by omega, by go_num, own_re (by omega) hown2, hb2⟩
          case measure => simp [intOf]; omega
    · obtain rfl : i = 2 := by omega
      go_wp2
      go_ret
      exact ⟨_, rfl, hown, hb⟩
end Go.Proofs.YtkkmjadkagpihaaDoor
