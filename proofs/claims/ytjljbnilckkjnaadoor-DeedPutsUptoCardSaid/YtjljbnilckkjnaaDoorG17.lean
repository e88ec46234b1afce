/- Deed: a user's box, checked. -/
import Derived.Test.YtjljbnilckkjnaaDoorG16
import Derived.Test.YtjljbnilckkjnaaDoorB2
namespace Go.Proofs.YtjljbnilckkjnaaDoor
open Go Go.RowKit

def leS (a b : ByteArray) : Bool := Op.bytesLess a.toList b.toList || a.toList == b.toList
/-- What is wrong with a user's box, behind one of the name ahead. -/
def ckBox (name : ByteArray) (valid next : Int) (ls : List Letr) (ahead : ByteArray) (top : Int) : Int :=
  if rightX name = false then 4 else if leS name ahead = true then 4 else if chk valid next ls ≠ 0 then chk valid next ls else if top < valid then 2 else 0
theorem below_row {B b : Nat} {w w' : World} {ob : Obj} (h : w.heap[b]? = some ob) (hb : Below B w w') (hB : b < B) : w'.heap[b]? = some ob := (hb.block b hB).trans h
set_option maxHeartbeats 2000000 in
set_option maxRecDepth 100000 in
theorem checkBox_any (name ahead : ByteArray) (valid next top : Int) (sv : Value) (ps : List LV) (w : World) (h : Lets w sv ps) (hlen : ps.length ≤ 4294967295) (hT : Tabs w) :
    Calls Tryd.prog 59 #[boxV name valid next sv, .string ahead, .int .i64 top] w fun e w' => e = .returned (.int .i64 (ckBox name valid next (ps.map (·.1)) ahead top)) ∧ Below w.heap.size w w' := by
  obtain ⟨sa, sc, rfl, _⟩ := h.shape
  have hb0 : Below w.heap.size w (w.alloc (.cells #[.string name, .int .i64 valid, .int .i64 next, .slice sa ps.length sc] 52)) := (Below.refl _ w).alloc (Nat.le_refl _) _
  have hR := rightBox_any name (w.alloc (.cells #[.string name, .int .i64 valid, .int .i64 next, .slice sa ps.length sc] 52)) (hT.below hb0 (Nat.le_refl _))
  have hz : (w.alloc (.cells #[.string name, .int .i64 valid, .int .i64 next, .slice sa ps.length sc] 52)).heap.size = w.heap.size + 1 := by simp
  have hrow0 : (w.alloc (.cells #[.string name, .int .i64 valid, .int .i64 next, .slice sa ps.length sc] 52)).heap[w.heap.size]? = some (.cells #[.string name, .int .i64 valid, .int .i64 next, .slice sa ps.length sc] 52 (0, 0)) := heap_alloc_new w _
  rw [hz] at hR
  have HR := Lib.hid hR
  have HG : Hid (∀ u, Below (w.heap.size + 1) (w.alloc (.cells #[.string name, .int .i64 valid, .int .i64 next, .slice sa ps.length sc] 52)) u → w.heap.size < u.heap.size ∧ u.heap[w.heap.size]? = some (.cells #[.string name, .int .i64 valid, .int .i64 next, .slice sa ps.length sc] 52 (0, 0)) ∧ Below w.heap.size w u ∧ Calls Tryd.prog 75 #[.agg #[.string name, .int .i64 valid, .int .i64 next, .slice sa ps.length sc]] u (fun e w' => e = .returned (.int .i64 (chk valid next (ps.map (·.1)))) ∧ Below u.heap.size u w')) := Lib.hid (fun u hu => by
    have h1 : u.heap[w.heap.size]? = some (.cells #[.string name, .int .i64 valid, .int .i64 next, .slice sa ps.length sc] 52 (0, 0)) := below_row hrow0 hu (by omega)
    refine ⟨(Array.getElem?_eq_some_iff.1 h1).1, h1, hb0.trans (hu.mono (by omega)), ?_⟩
    exact check_any name valid next _ ps u ((h.below hb0).below (by rw [hz]; exact hu)) (by omega))
  have HE : Hid (ckBox name valid next (ps.map (·.1)) ahead top = ckBox name valid next (ps.map (·.1)) ahead top) := Lib.hid rfl
  generalize hE : ckBox name valid next (ps.map (·.1)) ahead top = E at *
  unfold ckBox at hE
  clear h hT hb0 hR hrow0 HE hz
  unfold boxV
  generalize hRX : rightX name = R at *
  generalize hCX : chk valid next (ps.map (·.1)) = K at *
  have HEQ := Lib.hid hE
  clear hE hRX hCX
  cases R with
  | false =>
    have HX : Hid (E = 4) := Lib.hid (by rw [← HEQ.out, if_pos rfl])
    clear HEQ
    go_enter Tryd.func59, Tryd.ntmps59
    go_wp2_with fail
    refine HR.out.mono ?_
    rintro e w1 ⟨rfl, hb⟩
    obtain ⟨h1, _, h3, _⟩ := HG.out w1 hb
    clear hb HG HR
    have HB := Lib.hid h3
    clear h3
    go_wp2
    go_ret
    exact ⟨ret_int1 HX.out.symm, HB.out⟩
  | true =>
    cases hL : leS name ahead with
    | true =>
      have HX : Hid (E = 4) := Lib.hid (by rw [← HEQ.out, if_neg (by simp), if_pos hL])
      clear HEQ
      unfold leS at hL
      go_enter Tryd.func59, Tryd.ntmps59
      go_wp2_with fail
      refine HR.out.mono ?_
      rintro e w1 ⟨rfl, hb⟩
      obtain ⟨h1, h2, h3, _⟩ := HG.out w1 hb
      have c0 : w1.cell? ⟨w.heap.size, 0, none⟩ = some (.string name) := cell_of_row _ _ _ _ _ _ h2
      clear hb HG HR h2
      have HB := Lib.hid h3
      clear h3
      go_wp2
      go_ret
      exact ⟨ret_int1 HX.out.symm, HB.out⟩
    | false =>
      rw [if_neg (by simp), if_neg (by rw [hL]; simp)] at HEQ
      unfold leS at hL
      go_enter Tryd.func59, Tryd.ntmps59
      go_wp2_with fail
      refine HR.out.mono ?_
      rintro e w1 ⟨rfl, hb⟩
      obtain ⟨h1, h2, h3, h4⟩ := HG.out w1 hb
      have c0 : w1.cell? ⟨w.heap.size, 0, none⟩ = some (.string name) := cell_of_row _ _ _ _ _ _ h2
      have HK := Lib.hid h4
      have HB := Lib.hid h3
      have HROW := Lib.hid h2
      clear hb HG HR h2 h3 h4
      go_wp2_with (refine wpList_load_row rfl 52 _ rfl w.heap.size rfl 52 _ (0, 0) _ HROW.out Tryd.underlying52 rfl (by kernel_rfl) ?_)
      refine HK.out.mono ?_
      rintro e w2 ⟨rfl, hb⟩
      have c1 : w2.cell? ⟨w.heap.size, 1, none⟩ = some (.int .i64 valid) := cell_of_row _ _ _ _ _ _ (below_row HROW.out hb h1)
      have HBB : Hid (Below w.heap.size w w2) := Lib.hid (HB.out.trans (hb.mono (by omega)))
      have hz2 := hb.size
      clear hb
      by_cases hK : K = 0
      · subst hK
        rw [if_neg (by simp)] at HEQ
        by_cases ht : top < valid
        · have HX : Hid (E = 2) := Lib.hid (by rw [← HEQ.out, if_pos ht])
          clear HEQ
          go_wp2
          go_ret
          exact ⟨ret_int1 HX.out.symm, HBB.out⟩
        · have HX : Hid (E = 0) := Lib.hid (by rw [← HEQ.out, if_neg ht])
          clear HEQ
          go_wp2
          go_ret
          exact ⟨ret_int1 HX.out.symm, HBB.out⟩
      · have HX : Hid (E = K) := Lib.hid (by rw [← HEQ.out, if_pos hK])
        clear HEQ
        go_wp2
        go_ret
        exact ⟨ret_int1 HX.out.symm, HBB.out⟩
end Go.Proofs.YtjljbnilckkjnaaDoor
