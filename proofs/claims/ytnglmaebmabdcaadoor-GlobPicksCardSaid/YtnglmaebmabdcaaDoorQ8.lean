/- Glob: a name's steps, the document's. -/
import Derived.Test.YtnglmaebmabdcaaDoorQ7
import Derived.Test.YtnglmaebmabdcaaDoorQ3
namespace Go.Proofs.YtnglmaebmabdcaaDoor
open Go Go.RowKit

theorem info9 : (Tryd.prog.info? 9).map (fun i => (i.zero, i.size, i.bytes)) = some (some (.string ⟨#[]⟩), 1, 16) := by kernel_rfl
def mid (s : ByteArray) (a b : Nat) : List UInt8 := (s.data.toList.drop a).take (b - a)
theorem mid_mk (s : ByteArray) (a b : Nat) : mkS (mid s a b) = s.extract a b := (Lib.extract_eq s a b).symm
theorem mid_same (s : ByteArray) (a : Nat) : mid s a a = [] := by unfold mid; rw [Nat.sub_self]; rfl
theorem mid_snoc (s : ByteArray) (a b : Nat) (h : a ≤ b) (hb : b < s.size) : mid s a (b + 1) = mid s a b ++ [s[b]] := by
  unfold mid
  have hlt : b - a < (s.data.toList.drop a).length := by rw [List.length_drop, ← Lib.size_eq]; omega
  rw [show b + 1 - a = b - a + 1 by omega, List.take_succ_eq_append_getElem hlt]
  congr 2
  rw [List.getElem_drop]
  have h2 := get_at_list s b hb
  rw [List.getElem?_eq_getElem (by rw [← Lib.size_eq]; exact hb)] at h2
  have h3 := Option.some.inj h2
  rw [← h3]
  congr 1
  omega
theorem drop_cons (s : ByteArray) (b : Nat) (hb : b < s.size) : s.data.toList.drop b = s[b] :: s.data.toList.drop (b + 1) := by
  have hlt : b < s.data.toList.length := by rw [← Lib.size_eq]; exact hb
  rw [List.drop_eq_getElem_cons hlt]
  rfl
/-- How far the document has come. -/
structure StpR (s : ByteArray) (fr i : Nat) (done : List ByteArray) : Prop where
  le : i ≤ s.size + 1
  len : done.length ≤ i
  on : i ≤ s.size → fr ≤ i ∧ done ++ (segs (mid s fr i) (s.data.toList.drop i)).map mkS = (segs [] s.data.toList).map mkS
  all : i = s.size + 1 → done = (segs [] s.data.toList).map mkS
theorem StpR.zero (s : ByteArray) : StpR s 0 0 [] := ⟨by omega, by simp, fun _ => ⟨Nat.le_refl _, by rw [mid_same]; rfl⟩, fun h => by omega⟩
theorem StpR.stay {s : ByteArray} {fr i : Nat} {done : List ByteArray} (h : StpR s fr i done) (hi : i < s.size) (hc : byt s i ≠ 47) : StpR s fr (i + 1) done := by
  obtain ⟨h1, h2⟩ := h.on (by omega)
  have hne : s[i] ≠ 47 := fun e => hc (by rw [byt_at s i hi, e]; rfl)
  refine ⟨by omega, by have := h.len; omega, fun _ => ⟨by omega, ?_⟩, fun h => by omega⟩
  rw [← h2, drop_cons s i hi, segs, if_neg hne, mid_snoc s fr i h1 hi]
theorem StpR.cut {s : ByteArray} {fr i : Nat} {done : List ByteArray} (h : StpR s fr i done) (hi : i < s.size) (hc : byt s i = 47) : StpR s (i + 1) (i + 1) (done ++ [s.extract fr i]) := by
  obtain ⟨h1, h2⟩ := h.on (by omega)
  have hne : s[i] = 47 := UInt8.toNat_inj.1 (by rw [← byt_at s i hi, hc]; rfl)
  refine ⟨by omega, by have := h.len; simp; omega, fun _ => ⟨by omega, ?_⟩, fun h => by omega⟩
  rw [← h2, drop_cons s i hi, segs, if_pos hne, mid_same, List.map_cons, mid_mk]
  simp
theorem StpR.last {s : ByteArray} {fr i : Nat} {done : List ByteArray} (h : StpR s fr i done) (hi : i = s.size) : StpR s (i + 1) (i + 1) (done ++ [s.extract fr i]) := by
  obtain ⟨h1, h2⟩ := h.on (by omega)
  refine ⟨by omega, by have := h.len; simp; omega, fun h => by omega, fun _ => ?_⟩
  rw [← h2, List.drop_of_length_le (by rw [← Lib.size_eq]; omega)]
  simp [segs, mid_mk]

set_option maxHeartbeats 1000000 in
set_option maxRecDepth 100000 in
theorem refSteps (s : ByteArray) (w : World) (hs : s.size ≤ 1000) :
    Calls Tryd.prog 15 #[.string s] w fun e w' => ∃ v, e = .returned v ∧ Ltr w' v (stepsS s) ∧ Below w.heap.size w w' := by
  obtain ⟨i0, hi0, hz0, hz1, hz2⟩ := info_parts info9
  unfold stepsS
  go_enter Tryd.func15, Tryd.ntmps15
  have hb0 : Below w.heap.size w (w.alloc (.cells #[] 9)) := (Below.refl _ w).alloc (Nat.le_refl _) _
  have ho0 : (w.alloc (.cells #[] 9)).ownsRow w.heap.size 9 1 (.slice (some ⟨w.heap.size, 0, none⟩) 0 0) 0 [] := World.ownsRow_lit (size := 1) w #[] 0 (Nat.le_refl _) (by decide) rfl
  by_cases h0 : s.size = 0
  · have q1 : ((s.size : Int) == 0) = true := by rw [h0]; rfl
    rw [if_pos h0]
    have HO := Lib.hid ho0
    have HB := Lib.hid hb0
    clear h0 ho0 hb0
    go_wp2
    go_ret
    exact ⟨_, rfl, Ltr.of (L := []) HO.out, HB.out⟩
  · have q1 : ((s.size : Int) == 0) = false := by rw [beq_eq_false_iff_ne]; omega
    rw [if_neg h0]
    have HO := Lib.hid ho0
    have HB := Lib.hid hb0
    clear h0 ho0 hb0
    go_wp2
    go_loopw [3, 4, 5] (fun v x4 x5 wr => ∃ (fr i : Nat) (done : List ByteArray), x4 = .int .i64 (fr : Int) ∧ x5 = .int .i64 (i : Int) ∧ Hid (StpR s fr i done) ∧ wr.ownsRow w.heap.size 9 1 v done.length (done.map Value.string) ∧ Below w.heap.size w wr) (fun _ _ x5 _ => s.size + 1 - (intOf x5).toNat)
    case atStart => exact ⟨0, 0, [], rfl, rfl, Lib.hid (StpR.zero s), HO.out, HB.out⟩
    case round =>
      obtain ⟨fr, i, done, rfl, rfl, hR, hown, hb⟩ := hrel
      clear HO HB
      have hz := hb.size
      have hle := hR.out.le
      have hlen := hR.out.len
      by_cases hi : i ≤ s.size
      · have hii : (i : Int) ≤ (s.size : Int) := by omega
        have hfr := (hR.out.on hi).1
        have hfri : (fr : Int) ≤ (i : Int) := by omega
        have happ : ∀ R : StpR s (i + 1) (i + 1) (done ++ [s.extract fr i]), True := fun _ => trivial
        by_cases he : i = s.size
        · have q2 : ((i : Int) == (s.size : Int)) = true := by rw [he]; simp
          have HR := Lib.hid (hR.out.last he)
          clear he hR
          go_wp2_with (at_builtin; refine wpList_append_own _ rfl _ _ 26 rfl w.heap.size 9 i0 (.string ⟨#[]⟩) 1 16 Tryd.underlying26 hi0 hz0 hz1 hz2 rfl (by decide) _ _ _ rfl (hown.alloc _) ⟨wr.heap.size, 0, none⟩ 1 1 [.string (s.extract fr i)] rfl rfl ?c1 ?c2 ?c3 ?c4 ?c5 ?_)
          case c1 => exact cell_one_new _ _ _
          case c2 => intro u hu; simp at hu; subst hu; rfl
          case c3 => unfold maxLen; omega
          case c4 => omega
          case c5 => simp; omega
          intro v' w2 hown2 hgrow _
          have hb3 := below_grown (hb.alloc (by omega) _) (hown.alloc _) (by simp; omega) hgrow
          have HO := Lib.hid hown2
          clear hown hown2 hgrow hb
          go_wp2
          refine ⟨⟨i + 1, i + 1, done ++ [s.extract fr i], rfl, rfl, HR, ?_, hb3⟩, ?_⟩
          · simpa using HO.out
          · simp [intOf] <;> omega
        · have q2 : ((i : Int) == (s.size : Int)) = false := by rw [beq_eq_false_iff_ne]; omega
          have hlt : i < s.size := by omega
          have hlti : (i : Int) < (s.size : Int) := by omega
          have hbc := byt_at s i hlt
          by_cases hc : byt s i = 47
          · have q3 : (((s[i]'hlt).toNat : Int) == 47) = true := by rw [← hbc, hc]; rfl
            have HR := Lib.hid (hR.out.cut hlt hc)
            clear he hR
            go_wp2_with (at_builtin; refine wpList_append_own _ rfl _ _ 26 rfl w.heap.size 9 i0 (.string ⟨#[]⟩) 1 16 Tryd.underlying26 hi0 hz0 hz1 hz2 rfl (by decide) _ _ _ rfl (hown.alloc _) ⟨wr.heap.size, 0, none⟩ 1 1 [.string (s.extract fr i)] rfl rfl ?c1 ?c2 ?c3 ?c4 ?c5 ?_)
            case c1 => exact cell_one_new _ _ _
            case c2 => intro u hu; simp at hu; subst hu; rfl
            case c3 => unfold maxLen; omega
            case c4 => omega
            case c5 => simp; omega
            intro v' w2 hown2 hgrow _
            have hb3 := below_grown (hb.alloc (by omega) _) (hown.alloc _) (by simp; omega) hgrow
            have HO := Lib.hid hown2
            clear hown hown2 hgrow hb
            go_wp2
            refine ⟨⟨i + 1, i + 1, done ++ [s.extract fr i], rfl, rfl, HR, ?_, hb3⟩, ?_⟩
            · simpa using HO.out
            · simp [intOf] <;> omega
          · have q3 : (((s[i]'hlt).toNat : Int) == 47) = false := by rw [← hbc, beq_eq_false_iff_ne]; omega
            have HR := Lib.hid (hR.out.stay hlt hc)
            have HO := Lib.hid hown
            have HB := Lib.hid hb
            clear he hR hown hb
            go_wp2
            refine ⟨⟨fr, i + 1, done, rfl, rfl, HR, HO.out, HB.out⟩, ?_⟩
            simp [intOf] <;> omega
      · have hall := hR.out.all (by omega)
        have HO := Lib.hid (Ltr.of hown)
        have HB := Lib.hid hb
        clear hown hb hR
        go_wp2
        go_ret
        exact ⟨_, rfl, hall ▸ HO.out, HB.out⟩
end Go.Proofs.YtnglmaebmabdcaaDoor
