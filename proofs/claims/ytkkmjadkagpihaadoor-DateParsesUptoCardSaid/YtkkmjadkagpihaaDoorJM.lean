/- Date: the document's Letters (as in box's seat). -/
import Derived.Test.YtkkmjadkagpihaaDoorJL
import Derived.Test.YtkkmjadkagpihaaDoorShelf
namespace Go.Proofs.YtkkmjadkagpihaaDoor
open Go.RowKit


def Tabs (w : World) : Prop := Lib.Utf8Tabs 1 2 w
theorem Tabs.below {w w' : World} {B : Nat} (h : Tabs w) (hb : Below B w w') (hB : w.heap.size ≤ B) : Tabs w' := Utf8Tabs_below h (hb.mono hB)
/-- A letter's bytes, as a string. -/
def lettV (s : ByteArray) (x : Nat × Nat × Nat) : Value := .string (s.extract x.1 (x.1 + x.2.2))
def letsV (s : ByteArray) : List Value := (lets s 0).map (lettV s)

theorem ext_eq {a b : ByteArray} (h : a.data.toList = b.data.toList) : a = b := by
  rw [← Lib.mk_data a, h, Lib.mk_data b]
theorem ext_head (s : ByteArray) (pos k : Nat) (h : pos + k ≤ s.size) : (s.extract pos s.size).extract 0 k = s.extract pos (pos + k) := by
  apply ext_eq
  rw [Lib.extract_data, Lib.extract_data, Lib.extract_data, List.drop_zero, List.take_take]
  congr 1; omega
theorem ext_tail (s : ByteArray) (pos k : Nat) (h : pos + k ≤ s.size) : (s.extract pos s.size).extract k (s.extract pos s.size).size = s.extract (pos + k) s.size := by
  have e : (s.extract pos s.size).size = s.size - pos := by rw [ByteArray.size_extract]; omega
  apply ext_eq
  rw [e, Lib.extract_data, Lib.extract_data, Lib.extract_data, List.drop_take, List.drop_drop, List.take_take]
  congr 1; omega
theorem ext_all (s : ByteArray) : s.extract 0 s.size = s := by
  apply ext_eq
  rw [Lib.extract_data, List.drop_zero, Nat.sub_zero, Lib.size_eq, List.take_length]
theorem lets_length (s : ByteArray) : ∀ f pos, (letsF s f pos).length ≤ f := by
  intro f
  induction f with
  | zero => intro pos; simp [letsF]
  | succ f ih =>
    intro pos
    unfold letsF
    split
    · simp only [List.length_cons]; have := ih (pos + (Utf8.decode s pos).2); omega
    · simp

theorem info9 : (Tryd.prog.info? 9).map (fun i => (i.zero, i.size, i.bytes)) = some (some (.string ⟨#[]⟩), 1, 16) := by kernel_rfl

set_option maxHeartbeats 800000 in
set_option maxRecDepth 100000 in
theorem letters_any (s : ByteArray) (w : World) (hT : Tabs w) (hs : s.size ≤ 4398046511104) :
    Calls Tryd.prog 43 #[.string s] w fun e w' => ∃ v, e = .returned v ∧ w'.ownsRow w.heap.size 9 1 v (letsV s).length (letsV s) ∧ Below w.heap.size w w' := by
  obtain ⟨i0, hi, hz0, hz1, hz2⟩ := info_parts info9
  go_enter Tryd.func43, Tryd.ntmps43
  go_wp2
  go_loopw [0, 3, 4, 5] (fun sv v _r _n wr => ∃ (pos : Nat) (t : ByteArray) (done : List Value), pos ≤ s.size ∧ sv = .string t ∧ t = s.extract pos s.size ∧ done.length ≤ pos ∧ wr.ownsRow w.heap.size 9 1 v done.length done ∧ Below w.heap.size w wr ∧ done ++ (lets s pos).map (lettV s) = letsV s) (fun sv _ _ _ _ => match sv with | .string t => t.size | _ => 0)
  case atStart =>
    refine ⟨0, s, [], Nat.zero_le _, rfl, (ext_all s).symm, by simp, ?_, (Below.refl _ w).alloc (Nat.le_refl _) _, rfl⟩
    exact World.ownsRow_lit (size := 1) w #[] 0 (Nat.le_refl _) (by decide) rfl
  case round =>
    obtain ⟨pos, t, done, hle, rfl, ht, hdl, hown, hb, hL⟩ := hrel
    have hz := hb.size
    have hts : t.size = s.size - pos := by rw [ht, ByteArray.size_extract]; omega
    by_cases hp : pos < s.size
    · obtain ⟨r, k, hd⟩ : ∃ r k, Utf8.decode s pos = (r, k) := ⟨_, _, rfl⟩
      have hwd := dec_le s pos hp
      rw [lets_cons s pos hp] at hL
      rw [hd] at hwd hL
      simp only at hwd hL
      have hc := Tryd.utf8_DecodeRuneInString t wr (hT.below hb (Nat.le_refl _))
      have hgo : Lib.decodeGo t = (r, k) := by unfold Lib.decodeGo; rw [if_neg (by omega), ht, dec_extract s pos hp, hd]
      rw [hgo] at hc
      have e1 : t.extract 0 k = s.extract pos (pos + k) := by rw [ht]; exact ext_head s pos k hwd.2.2
      have e2 : t.extract k t.size = s.extract (pos + k) s.size := by rw [ht]; exact ext_tail s pos k hwd.2.2
      have hpos : 0 < t.size := by omega
      have hk : k ≤ t.size := by omega
      have HT := Lib.hid hts
      have HL := Lib.hid hL
      have H1 := Lib.hid e1
      have H2 := Lib.hid e2
      clear hts hL e1 e2 ht hgo hd
      go_wp2_with fail
      refine hc.mono ?_
      rintro e w1 ⟨rfl, hb1⟩
      have hown1 := own_below hown hb1
      have hz1' := hb1.size
      have hb2 := hb.trans (hb1.mono hz)
      clear hown hb1 hc
      go_wp2_with (at_builtin; refine wpList_append_own _ rfl _ _ 56 rfl w.heap.size 9 i0 (.string ⟨#[]⟩) 1 16 Tryd.underlying56 hi hz0 hz1 hz2 rfl (by decide) _ _ _ rfl (hown1.alloc _) ⟨w1.heap.size, 0, none⟩ 1 1 [.string (t.extract 0 k)] rfl rfl ?c1 ?c2 ?c3 ?c4 ?c5 ?_)
      case c1 => exact cell_one_new _ _ _
      case c2 => intro u hu; simp at hu; subst hu; rfl
      case c3 => unfold maxLen; omega
      case c4 => omega
      case c5 => simp; omega
      intro v' w2 hown2 hgrow _
      have hb3 := below_grown (hb2.alloc (by omega) _) (hown1.alloc _) (by simp; omega) hgrow
      have HO := Lib.hid hown2
      clear hown1 hown2 hgrow hb2
      go_wp2
      go_roundw
      case rel =>
        refine ⟨pos + k, _, done ++ [.string (s.extract pos (pos + k))], hwd.2.2, rfl, H2.out, by simp; omega, ?_, hb3, ?_⟩
        · have := HO.out; rw [H1.out] at this; simpa using this
        · have := HL.out
          rw [List.append_assoc]
          exact this
      case measure =>
        rw [H2.out]
        show (s.extract (pos + k) s.size).size < t.size
        rw [ByteArray.size_extract, HT.out]; omega
    · have hpos : ¬ 0 < t.size := by omega
      rw [lets_nil s pos hp] at hL
      simp only [List.map_nil, List.append_nil] at hL
      subst hL
      go_wp2
      go_ret
      exact ⟨_, rfl, hown, hb⟩
end Go.Proofs.YtkkmjadkagpihaaDoor
