/- Box: Check, the code's. -/
import Derived.Test.YtjljbnilckkjnaaDoorB1
namespace Go.Proofs.YtjljbnilckkjnaaDoor
open Go Go.RowKit

set_option maxHeartbeats 2000000 in
set_option maxRecDepth 100000 in
theorem check_any (name : ByteArray) (valid next : Int) (sv : Value) (ps : List LV) (w : World) (h : Lets w sv ps) (hlen : ps.length ≤ 9223372036854775807) :
    Calls Tryd.prog 75 #[boxV name valid next sv] w fun e w' => e = .returned (.int .i64 (chk valid next (ps.map (·.1)))) ∧ Below w.heap.size w w' := by
  have hb0 : Below w.heap.size w (w.alloc (.cells #[.string name, .int .i64 valid, .int .i64 next, sv] 52)) := (Below.refl _ w).alloc (Nat.le_refl _) _
  have h0 := h.below hb0
  have hB0 := BoxAt.new w name valid next sv 52
  unfold boxV
  unfold chk
  rw [List.length_map]
  by_cases hv : badN valid
  · rw [if_pos (Or.inl hv)]
    obtain ⟨a, cap, rfl, _⟩ := h.shape
    have hN := fun w => isNum_no valid w hv
    clear h h0 hB0
    go_enter Tryd.func75, Tryd.ntmps75
    go_wp2_with (go_at_call 79; refine (hN _).mono ?_; rintro e w' ⟨rfl, rfl⟩)
    go_ret
    exact ⟨rfl, hb0⟩
  have hN1 := fun w => isNum_yes valid w hv
  by_cases hx : badN next
  · rw [if_pos (Or.inr hx)]
    obtain ⟨a, cap, rfl, _⟩ := h.shape
    have hN2 := fun w => isNum_no next w hx
    clear h h0 hB0
    go_enter Tryd.func75, Tryd.ntmps75
    go_wp2_with (go_at_call 79; first | ((with_reducible refine (hN1 _).mono ?_); rintro e w' ⟨rfl, rfl⟩) | ((with_reducible refine (hN2 _).mono ?_); rintro e w' ⟨rfl, rfl⟩))
    go_ret
    exact ⟨rfl, hb0⟩
  rw [if_neg (by simp [hv, hx])]
  have hN2 := fun w => isNum_yes next w hx
  by_cases hl : 32 < ps.length
  · rw [if_pos hl]
    obtain ⟨a, cap, rfl, _⟩ := h.shape
    clear h h0 hB0
    go_enter Tryd.func75, Tryd.ntmps75
    go_wp2_with (go_at_call 79; first | ((with_reducible refine (hN1 _).mono ?_); rintro e w' ⟨rfl, rfl⟩) | ((with_reducible refine (hN2 _).mono ?_); rintro e w' ⟨rfl, rfl⟩))
    go_ret
    exact ⟨rfl, hb0⟩
  rw [if_neg hl]
  obtain ⟨a, cap, rfl, g, off, hg, hc⟩ := h0.opened
  have hbytes := h0.bytes
  generalize hF : chkL next 0 (ps.map (·.1)) = F
  have HF := Lib.hid hF
  have HC := Lib.hid hc
  have HG := Lib.hid hg
  have HB := Lib.hid hB0
  have HY := Lib.hid hbytes
  have HL := Lib.hid h0
  clear hF h h0 hB0 hc hbytes hv hx hg
  go_enter Tryd.func75, Tryd.ntmps75
  go_wp2_with (go_at_call 79; first | ((with_reducible refine (hN1 _).mono ?_); rintro e w' ⟨rfl, rfl⟩) | ((with_reducible refine (hN2 _).mono ?_); rintro e w' ⟨rfl, rfl⟩))
  go_loopw [3, 25] (fun lv i wr => ∃ (k : Nat) (last : Int), k ≤ ps.length ∧ i = .int .i64 k ∧ lv = .int .i64 last ∧ chkL next last ((ps.map (·.1)).drop k) = F ∧ Below (w.heap.size + 1) (w.alloc (.cells #[.string name, .int .i64 valid, .int .i64 next, .slice a ps.length cap] 52)) wr) (fun _ i _ => ps.length - (intOf i).toNat)
  case atStart => exact ⟨0, 0, Nat.zero_le _, rfl, rfl, HF.out, Below.refl _ _⟩
  case round =>
    obtain ⟨k, last, hk, rfl, rfl, hgo, hb⟩ := hrel
    obtain ⟨_, _, q2, _⟩ := HB.out.below hb (by omega)
    by_cases hlt : k < ps.length
    · have hp := List.getElem?_eq_getElem hlt
      generalize ps[k] = p at hp
      have hne : ps ≠ [] := fun e => by subst e; simp at hlt
      obtain ⟨rfl, hgl⟩ := HG.out hne
      obtain ⟨c0, c1, c2⟩ := HC.out k p hp
      have hz := hb.size
      have hgl' : g < w.heap.size + 1 := by simpa using hgl
      have d0 := (hb.cell (p := ⟨g, off + k * 3, none⟩) hgl').trans c0
      have d1 := (hb.cell (p := ⟨g, off + k * 3 + 1, none⟩) hgl').trans c1
      have d2 := (hb.cell (p := ⟨g, off + k * 3 + 2, none⟩) hgl').trans c2
      obtain ⟨⟨ba, bc, hbv⟩, _⟩ := HY.out p (List.mem_of_getElem? hp)
      rw [hbv] at d2
      rw [drop_at (by rw [List.getElem?_map, hp]; rfl)] at hgo
      have hq : Below (w.heap.size + 1) (w.alloc (.cells #[.string name, .int .i64 valid, .int .i64 next, .slice (some ⟨g, off, none⟩) ps.length cap] 52)) (wr.alloc (.cells #[.int .i64 p.1.uid, .int .u8 (p.1.flags.toNat : Int), .slice ba p.1.bytes.length bc] 79)) := hb.alloc (by simpa using hz) _
      have HQ := Lib.hid hq
      have hzz : w.heap.size < wr.heap.size := by simp at hz; omega
      clear c0 c1 c2 hp hne hgl hbv hz hq
      unfold chkL at hgo
      by_cases h4 : p.1.uid ≤ last ∨ next ≤ p.1.uid
      · rw [if_pos h4] at hgo
        have HGo := Lib.hid hgo
        clear hgo
        by_cases h41 : p.1.uid ≤ last
        · clear h4
          go_wp2
          go_ret
          exact ⟨ret_int HGo.out, below_alloc HQ.out⟩
        · have h42 : next ≤ p.1.uid := by omega
          clear h4
          go_wp2
          go_ret
          exact ⟨ret_int HGo.out, below_alloc HQ.out⟩
      · rw [if_neg h4] at hgo
        have h41 : ¬ p.1.uid ≤ last := fun e => h4 (Or.inl e)
        have h42 : ¬ next ≤ p.1.uid := fun e => h4 (Or.inr e)
        clear h4
        by_cases h2 : 32 ≤ p.1.flags.toNat
        · rw [if_pos h2] at hgo
          have HGo := Lib.hid hgo
          clear hgo
          go_wp2
          go_ret
          exact ⟨ret_int HGo.out, below_alloc HQ.out⟩
        · rw [if_neg h2] at hgo
          by_cases h6 : 600 < p.1.bytes.length
          · rw [if_pos h6] at hgo
            have HGo := Lib.hid hgo
            clear hgo
            go_wp2
            go_ret
            exact ⟨ret_int HGo.out, below_alloc HQ.out⟩
          · rw [if_neg h6] at hgo
            have HGo := Lib.hid hgo
            clear hgo
            go_wp2
            go_roundw
            case rel => exact ⟨k + 1, _, by omega, by go_num, rfl, HGo.out, HQ.out⟩
            case measure => simp [intOf]; omega
    · have hk : k = ps.length := by omega
      subst hk
      rw [List.drop_of_length_le (by simp)] at hgo
      have HGo := Lib.hid hgo
      clear hgo
      go_wp2
      go_ret
      exact ⟨ret_int (by rw [← HGo.out]; rfl), below_alloc hb⟩
end Go.Proofs.YtjljbnilckkjnaaDoor
