/- Deed: the document's reader, its Num and Short -/
import Derived.Test.YtjljbnilckkjnaaDoorGM4
namespace Go.Proofs.YtjljbnilckkjnaaDoor
open Go Go.RowKit

/-- The reader's state: is it off? what is left. -/
abbrev RS := Bool × List UInt8
def rCut (s : RS) (n : Nat) : List UInt8 × RS := if s.1 = true ∨ s.2.length < n then ([], (true, s.2)) else (s.2.take n, (false, s.2.drop n))
def rNum (s : RS) (n : Nat) : Nat × RS := (valN 0 (rCut s n).1, (rCut s n).2)
theorem rCut_bad {s : RS} {n : Nat} (h : s.1 = true ∨ s.2.length < n) : rCut s n = ([], (true, s.2)) := by unfold rCut; rw [if_pos h]
theorem rCut_good {s : RS} {n : Nat} (h : ¬ (s.1 = true ∨ s.2.length < n)) : rCut s n = (s.2.take n, (false, s.2.drop n)) := by unfold rCut; rw [if_neg h]
theorem rCut_len (s : RS) (n : Nat) : (rCut s n).1.length ≤ n ∧ (rCut s n).2.2.length ≤ s.2.length := by
  by_cases h : s.1 = true ∨ s.2.length < n
  · rw [rCut_bad h]; exact ⟨by simp, by simp⟩
  · rw [rCut_good h]; exact ⟨by simp only [List.length_take]; omega, by simp only [List.length_drop]; omega⟩
theorem rNum_lt (s : RS) (n : Nat) : (rNum s n).1 < 256 ^ n := by
  have h1 := valN_bd (rCut s n).1 0
  have h2 := (rCut_len s n).1
  have h3 : 256 ^ (rCut s n).1.length ≤ 256 ^ n := Nat.pow_le_pow_right (by omega) h2
  show valN 0 (rCut s n).1 < _
  omega
/-- A reader in block D. -/
structure Rd (w : World) (D : Nat) (sv : Value) (s : RS) : Prop where
  blk : w.heap[D]? = some (.cells #[sv, .bool s.1] 73 (0, 0))
  byz : Byz w sv s.2
  ne : s.2 ≠ [] → sv.ownBlock ≠ some D
theorem Rd.lt {w : World} {D : Nat} {sv : Value} {s : RS} (h : Rd w D sv s) : D < w.heap.size := (Array.getElem?_eq_some_iff.1 h.blk).1
theorem Rd.fr {o : Nat → Prop} {w w' : World} {D : Nat} {sv : Value} {s : RS} (h : Rd w D sv s) (hf : Fr o w w') (hD : ¬ o D) (hs : ∀ g, sv.ownBlock = some g → s.2 ≠ [] → ¬ o g) : Rd w' D sv s :=
  ⟨(hf.block D h.lt hD).trans h.blk, h.byz.kept hf.size (fun g hg hn => hf.block g (h.byz.lt g hg hn) (hs g hg hn)), h.ne⟩
def CutR (w : World) (D : Nat) (sv : Value) (s : RS) (n : Nat) (e : Ending) (w' : World) : Prop :=
  ∃ pv sv', e = .returned pv ∧ Row w.heap.size w' pv (rCut s n).1 ∧ Rd w' D sv' (rCut s n).2 ∧ sv'.ownBlock = sv.ownBlock ∧ Fr (· = D) w w'
def RNumR (w : World) (D : Nat) (sv : Value) (s : RS) (n : Nat) (e : Ending) (w' : World) : Prop :=
  ∃ sv', e = .returned (.int .i64 ((rNum s n).1 : Int)) ∧ Rd w' D sv' (rNum s n).2 ∧ sv'.ownBlock = sv.ownBlock ∧ Fr (· = D) w w'
theorem own_bytesR (w : World) (v : Value) (l : List UInt8) (hz : Byz w v l) (hl : l.length ≤ 100000) :
    ∃ a c w', (∀ ty, (Builtin.append_ #[26, 26] ty #[.slice (some ⟨w.heap.size, 0, none⟩) 0 0, v]).run Tryd.prog (w.alloc (.cells #[] 5)) = .ok (.slice a l.length c) w') ∧ Row w.heap.size w' (.slice a l.length c) l ∧ Below w.heap.size w w' := by
  obtain ⟨i0, hi0, hz0, hz1, hz2⟩ := info_parts info5g
  have hb1 : Below w.heap.size w (w.alloc (.cells #[] 5)) := (Below.refl _ w).alloc (Nat.le_refl _) _
  have hr := Row.made w 5 [] #[] rfl (Nat.le_refl w.heap.size) (by decide)
  obtain ⟨v', w', hrun, h2, h3, h4⟩ := run_append_src (P := Tryd.prog) (w.alloc (.cells #[] 5)) 26 26 5 i0 Tryd.underlying26 hi0 hz0 hz1 hz2 hr ((hz.below hb1).src Tryd.underlying26) hb1.size (by simp only [List.length_nil]; omega)
  rw [List.nil_append] at h2
  obtain ⟨a, c, rfl, _⟩ := h2.1.shape
  exact ⟨a, c, w', hrun, h2, hb1.grown h3 hb1.size (fun k hk => by simp [Value.ownBlock] at hk; omega)⟩

set_option maxHeartbeats 2000000 in
set_option maxRecDepth 100000 in
theorem cut_bad (w : World) (D : Nat) (sv : Value) (s : RS) (n : Nat) (h : Rd w D sv s) (hl : s.2.length ≤ 9223372036854775807) (hx : s.1 = true ∨ s.2.length < n) :
    Calls Tryd.prog 50 #[.pointer (some ⟨D, 0, none⟩), .int .i64 (n : Int)] w (CutR w D sv s n) := by
  obtain ⟨off, l⟩ := s
  obtain ⟨hblk, hbyz, hne⟩ := h
  simp only at hblk hbyz hne hl hx
  have hDlt := (Array.getElem?_eq_some_iff.1 hblk).1
  have c0 : w.cell? ⟨D, 0, none⟩ = some sv := cell_of_row _ _ _ _ _ _ hblk
  have c1 : w.cell? ⟨D, 1, none⟩ = some (.bool off) := cell_of_row _ _ _ _ _ _ hblk
  have f1 := frozen_of_row w D 1 _ _ hblk
  have hf : Fr (· = D) w (w.setCell ⟨D, 1, none⟩ (.bool true)) := (Fr.refl (· = D) w).setCell ⟨D, 1, none⟩ (Or.inl rfl) _
  have hR : Rd (w.setCell ⟨D, 1, none⟩ (.bool true)) D sv (true, l) := ⟨heap_setCell_same w D 1 _ _ _ hblk, hbyz.kept hf.size (fun g hg hn => hf.block g (hbyz.lt g hg hn) (fun e => hne hn (by rw [hg, e]))), hne⟩
  have HF : Hid (CutR w D sv (off, l) n (.returned (.slice none 0 0)) (w.setCell ⟨D, 1, none⟩ (.bool true))) := Lib.hid (by
    refine ⟨_, sv, rfl, ?_, ?_, rfl, hf⟩
    · rw [rCut_bad hx]; exact Row.nil _ _
    · rw [rCut_bad hx]; exact hR)
  obtain ⟨a, c, rfl⟩ := hbyz.1
  clear hblk hbyz hne hf hR
  by_cases ho : off = true
  · subst ho
    clear hx
    go_enter Tryd.func50, Tryd.ntmps50
    go_wp2
    go_ret
    exact HF.out
  · have ho2 : off = false := by simpa using ho
    subst ho2
    have hn : (l.length : Int) < (n : Int) := by rcases hx with h | h <;> first | (cases h; done) | omega
    clear hx ho
    go_enter Tryd.func50, Tryd.ntmps50
    go_wp2
    go_ret
    exact HF.out
set_option maxHeartbeats 2000000 in
set_option maxRecDepth 100000 in
theorem cut_good (w : World) (D : Nat) (sv : Value) (s : RS) (n : Nat) (h : Rd w D sv s) (hl : s.2.length ≤ 9223372036854775807) (hx : ¬ (s.1 = true ∨ s.2.length < n)) (hn5 : n ≤ 100000) :
    Calls Tryd.prog 50 #[.pointer (some ⟨D, 0, none⟩), .int .i64 (n : Int)] w (CutR w D sv s n) := by
  obtain ⟨off, l⟩ := s
  obtain ⟨hblk, hbyz, hne⟩ := h
  simp only at hblk hbyz hne hl hx
  have hoff : off = false := by
    cases off with
    | false => rfl
    | true => exact absurd (Or.inl rfl) hx
  subst hoff
  have hnl : n ≤ l.length := by omega
  have hDlt := (Array.getElem?_eq_some_iff.1 hblk).1
  obtain ⟨a, c, rfl⟩ := hbyz.1
  have hcl : n ≤ c := by
    by_cases hne : l = []
    · subst hne; simp at hnl; omega
    · obtain ⟨_, _, e, h2, _⟩ := hbyz.2 hne; cases e; omega
  have hlt : (l.take n).length = n := by rw [List.length_take]; omega
  obtain ⟨a1, c1, w1, hrun, hrow, hb1⟩ := own_bytesR w (.slice a n c) (l.take n) (byz_to hbyz hnl) (by omega)
  rw [hlt] at hrun hrow
  have hblk1 := (hb1.block D hDlt).trans hblk
  have c0 : w.cell? ⟨D, 0, none⟩ = some (.slice a l.length c) := cell_of_row _ _ _ _ _ _ hblk
  have cb : w.cell? ⟨D, 1, none⟩ = some (.bool false) := cell_of_row _ _ _ _ _ _ hblk
  have d0 : w1.cell? ⟨D, 0, none⟩ = some (.slice a l.length c) := cell_of_row _ _ _ _ _ _ hblk1
  have f0 := frozen_of_row w1 D 0 _ _ hblk1
  obtain ⟨ad, had⟩ : ∃ ad, (if c = n then a else Option.map (fun x => x.add n) a) = ad := ⟨_, rfl⟩
  have how : (Value.slice ad (l.length - n) (c - n)).ownBlock = (Value.slice a l.length c).ownBlock := by rw [← had]; exact own_from _ _ _ _ _ _ _
  have hby := byz_from (hbyz.below hb1) hnl
  rw [had] at hby
  have hf : Fr (· = D) w1 (w1.setCell ⟨D, 0, none⟩ (.slice ad (l.length - n) (c - n))) := (Fr.refl (· = D) w1).setCell ⟨D, 0, none⟩ (Or.inl rfl) _
  have hneD : l ≠ [] → (Value.slice a l.length c).ownBlock ≠ some D := hne
  have hR : Rd (w1.setCell ⟨D, 0, none⟩ (.slice ad (l.length - n) (c - n))) D (.slice ad (l.length - n) (c - n)) (false, l.drop n) := by
    refine ⟨heap_setCell_same w1 D 0 _ _ _ hblk1, hby.kept hf.size (fun g hg hn2 => hf.block g (hby.lt g hg hn2) (fun e => ?_)), fun hn2 e => ?_⟩
    · rw [how] at hg
      exact hneD (fun e => by subst e; simp at hn2) (by rw [hg, e])
    · rw [how] at e
      exact hneD (fun e => by subst e; simp at hn2) e
  have HF : Hid (CutR w D (.slice a l.length c) (false, l) n (.returned (.slice a1 n c1)) (w1.setCell ⟨D, 0, none⟩ (.slice ad (l.length - n) (c - n)))) := Lib.hid (by
    refine ⟨_, _, rfl, ?_, ?_, how, (Fr.of_below (· = D) hb1).trans hf (fun _ _ h => h) (fun _ _ h => h)⟩
    · rw [rCut_good hx]
      refine hrow.kept hf.size (fun g hg => hf.block g (hrow.1.lt g hg) (fun e => ?_))
      have := row_base hrow g hg
      omega
    · rw [rCut_good hx]; exact hR)
  have HAP := Lib.hid hrun
  have hx' : ¬ (l.length : Int) < (n : Int) := by omega
  have hn0 : (n : Int) ≤ (l.length : Int) := by omega
  have hnc : (n : Int) ≤ (c : Int) := by omega
  clear hblk hbyz hne hf hR hblk1 hrun hrow hb1 how hby hneD hx hlt
  by_cases hcn : c = n
  · rw [if_pos hcn] at had
    subst had
    subst hcn
    rw [Nat.sub_self] at HF
    go_enter Tryd.func50, Tryd.ntmps50
    go_wp2_with (at_builtin; refine wpList_append_run _ rfl _ _ 26 26 rfl _ _ rfl rfl _ w1 HAP.out ?_)
    go_ret
    exact HF.out
  · rw [if_neg hcn] at had
    subst had
    go_enter Tryd.func50, Tryd.ntmps50
    go_wp2_with (at_builtin; refine wpList_append_run _ rfl _ _ 26 26 rfl _ _ rfl rfl _ w1 HAP.out ?_)
    go_ret
    exact HF.out
theorem rcut_any (w : World) (D : Nat) (sv : Value) (s : RS) (n : Nat) (h : Rd w D sv s) (hl : s.2.length ≤ 9223372036854775807) (hn5 : n ≤ 100000) :
    Calls Tryd.prog 50 #[.pointer (some ⟨D, 0, none⟩), .int .i64 (n : Int)] w (CutR w D sv s n) := by
  by_cases hx : s.1 = true ∨ s.2.length < n
  · exact cut_bad w D sv s n h hl hx
  · exact cut_good w D sv s n h hl hx hn5
set_option maxHeartbeats 2000000 in
set_option maxRecDepth 100000 in
theorem rnum_any (w : World) (D : Nat) (sv : Value) (s : RS) (n : Nat) (h : Rd w D sv s) (hl : s.2.length ≤ 9223372036854775807) (hn4 : n ≤ 4) :
    Calls Tryd.prog 49 #[.pointer (some ⟨D, 0, none⟩), .int .i64 (n : Int)] w (RNumR w D sv s n) := by
  have HC := Lib.hid (rcut_any w D sv s n h hl (by omega))
  have hpl := (rCut_len s n).1
  have HN : Hid ((rNum s n).1 = valN 0 (rCut s n).1 ∧ (rNum s n).2 = (rCut s n).2) := Lib.hid ⟨rfl, rfl⟩
  clear h
  go_enter Tryd.func49, Tryd.ntmps49
  go_wp2_with fail
  refine HC.out.mono ?_
  rintro e w1 ⟨pv, sv', rfl, hro, hrd, how, hfr⟩
  have HFIN : Hid (RNumR w D sv s n (.returned (.int .i64 (valN 0 (rCut s n).1 : Int))) w1) := Lib.hid ⟨sv', by rw [HN.out.1], by rw [HN.out.2]; exact hrd, how, hfr⟩
  obtain ⟨p, hp⟩ : ∃ p, (rCut s n).1 = p := ⟨_, rfl⟩
  rw [hp] at hro HFIN hpl
  have HRO := Lib.hid hro.1.z
  obtain ⟨pa, pc, rfl, _⟩ := hro.1.shape
  clear hro hrd how hfr HC HN hp
  go_wp2_with fail
  go_loop [6, 7] (fun vv iv => ∃ k : Nat, k ≤ p.length ∧ iv = .int .i64 (k : Int) ∧ vv = .int .i64 (valN 0 (p.take k) : Int)) (fun _ iv => p.length - (intOf iv).toNat)
  case atStart => exact ⟨0, Nat.zero_le _, rfl, rfl⟩
  case round =>
    obtain ⟨k, hk, rfl, rfl⟩ := hrel
    by_cases hlt : k < p.length
    · obtain ⟨ga, gc, e, h2, _, h4⟩ := HRO.out.2 (fun e => by subst e; simp at hlt)
      injection e with ea _ ec
      subst ea
      subst ec
      have hne : ∃ ad, pa = some ad := by
        cases pa with
        | none => have := (HRO.out.2 (fun e => by subst e; simp at hlt)); obtain ⟨_, _, e', _, h3, _⟩ := this; cases e'; have := h3 rfl; omega
        | some ad => exact ⟨ad, rfl⟩
      obtain ⟨ad, rfl⟩ := hne
      obtain ⟨g, off, rfl, hg, hcs⟩ := h4 ad rfl
      have hc := hcs k hlt
      have hv := valN_bd (p.take k) 0
      have hlen : (p.take k).length = k := by rw [List.length_take]; omega
      rw [hlen] at hv
      have h3 : 256 ^ k ≤ 256 ^ 3 := Nat.pow_le_pow_right (by omega) (by omega)
      have hsn := valN_snoc p k hlt 0
      obtain ⟨v, hvv⟩ : ∃ v, valN 0 (p.take k) = v := ⟨_, rfl⟩
      obtain ⟨b, hbb⟩ : ∃ b, p[k] = b := ⟨_, rfl⟩
      rw [hvv, hbb] at hsn
      rw [hbb] at hc
      rw [hvv] at hv ⊢
      have hb := b.toNat_lt
      have hv1 : (v : Int) ≤ 16777215 := by omega
      have hb1 : (b.toNat : Int) ≤ 255 := by omega
      have hlt' : (k : Int) < (p.length : Int) := by omega
      have HS : Hid (valN 0 (p.take (k + 1)) = 256 * v + b.toNat) := Lib.hid hsn
      clear hsn hvv hbb hv h3 hlen hcs h4 h2
      go_wp2
      go_round
      case rel => exact ⟨k + 1, by omega, by go_num, by rw [HS.out]; congr 1⟩
      case measure => simp [intOf]; omega
    · have hlt' : ¬ (k : Int) < (p.length : Int) := by omega
      have HX : Hid (p.take k = p) := Lib.hid (List.take_of_length_le (by omega))
      rw [HX.out]
      have HP := Lib.hid HFIN.out
      generalize valN 0 p = v at *
      clear hlt HX
      go_wp2
      go_ret
      exact HP.out
end Go.Proofs.YtjljbnilckkjnaaDoor
namespace Go.Proofs.YtjljbnilckkjnaaDoor
open Go Go.RowKit

theorem row_down7 {B B' : Nat} {w : World} {v : Value} {l : List UInt8} (h : Row B w v l) (hB : B' ≤ B) : Row B' w v l := ⟨h.1, fun ad n c e => by obtain ⟨a1, a2, a3⟩ := h.2 ad n c e; exact ⟨by omega, a2, a3⟩⟩
theorem numL_step (i n : Nat) : UInt8.ofNat (n / 256 ^ i % 256) :: numL i n = numL (i + 1) n := by
  rw [numL]
  congr 1
  apply UInt8.toNat_inj.1
  simp only [UInt8.toNat_ofNat']
  omega
set_option maxHeartbeats 4000000 in
set_option maxRecDepth 100000 in
theorem refNum (B : Nat) (w : World) (v : Value) (l : List UInt8) (n size : Nat) (hv : Row B w v l) (hB : B ≤ w.heap.size) (hs : size ≤ 4) (hn : n ≤ 4294967295) (hlen : l.length ≤ 140000000000000) :
    Calls Tryd.prog 54 #[v, .int .i64 (n : Int), .int .i64 (size : Int)] w (PutR B w v (l ++ numL size n)) := by
  obtain ⟨i0, hi, hz0, hz1, hz2⟩ := info_parts info5g
  have HV := Lib.hid hv
  have HB := Lib.hid hB
  have hb0 : Below w.heap.size w (w.alloc (.cells #[] 5)) := (Below.refl _ w).alloc (Nat.le_refl _) _
  have hr0 : Row w.heap.size (w.alloc (.cells #[] 5)) (.slice (some ⟨w.heap.size, 0, none⟩) 0 0) [] := Row.made w 5 [] #[] rfl (Nat.le_refl w.heap.size) (by decide)
  obtain ⟨w1, hw1⟩ : ∃ w1, w1 = w.alloc (.cells #[] 5) := ⟨_, rfl⟩
  rw [← hw1] at hb0 hr0
  have HB0 := Lib.hid hb0
  have HR0 := Lib.hid hr0
  have HW1 := Lib.hid (show w.alloc (.cells #[] 5) = w1 from hw1.symm)
  have HN := Lib.hid hn
  clear hv hb0 hr0 hw1 hB
  go_enter Tryd.func54, Tryd.ntmps54
  go_wp2_with (first | rw [HW1.out])
  go_loopw [1, 7, 8] (fun vv xv iv wr => ∃ i : Nat, i ≤ size ∧ iv = .int .i64 (i : Int) ∧ vv = .int .i64 ((n / 256 ^ i : Nat) : Int) ∧ Hid (Row w.heap.size wr xv (numL i n) ∧ Below w.heap.size w wr)) (fun _ _ iv _ => size - (intOf iv).toNat)
  case atStart => exact ⟨0, Nat.zero_le _, rfl, by rw [Nat.pow_zero, Nat.div_one], Lib.hid ⟨HR0.out, HB0.out⟩⟩
  case round =>
    clear HR0 HB0
    obtain ⟨i, hi2, rfl, rfl, hH⟩ := hrel
    obtain ⟨hrow, hbw⟩ := hH.out
    by_cases hlt : i < size
    · have hlt' : (i : Int) < (size : Int) := by omega
      have hq : n / 256 ^ i ≤ 4294967295 := Nat.le_trans (Nat.div_le_self _ _) hn
      have hdiv : n / 256 ^ i / 256 = n / 256 ^ (i + 1) := by rw [Nat.div_div_eq_div_mul, Nat.pow_succ]
      have hst := numL_step i n
      obtain ⟨q, hqq⟩ : ∃ q, n / 256 ^ i = q := ⟨_, rfl⟩
      rw [hqq] at hq hdiv hst ⊢
      have hc : ((UInt8.ofNat (q % 256)).toNat : Int) = (q : Int) % 256 := by
        have : (UInt8.ofNat (q % 256)).toNat = q % 256 := by simp only [UInt8.toNat_ofNat']; omega
        rw [this]; omega
      obtain ⟨y, hy⟩ : ∃ y, y = wr.alloc (.cells #[.int .u8 ((q : Int) % 256)] 5) := ⟨_, rfl⟩
      have hby : Below wr.heap.size wr y := by rw [hy]; exact (Below.refl _ wr).alloc (Nat.le_refl _) _
      have hry : Row wr.heap.size y (.slice (some ⟨wr.heap.size, 0, none⟩) 1 1) [UInt8.ofNat (q % 256)] := by
        rw [hy]
        exact Row.made wr 5 [UInt8.ofNat (q % 256)] #[.int .u8 ((q : Int) % 256)] (by simp [hc]) (Nat.le_refl _) (by unfold maxLen; simp)
      have hnl := numL_len i n
      obtain ⟨v', w', hrun, hro, hgr, hnn⟩ := run_append_src (P := Tryd.prog) y 26 26 5 i0 Tryd.underlying26 hi hz0 hz1 hz2 hry ((hrow.1.z.below hby).src Tryd.underlying26) hby.size (by simp only [List.length_singleton]; omega)
      rw [List.singleton_append, hst] at hro
      have hbf : Below wr.heap.size wr w' := hby.grown hgr hby.size (fun k hk => by simp [Value.ownBlock] at hk; omega)
      have HREL := Lib.hid (And.intro (row_down7 hro hbw.size) (hbw.trans (hbf.mono hbw.size)))
      have HAP := Lib.hid hrun
      have HY := Lib.hid (show wr.alloc (.cells #[.int .u8 ((q : Int) % 256)] 5) = y from hy.symm)
      have HDV := Lib.hid hdiv
      obtain ⟨xa, xc, hxv, _⟩ := hrow.1.shape
      subst hxv
      have hq0 : (0 : Int) ≤ (q : Int) := by omega
      have hq1 : (q : Int) ≤ 4294967295 := by omega
      clear hst hqq hc hby hry hrun hro hgr hnn hbf hrow hbw hH hy hdiv hnl
      go_wp2_with (first | rw [HY.out] | (at_builtin; refine wpList_append_run _ rfl _ _ 26 26 rfl _ _ rfl rfl _ w' HAP.out ?_))
      go_roundw
      case rel => exact ⟨i + 1, by omega, by go_num, by rw [← HDV.out]; go_num, Lib.hid HREL.out⟩
      case measure => simp [intOf]; omega
    · have hii : i = size := by omega
      subst hii
      have hlt' : ¬ (i : Int) < (i : Int) := by omega
      have hvr := Row.below HV.out hbw
      have hnl := numL_len i n
      obtain ⟨v', w', hrun, hro, hgr, hnn⟩ := run_append_src (P := Tryd.prog) wr 26 26 5 i0 Tryd.underlying26 hi hz0 hz1 hz2 hvr (hrow.1.z.src Tryd.underlying26) (by have := HB.out; have := hbw.size; omega) (by omega)
      have HG := Lib.hid ((Gr.ofBelow hbw).trans (Gr.of hgr hnn) : Gr w w' v v')
      have HRO := Lib.hid hro
      have HAP := Lib.hid hrun
      clear hvr hnl hrun hro hgr hnn hbw hrow hH
      go_wp2_with (at_builtin; refine wpList_append_run _ rfl _ _ 26 26 rfl _ _ rfl rfl _ w' HAP.out ?_)
      go_ret
      exact ⟨_, rfl, HRO.out, HG.out⟩
set_option maxHeartbeats 1000000 in
set_option maxRecDepth 100000 in
theorem refShort (B : Nat) (w : World) (v : Value) (l : List UInt8) (s : ByteArray) (hv : Row B w v l) (hB : B ≤ w.heap.size) (hs : s.size ≤ 4294967295) (hlen : l.length ≤ 130000000000000) :
    Calls Tryd.prog 55 #[v, .string s] w (PutR B w v (l ++ textL s)) := by
  obtain ⟨i0, hi, hz0, hz1, hz2⟩ := info_parts info5g
  have HN := Lib.hid (refNum B w v l s.size 1 hv hB (by omega) hs (by omega))
  clear hv
  go_enter Tryd.func55, Tryd.ntmps55
  go_wp2_with fail
  refine HN.out.mono ?_
  rintro e w1 ⟨v1, rfl, hro, hg⟩
  have hsz := hg.size
  obtain ⟨v', w', hr, hro2, hgr, hn⟩ := run_append_string (P := Tryd.prog) w1 26 9 5 i0 Tryd.underlying26 Tryd.underlying9 hi hz0 hz1 hz2 s hro (by omega) (by rw [List.length_append, numL_len]; omega)
  have HAP := Lib.hid hr
  have HR := Lib.hid hro2
  have HG := Lib.hid (hg.trans (Gr.of hgr hn))
  clear hr hro2 hgr hn hro hg HN
  go_wp2_with (at_builtin; refine wpList_append_run _ rfl _ _ 26 9 rfl _ _ rfl rfl _ w' HAP.out ?_)
  go_ret
  exact ⟨_, rfl, by unfold textL; rw [← List.append_assoc]; exact HR.out, HG.out⟩
end Go.Proofs.YtjljbnilckkjnaaDoor
