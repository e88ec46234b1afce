/- Deed: which kinds a deed is of; a reader's letter; letters and boxes owned. -/
import Derived.Test.YtjljbnilckkjnaaDoorG12
namespace Go.Proofs.YtjljbnilckkjnaaDoor
open Go Go.RowKit

/-- Numbers that stand in block g. -/
def Nums (w : World) (g : Nat) (l : List Int) : Prop := ∀ i x, l[i]? = some x → w.cell? ⟨g, i, none⟩ = some (.int .i64 x)
def idxI (f : Int → Bool) : Nat → List Int → Int
  | _, [] => -1
  | k, x :: t => if f x = true then (k : Int) else idxI f (k + 1) t
theorem idxI_any (f : Int → Bool) : ∀ (l : List Int) (k : Nat), decide (0 ≤ idxI f k l) = l.any f
  | [], _ => rfl
  | x :: t, k => by
    unfold idxI
    cases h : f x with
    | true => simp [h]
    | false => simpa [h] using idxI_any f t (k + 1)
theorem drop_ati {α : Type} {l : List α} {k : Nat} {x : α} (h : l[k]? = some x) : l.drop k = x :: l.drop (k + 1) := by
  obtain ⟨hk, rfl⟩ := List.getElem?_eq_some_iff.1 h
  exact List.drop_eq_getElem_cons hk
theorem ret_int1 {k : IntKind} {a b : Int} (h : a = b) : Ending.returned (.int k a) = .returned (.int k b) := by rw [h]
set_option maxHeartbeats 1000000 in
set_option maxRecDepth 100000 in
theorem indexDo (w : World) (g c : Nat) (l : List Int) (act : Int) (h : Nums w g l) (hl : l.length ≤ 1000) :
    Calls Tryd.prog 69 #[.slice (some ⟨g, 0, none⟩) l.length c, .int .i64 act] w fun e w' => e = .returned (.int .i64 (idxI (fun x => act == x) 0 l)) ∧ w = w' := by
  have H := Lib.hid h
  generalize hF : idxI (fun x => act == x) 0 l = F
  have HF := Lib.hid hF
  clear h hF
  go_enter Tryd.func69, Tryd.ntmps69
  go_wp2
  go_loop [8] (fun i => ∃ k : Nat, k ≤ l.length ∧ i = .int .i64 (k : Int) ∧ Hid (idxI (fun x => act == x) k (l.drop k) = F)) (fun i => l.length - (intOf i).toNat)
  case atStart => exact ⟨0, Nat.zero_le _, rfl, HF⟩
  case round =>
    obtain ⟨k, hk, rfl, hgo⟩ := hrel
    by_cases hlt : k < l.length
    · obtain ⟨x, hx⟩ : ∃ x, l[k]? = some x := ⟨_, List.getElem?_eq_getElem hlt⟩
      have hc := H.out k x hx
      have hg := hgo.out
      rw [drop_ati hx, idxI] at hg
      have hlt' : (k : Int) < (l.length : Int) := by omega
      clear hx
      cases he : (act == x) with
      | true =>
        rw [he] at hg
        have HG : Hid ((k : Int) = F) := Lib.hid (by simpa using hg)
        clear hg hgo
        go_wp2
        go_ret
        exact ⟨ret_int1 HG.out, rfl⟩
      | false =>
        rw [he] at hg
        have HG : Hid (idxI (fun x => act == x) (k + 1) (l.drop (k + 1)) = F) := Lib.hid (by simpa using hg)
        clear hg hgo
        go_wp2
        go_round
        case rel => exact ⟨k + 1, by omega, by go_num, HG⟩
        case measure => simp [intOf]; omega
    · have hkl : k = l.length := by omega
      subst hkl
      have hg := hgo.out
      rw [List.drop_length, idxI] at hg
      have HG := Lib.hid hg
      have hlt' : ¬ (l.length : Int) < (l.length : Int) := by omega
      clear hg hgo
      go_wp2
      go_ret
      exact ⟨ret_int1 HG.out, rfl⟩
set_option maxHeartbeats 1000000 in
set_option maxRecDepth 100000 in
theorem containsDo (w : World) (g c : Nat) (l : List Int) (act : Int) (h : Nums w g l) (hl : l.length ≤ 1000) :
    Calls Tryd.prog 37 #[.slice (some ⟨g, 0, none⟩) l.length c, .int .i64 act] w fun e w' => e = .returned (.bool (l.any (fun x => act == x))) ∧ w = w' := by
  have HC := Lib.hid (indexDo w g c l act h hl)
  have HA := Lib.hid (idxI_any (fun x => act == x) l 0)
  generalize idxI (fun x => act == x) 0 l = F at *
  clear h
  go_enter Tryd.func37, Tryd.ntmps37
  go_wp2_with fail
  refine HC.out.mono ?_
  rintro e w1 ⟨rfl, rfl⟩
  go_wp2
  go_ret
  exact ⟨ret_bool HA.out, rfl⟩
set_option maxHeartbeats 1000000 in
set_option maxRecDepth 100000 in
theorem doesDo (w : World) (g c b : Nat) (l : List Int) (act : Int) (h : Nums w g l) (hl : l.length ≤ 1000) (hc : w.cell? ⟨b, 0, none⟩ = some (.int .i64 act)) :
    Calls Tryd.prog 36 #[.slice (some ⟨g, 0, none⟩) l.length c, .pointer (some ⟨b, 0, none⟩)] w fun e w' => e = .returned (.bool (l.any (fun x => act == x))) ∧ w = w' := by
  have HC := Lib.hid (containsDo w g c l act h hl)
  generalize l.any (fun x => act == x) = F at *
  clear h
  go_enter Tryd.func36, Tryd.ntmps36
  go_wp2_with fail
  refine HC.out.mono ?_
  rintro e w1 ⟨rfl, rfl⟩
  go_wp2
  go_ret
  exact ⟨rfl, rfl⟩
/-- Is a number what is asked for, or 0? -/
def cntB (n : Int) (asked : Bool) (lo hi : Int) : Bool := if asked = true then decide (lo ≤ n) && decide (n ≤ hi) else decide (n = 0)
set_option maxHeartbeats 1000000 in
set_option maxRecDepth 100000 in
theorem counts_any (n : Int) (asked : Bool) (lo hi : Int) (w : World) :
    Calls Tryd.prog 39 #[.int .i64 n, .bool asked, .int .i64 lo, .int .i64 hi] w fun e w' => e = .returned (.bool (cntB n asked lo hi)) ∧ w = w' := by
  cases asked with
  | false =>
    have HX : Hid (cntB n false lo hi = decide (n = 0)) := Lib.hid rfl
    go_enter Tryd.func39, Tryd.ntmps39
    go_wp2
    go_ret
    exact ⟨ret_bool (by rw [HX.out, Bool.eq_iff_iff] <;> simp), rfl⟩
  | true =>
    have HX : Hid (cntB n true lo hi = (decide (lo ≤ n) && decide (n ≤ hi))) := Lib.hid rfl
    by_cases h : lo ≤ n
    · by_cases h2 : n ≤ hi
      · go_enter Tryd.func39, Tryd.ntmps39
        go_wp2
        go_ret
        exact ⟨ret_bool (by rw [HX.out, decide_eq_true h, decide_eq_true h2] <;> rfl), rfl⟩
      · have HY : Hid (cntB n true lo hi = false) := Lib.hid (by rw [HX.out, decide_eq_true h, decide_eq_false h2]; rfl)
        have h2' : decide (n ≤ hi) = false := decide_eq_false h2
        go_enter Tryd.func39, Tryd.ntmps39
        go_wp2
        go_ret
        exact ⟨ret_bool (by rw [HY.out] <;> first | rfl | exact h2'), rfl⟩
    · have HY : Hid (cntB n true lo hi = false) := Lib.hid (by rw [HX.out, decide_eq_false h]; rfl)
      go_enter Tryd.func39, Tryd.ntmps39
      go_wp2
      go_ret
      exact ⟨ret_bool (by rw [HY.out] <;> rfl), rfl⟩
/-- Is a box's name what is asked for, or empty? -/
def nmB (s : ByteArray) (asked : Bool) : Bool := if asked = true then rightX s else decide (s.size = 0)
set_option maxHeartbeats 1000000 in
set_option maxRecDepth 100000 in
theorem names_any (s : ByteArray) (asked : Bool) (w : World) (hT : Tabs w) :
    Calls Tryd.prog 38 #[.string s, .bool asked] w fun e w' => e = .returned (.bool (nmB s asked)) ∧ Below w.heap.size w w' := by
  cases asked with
  | true =>
    have HR := Lib.hid (rightBox_any s w hT)
    have HX : Hid (nmB s true = rightX s) := Lib.hid rfl
    generalize rightX s = R at *
    go_enter Tryd.func38, Tryd.ntmps38
    go_wp2_with fail
    refine HR.out.mono ?_
    rintro e w1 ⟨rfl, hb⟩
    go_wp2
    go_ret
    exact ⟨ret_bool HX.out.symm, hb⟩
  | false =>
    by_cases h0 : s.size = 0
    · have he := empty_nil s h0
      have HX : Hid (nmB s false = true) := Lib.hid (by unfold nmB; rw [if_neg (by simp)]; exact decide_eq_true h0)
      clear h0
      go_enter Tryd.func38, Tryd.ntmps38
      go_wp2
      go_ret
      exact ⟨ret_bool HX.out.symm, Below.refl _ _⟩
    · have he := empty_iff s h0
      have HX : Hid (nmB s false = false) := Lib.hid (by unfold nmB; rw [if_neg (by simp)]; exact decide_eq_false h0)
      clear h0
      go_enter Tryd.func38, Tryd.ntmps38
      go_wp2
      go_ret
      exact ⟨ret_bool HX.out.symm, Below.refl _ _⟩
end Go.Proofs.YtjljbnilckkjnaaDoor
namespace Go.Proofs.YtjljbnilckkjnaaDoor
open Go Go.RowKit

def letP (l : List UInt8) : Option (Letr × List UInt8) :=
  (numP 4 l).bind fun a0 => (numP 1 a0.2).bind fun a1 => (bodyP a1.2).bind fun a2 => some (⟨(a0.1 : Int), UInt8.ofNat a1.1, a2.1⟩, a2.2)
/-- A letter that is told; its bytes are from block B on. -/
def letVd (x : Letr) (pv : Value) : Value := .agg #[.int .i64 x.uid, .int .u8 (x.flags.toNat : Int), pv]
def IsLet (B : Nat) (x : Letr) (v : Value) (w : World) : Prop := ∃ pv, v = letVd x pv ∧ Row B w pv x.bytes
/-- The letter's own variable, while it is read. -/
structure Var3 (w : World) (b : Nat) (C : Array Value) : Prop where
  res : w.heap[b]? = some (.cells #[.int .i64 0, .int .u8 0, .slice none 0 0] 79 (0, 0))
  var : w.heap[b + 1]? = some (.cells C 79 (0, 0))
theorem Var3.lt {w : World} {b : Nat} {C : Array Value} (h : Var3 w b C) : b + 1 < w.heap.size := (Array.getElem?_eq_some_iff.1 h.var).1
theorem Var3.fr {w w' : World} {b D : Nat} {C : Array Value} (h : Var3 w b C) (hf : Fr (· = D) w w') (hD : D < b) : Var3 w' b C :=
  ⟨(hf.block b (by have := h.lt; omega) (by omega)).trans h.res, (hf.block (b + 1) h.lt (by omega)).trans h.var⟩
theorem Var3.set {w : World} {b : Nat} {C : Array Value} (h : Var3 w b C) (j : Nat) (v : Value) : Var3 (w.setCell ⟨b + 1, j, none⟩ v) b (C.setIfInBounds j v) :=
  ⟨(heap_setCell_other w ⟨b + 1, j, none⟩ b v (by simp)).trans h.res, heap_setCell_same w (b + 1) j _ _ v h.var⟩
theorem Var3.cell {w : World} {b : Nat} {C : Array Value} (h : Var3 w b C) (j : Nat) : w.cell? ⟨b + 1, j, none⟩ = C[j]? := cell_of_row _ _ _ _ _ _ h.var
theorem Var3.free {w : World} {b : Nat} {C : Array Value} (h : Var3 w b C) (j : Nat) : w.frozen? ⟨b + 1, j, none⟩ = false := frozen_of_row _ _ _ _ _ h.var
theorem rdr_set3 {w : World} {b D : Nat} {sv : Value} {l : List UInt8} (h : Rdr w D sv l) (hD : D < b) (hs : ∀ g, sv.ownBlock = some g → l ≠ [] → g < b) (j : Nat) (v : Value) : Rdr (w.setCell ⟨b + 1, j, none⟩ v) D sv l :=
  ⟨(heap_setCell_other w ⟨b + 1, j, none⟩ D v (by simp; omega)).trans h.blk, h.byz.kept (by simp [World.setCell]) (fun g hg hn => heap_setCell_other w ⟨b + 1, j, none⟩ g v (by have := hs g hg hn; simp; omega)), h.ne⟩

set_option maxHeartbeats 8000000 in
set_option maxRecDepth 100000 in
theorem letter_any (w : World) (D : Nat) (sv : Value) (l : List UInt8) (h : Rdr w D sv l) (hl : l.length ≤ 9223372036854775807) :
    Calls Tryd.prog 74 #[.pointer (some ⟨D, 0, none⟩)] w (ParR w D sv (letP l) (IsLet w.heap.size)) := by
  have hDlt := h.lt
  have hsvl : ∀ g, sv.ownBlock = some g → l ≠ [] → g < w.heap.size := h.byz.lt
  have hob : ∀ g, sv.ownBlock = some g → l ≠ [] → g ≠ D := fun g hg hn e => h.ne hn (by rw [hg, e])
  obtain ⟨T, hT⟩ : ∃ T, letP l = T := ⟨_, rfl⟩
  rw [hT]
  unfold letP at hT
  have HT0 := Lib.hid hT
  obtain ⟨y0, hy0⟩ : ∃ y0, y0 = (w.alloc (.cells #[.int .i64 0, .int .u8 0, .slice none 0 0] 79)).alloc (.cells #[.int .i64 0, .int .u8 0, .slice none 0 0] 79) := ⟨_, rfl⟩
  have hb0 : Below w.heap.size w y0 := by rw [hy0]; exact ((Below.refl _ w).alloc (Nat.le_refl _) _).alloc (by simp) _
  have hv0 : Var3 y0 w.heap.size #[.int .i64 0, .int .u8 0, .slice none 0 0] := by
    rw [hy0]
    refine ⟨?_, ?_⟩
    · exact (((Below.refl _ (w.alloc (.cells #[.int .i64 0, .int .u8 0, .slice none 0 0] 79))).alloc (Nat.le_refl _) (.cells #[.int .i64 0, .int .u8 0, .slice none 0 0] 79)).block w.heap.size (by simp)).trans (heap_alloc_new w _)
    · have := heap_alloc_new (w.alloc (.cells #[.int .i64 0, .int .u8 0, .slice none 0 0] 79)) (.cells #[.int .i64 0, .int .u8 0, .slice none 0 0] 79)
      simpa using this
  have hr0 : Rdr y0 D sv l := ⟨(hb0.block D hDlt).trans h.blk, h.byz.below hb0, h.ne⟩
  have hf0 : Fr (· = D) w y0 := Fr.of_below _ hb0
  have V0 := Lib.hid hv0
  have R0 := Lib.hid hr0
  have F0 := Lib.hid hf0
  have HY0 := Lib.hid (show (w.alloc (.cells #[.int .i64 0, .int .u8 0, .slice none 0 0] 79)).alloc (.cells #[.int .i64 0, .int .u8 0, .slice none 0 0] 79) = y0 from hy0.symm)
  have HSV := Lib.hid hsvl
  have hl0 : l.length ≤ 9223372036854775807 := hl
  clear hT hy0 hb0 hv0 hr0 hf0 hsvl hob h
  have HC0 := Lib.hid (number_any y0 D sv l 4 R0.out (by omega) (by omega))
  go_enter Tryd.func74, Tryd.ntmps74
  go_wp2_with (first | rw [HY0.out])
  refine HC0.out.mono ?_
  rintro e u0 (⟨hr, rfl, hf⟩ | ⟨x0, l1, v0, s1, hr, rfl, hv, hd, ho, hf⟩)
  · have HE : Hid (T = none) := Lib.hid (by rw [← HT0.out, hr]; rfl)
    have HF := Lib.hid (F0.out.trans hf (fun _ _ h => h) (fun _ _ h => h))
    clear hr hf HT0 HC0 F0 V0 R0
    go_wp2
    exact ⟨rfl, ParR.bad HE.out HF.out⟩
  · have hT := HT0.out
    rw [hr] at hT
    rw [Option.bind_some] at hT
    dsimp only at hT
    have HT1 := Lib.hid hT
    obtain ⟨hll0, hxx0⟩ := numP_len hr
    have hvf := (V0.out.fr hf hDlt)
    unfold IsNum at hv
    subst hv
    have hoo : s1.ownBlock = sv.ownBlock := ho
    have hso : ∀ g, s1.ownBlock = some g → l1 ≠ [] → g < w.heap.size := fun g hg hn => HSV.out g (by rw [← hoo]; exact hg) (fun e => by subst e; have : l1 = [] := List.eq_nil_of_length_eq_zero (by simp only [List.length_nil] at *; omega); exact hn this)
    obtain ⟨y1, hy1⟩ : ∃ y1, (u0.setCell ⟨w.heap.size + 1, 0, none⟩ (.int .i64 (x0 : Int))) = y1 := ⟨_, rfl⟩
    have V1 : Hid (Var3 y1 w.heap.size (#[.int .i64 (x0 : Int), .int .u8 0, .slice none 0 0])) := Lib.hid (by rw [← hy1]; exact hvf.set 0 (.int .i64 (x0 : Int)))
    have R1 : Hid (Rdr y1 D s1 l1) := Lib.hid (by rw [← hy1]; exact rdr_set3 hd hDlt hso 0 (.int .i64 (x0 : Int)))
    have F1 : Hid (Fr (· = D) w y1) := Lib.hid (by rw [← hy1]; exact (F0.out.trans hf (fun _ _ h => h) (fun _ _ h => h)).setCell ⟨w.heap.size + 1, 0, none⟩ (Or.inr (Nat.le_succ _)) _)
    have HO1 := Lib.hid hoo
    have HY1 := Lib.hid hy1
    have cc0 : u0.cell? ⟨w.heap.size + 1, 0, none⟩ = some (.int .i64 0) := hvf.cell 0
    have ff0 := hvf.free 0
    clear hT hr hvf hd ho hoo hf hso hy1 HT0 HC0 F0 V0 R0 HY0
    have HC1 := Lib.hid (number_any y1 D s1 l1 1 R1.out (by omega) (by omega))
    go_wp2_with (first | rw [HY1.out])
    refine HC1.out.mono ?_
    rintro e u1 (⟨hr, rfl, hf⟩ | ⟨x1, l2, v1, s2, hr, rfl, hv, hd, ho, hf⟩)
    · have HE : Hid (T = none) := Lib.hid (by rw [← HT1.out, hr]; rfl)
      have HF := Lib.hid (F1.out.trans hf (fun _ _ h => h) (fun _ _ h => h))
      clear hr hf HT1 HC1 F1 V1 R1
      go_wp2
      exact ⟨rfl, ParR.bad HE.out HF.out⟩
    · have hT := HT1.out
      rw [hr] at hT
      rw [Option.bind_some] at hT
      dsimp only at hT
      have HT2 := Lib.hid hT
      obtain ⟨hll1, hxx1⟩ := numP_len hr
      have hvf := (V1.out.fr hf hDlt)
      unfold IsNum at hv
      subst hv
      have hoo : s2.ownBlock = sv.ownBlock := ho.trans HO1.out
      have hso : ∀ g, s2.ownBlock = some g → l2 ≠ [] → g < w.heap.size := fun g hg hn => HSV.out g (by rw [← hoo]; exact hg) (fun e => by subst e; have : l2 = [] := List.eq_nil_of_length_eq_zero (by simp only [List.length_nil] at *; omega); exact hn this)
      obtain ⟨y2, hy2⟩ : ∃ y2, (u1.setCell ⟨w.heap.size + 1, 1, none⟩ (.int .u8 (x1 : Int))) = y2 := ⟨_, rfl⟩
      have V2 : Hid (Var3 y2 w.heap.size (#[.int .i64 (x0 : Int), .int .u8 (x1 : Int), .slice none 0 0])) := Lib.hid (by rw [← hy2]; exact hvf.set 1 (.int .u8 (x1 : Int)))
      have R2 : Hid (Rdr y2 D s2 l2) := Lib.hid (by rw [← hy2]; exact rdr_set3 hd hDlt hso 1 (.int .u8 (x1 : Int)))
      have F2 : Hid (Fr (· = D) w y2) := Lib.hid (by rw [← hy2]; exact (F1.out.trans hf (fun _ _ h => h) (fun _ _ h => h)).setCell ⟨w.heap.size + 1, 1, none⟩ (Or.inr (Nat.le_succ _)) _)
      have HO2 := Lib.hid hoo
      have HY2 := Lib.hid hy2
      have cc1 : u1.cell? ⟨w.heap.size + 1, 1, none⟩ = some (.int .u8 0) := hvf.cell 1
      have ff1 := hvf.free 1
      clear hT hr hvf hd ho hoo hf hso hy2 HT1 HC1 F1 V1 R1 HY1 cc0 ff0
      have HC2 := Lib.hid (body_any y2 D s2 l2 R2.out (by omega))
      go_wp2_with (first | rw [HY2.out])
      refine HC2.out.mono ?_
      rintro e u2 (⟨hr, rfl, hf⟩ | ⟨x2, l3, v2, s3, hr, rfl, hv, hd, ho, hf⟩)
      · have HE : Hid (T = none) := Lib.hid (by rw [← HT2.out, hr]; rfl)
        have HF := Lib.hid (F2.out.trans hf (fun _ _ h => h) (fun _ _ h => h))
        clear hr hf HT2 HC2 F2 V2 R2
        go_wp2
        exact ⟨rfl, ParR.bad HE.out HF.out⟩
      · have hT := HT2.out
        rw [hr] at hT
        rw [Option.bind_some] at hT
        dsimp only at hT
        have HT3 := Lib.hid hT
        obtain ⟨hll2, hxx2⟩ := body_len hr
        have hvf := (V2.out.fr hf hDlt)
        have hrow : Row y2.heap.size u2 v2 x2 := hv
        obtain ⟨pa, pc, hpv, _⟩ := hrow.1.shape
        subst hpv
        have hu2 := (F2.out.trans hf (fun _ _ h => h) (fun _ _ h => h))
        obtain ⟨y3, hy3⟩ : ∃ y3, u2.setCell ⟨w.heap.size + 1, 2, none⟩ (.slice pa x2.length pc) = y3 := ⟨_, rfl⟩
        have V3b : Var3 y3 w.heap.size #[.int .i64 (x0 : Int), .int .u8 (x1 : Int), .slice pa x2.length pc] := by rw [← hy3]; exact hvf.set 2 _
        have hF3 : Fr (· = D) w (y3.setRow w.heap.size #[.int .i64 (x0 : Int), .int .u8 (x1 : Int), .slice pa x2.length pc]) := by
          rw [← hy3]
          have hf1 := hu2.setCell ⟨w.heap.size + 1, 2, none⟩ (Or.inr (Nat.le_succ _)) (.slice pa x2.length pc)
          exact ⟨hf1.os, hf1.tape, hf1.output, by rw [setRow_size]; exact hf1.size, fun k hk hn => (setRow_other _ _ _ _ (by omega)).trans (hf1.block k hk hn)⟩
        have hso : ∀ g, s3.ownBlock = some g → l3 ≠ [] → g < w.heap.size := fun g hg hn => HSV.out g (by rw [← HO2.out, ← ho]; exact hg) (fun e => by subst e; have : l3 = [] := List.eq_nil_of_length_eq_zero (by simp only [List.length_nil] at *; omega); exact hn this)
        have hR3 : Rdr (y3.setRow w.heap.size #[.int .i64 (x0 : Int), .int .u8 (x1 : Int), .slice pa x2.length pc]) D s3 l3 := by
          rw [← hy3]
          have h1 := rdr_set3 hd hDlt hso 2 (.slice pa x2.length pc)
          exact ⟨(setRow_other _ _ _ _ (by omega)).trans h1.blk, h1.byz.kept (by rw [setRow_size]; exact Nat.le_refl _) (fun g hg hn => setRow_other _ _ _ _ (by have := hso g hg hn; omega)), h1.ne⟩
        have hs2 := F2.out.size
        have hv2 := V2.out.lt
        have hROW : Row w.heap.size (y3.setRow w.heap.size #[.int .i64 (x0 : Int), .int .u8 (x1 : Int), .slice pa x2.length pc]) (.slice pa x2.length pc) x2 := by
          rw [← hy3]
          have hb : ∀ g, (Value.slice pa x2.length pc).ownBlock = some g → w.heap.size + 2 ≤ g := fun g hg => by
            cases pa with
            | none => simp [Value.ownBlock] at hg
            | some ad =>
              have := (hrow.2 ad _ _ rfl).1
              simp [Value.ownBlock] at hg
              omega
          have hk := hrow.kept (w' := (u2.setCell ⟨w.heap.size + 1, 2, none⟩ (.slice pa x2.length pc)).setRow w.heap.size #[.int .i64 (x0 : Int), .int .u8 (x1 : Int), .slice pa x2.length pc]) (by rw [setRow_size]; simp [World.setCell]) (fun g hg => (setRow_other _ _ _ _ (by have := hb g hg; omega)).trans (heap_setCell_other _ _ _ _ (by have := hb g hg; simp; omega)))
          exact ⟨hk.1, fun ad n cap e => by obtain ⟨a1, a2, a3⟩ := hk.2 ad n cap e; exact ⟨by omega, a2, a3⟩⟩
        have hTT : T = some (⟨(x0 : Int), UInt8.ofNat x1, x2⟩, l3) := hT.symm
        have hfl6 : (UInt8.ofNat x1).toNat = x1 := by have := byte_num x1; omega
        have HFIN : Hid (ParR w D sv T (IsLet w.heap.size) (.returned (.agg #[.int .i64 (x0 : Int), .int .u8 (x1 : Int), .slice pa x2.length pc])) (y3.setRow w.heap.size #[.int .i64 (x0 : Int), .int .u8 (x1 : Int), .slice pa x2.length pc])) := Lib.hid (ParR.good hTT ⟨_, by unfold letVd; simp only [hfl6], hROW⟩ hR3 (ho.trans HO2.out) hF3)
        have cc2 : u2.cell? ⟨w.heap.size + 1, 2, none⟩ = some (.slice none 0 0) := hvf.cell 2
        have ff2 := hvf.free 2
        have HV3 := Lib.hid V3b
        have HY3 := Lib.hid hy3
        have hsr := setRow_heap y3 w.heap.size _ #[.int .i64 (x0 : Int), .int .u8 (x1 : Int), .slice pa x2.length pc] 79 (0, 0) V3b.res
        have HSR := Lib.hid hsr
        have HI1 : Hid ((Tryd.prog.info? 79).map (·.size) = some (#[.int .i64 (x0 : Int), .int .u8 (x1 : Int), .slice pa x2.length pc] : Array Value).size) := Lib.hid (by kernel_rfl)
        have HI2 : Hid ((#[.int .i64 (x0 : Int), .int .u8 (x1 : Int), .slice pa x2.length pc] : Array Value).all (·.oneCell') = true) := Lib.hid (by rw [Array.all_eq_true_iff_forall_mem]; intro u hu; simp only [List.mem_toArray, List.mem_cons, List.not_mem_nil, or_false] at hu; rcases hu with rfl | rfl | rfl <;> rfl)
        clear hT hr hv hd ho hf hvf hy3 HC2 F2 V2 R2 V3b HT2 HT3 HY2 cc1 ff1 hrow hu2 hF3 hso hR3 hs2 hv2 hROW hTT hfl6 hsr
        go_upto_region 5 with (first | rw [HY3.out])
        go_wp2_with (first | (refine wpList_load_row rfl 79 _ rfl (w.heap.size + 1) rfl 79 _ (0, 0) _ HV3.out.var Tryd.underlying79 rfl (by kernel_rfl) ?_) | (refine wpList_store_row rfl 79 _ _ rfl w.heap.size _ rfl rfl 79 _ HV3.out.res HI1.out rfl HI2.out ?_))
        exact bodyPost_ret (v := .agg #[.int .i64 (x0 : Int), .int .u8 (x1 : Int), .slice pa x2.length pc]) (results_cell_row rfl _ _ w.heap.size 79 _ (0, 0) _ rfl HSR.out Tryd.underlying79 rfl (by kernel_rfl)) rfl HFIN.out
end Go.Proofs.YtjljbnilckkjnaaDoor
namespace Go.Proofs.YtjljbnilckkjnaaDoor
open Go Go.RowKit

def ltC (x : Letr) (pv : Value) : Array Value := #[.int .i64 x.uid, .int .u8 (x.flags.toNat : Int), pv]
theorem infoLt1 : (Tryd.prog.info? 79).map (fun i => (i.zero, i.size, i.bytes)) = some (some (.agg #[.int .i64 0, .int .u8 0, .slice none 0 0]), 3, 40) := by kernel_rfl
/-- Letters of the call's own, and their bytes. -/
structure LsAt (B : Nat) (w : World) (v : Value) (ps : List (Letr × Value)) : Prop where
  own : w.ownsRow B 79 3 v ps.length (ps.flatMap cellsLV)
  rows : ∀ p ∈ ps, Row B w p.2 p.1.bytes
  ne : ∀ p ∈ ps, ∀ g, p.2.ownBlock = some g → v.ownBlock ≠ some g
theorem LsAt.nil (B : Nat) (w : World) : LsAt B w (.slice none 0 0) [] := ⟨World.ownsRow_nil _ _ _ _, (fun p hp => by cases hp), (fun p hp => by cases hp)⟩
theorem LsAt.fr {B : Nat} {o : Nat → Prop} {w w' : World} {v : Value} {ps : List (Letr × Value)} (h : LsAt B w v ps) (hf : Fr o w w') (ho : ∀ g, o g → g < B ∨ w.heap.size ≤ g) : LsAt B w' v ps := by
  have hk : ∀ k, B ≤ k → k < w.heap.size → w'.heap[k]? = w.heap[k]? := fun k h1 h2 => hf.block k h2 (fun e => by have := ho k e; omega)
  refine ⟨owns_frame h.own (fun k hkk => by have := World.ownsRow.lt h.own k hkk; exact hk k this.1 this.2), fun p hp => (h.rows p hp).kept hf.size (fun g hg => hk g ?_ ((h.rows p hp).1.lt g hg)), h.ne⟩
  have hr := (h.rows p hp).2
  obtain ⟨a, c, e, _⟩ := (h.rows p hp).1.shape
  rw [e] at hg hr
  cases a with
  | none => simp [Value.ownBlock] at hg
  | some ad =>
    have := (hr ad _ _ rfl).1
    simp [Value.ownBlock] at hg
    omega
theorem cellsLt_cell (p : Letr × Value) (hp : ∃ a n c, p.2 = .slice a n c) : ∀ u ∈ cellsLV p, u.oneCell' = true := by
  obtain ⟨a, n, c, hp⟩ := hp
  intro u hu
  simp only [cellsLV, List.mem_cons, List.not_mem_nil, or_false] at hu
  rcases hu with rfl | rfl | rfl
  all_goals first | rfl | (rw [hp]; rfl)
theorem appL1 (w : World) {B : Nat} {v : Value} {l : List (Letr × Value)} (x : Letr × Value) (hv : LsAt B w v l) (hB : B ≤ w.heap.size) (hlen : l.length + 1 ≤ 1000000) (hx : Row B w x.2 x.1.bytes) (hxv : ∀ g, x.2.ownBlock = some g → v.ownBlock ≠ some g) :
    ∃ a c w', (∀ ty, (Builtin.append_ #[50, 50] ty #[v, .slice (some ⟨w.heap.size, 0, none⟩) 1 1]).run Tryd.prog (w.alloc (.cells (ltC x.1 x.2) 79)) = .ok (.slice a (l ++ [x]).length c) w') ∧ LsAt B w' (.slice a (l ++ [x]).length c) (l ++ [x]) ∧ w.grownBy w' v.ownBlock ∧ (∀ g, (Value.slice a (l ++ [x]).length c).ownBlock = some g → v.ownBlock = some g ∨ w.heap.size < g) := by
  have hb : Below w.heap.size w (w.alloc (.cells (ltC x.1 x.2) 79)) := (Below.refl _ w).alloc (Nat.le_refl _) _
  have hv' : (w.alloc (.cells (ltC x.1 x.2) 79)).ownsRow B 79 3 v l.length (l.flatMap cellsLV) := owns_frame hv.own (fun k hk => hb.block k (World.ownsRow.lt hv.own k hk).2)
  obtain ⟨i, hi, hz, hs, hbs⟩ := info_parts infoLt1
  obtain ⟨v', w', hr, ho, hg, hwh⟩ := app_own (P := Tryd.prog) _ 50 79 i _ 3 40 Tryd.underlying50 hi hz hs hbs rfl (by decide) v l.length (l.flatMap cellsLV) (World.ownsRow.mono hv' (Nat.zero_le _)) ⟨w.heap.size, 0, none⟩ 1 1 (cellsLV x) rfl (by decide)
    (fun j u hu => by rw [addr_plus, Nat.zero_add, cell_of_row _ _ _ _ _ _ (heap_alloc_new w _)]; simpa [cellsLV, ltC] using hu) (cellsLt_cell x (by obtain ⟨a, c, e, _⟩ := hx.1.shape; exact ⟨a, _, c, e⟩)) (by unfold maxLen; omega) (by omega)
  have hsz : (w.alloc (.cells (ltC x.1 x.2) 79)).heap.size = w.heap.size + 1 := by simp
  rw [hsz] at hwh
  have hg2 : w.grownBy w' v.ownBlock := ⟨hg.os.trans hb.os, hg.tape.trans hb.tape, hg.output.trans hb.output, Nat.le_trans hb.size hg.size, fun k hk hne => (hg.block k (Nat.lt_of_lt_of_le hk hb.size) hne).trans (hb.block k hk)⟩
  have hcl : (l ++ [x]).flatMap cellsLV = l.flatMap cellsLV ++ cellsLV x := by simp
  have hln : (l ++ [x]).length = l.length + 1 := by simp
  rw [← hcl, ← hln] at ho
  obtain ⟨a, c, rfl, _⟩ := owns_shape ho
  have hwh2 : ∀ g, (Value.slice a (l ++ [x]).length c).ownBlock = some g → v.ownBlock = some g ∨ w.heap.size < g := fun g hgg => (hwh g hgg).imp id (fun h => by omega)
  have hkeep : ∀ p, (p ∈ l ∨ p = x) → Row B w p.2 p.1.bytes ∧ (∀ g, p.2.ownBlock = some g → v.ownBlock ≠ some g) := fun p hp => by
    rcases hp with hp | rfl
    · exact ⟨hv.rows p hp, hv.ne p hp⟩
    · exact ⟨hx, hxv⟩
  refine ⟨a, c, w', hr, ⟨⟨ho.1, ?_⟩, fun p hp => ?_, fun p hp g hgp hgv => ?_⟩, hg2, hwh2⟩
  · rcases ho.2 with h0 | ⟨g, cap, cur, e, _, rest⟩
    · exact Or.inl h0
    · refine Or.inr ⟨g, cap, cur, e, ?_, rest⟩
      rcases hwh g (by rw [e]; rfl) with h1 | h1
      · exact (World.ownsRow.lt hv.own g h1).1
      · omega
  · have hp' : p ∈ l ∨ p = x := by rcases List.mem_append.1 hp with h | h; exact Or.inl h; exact Or.inr (List.mem_singleton.1 h)
    obtain ⟨h1, h2⟩ := hkeep p hp'
    exact h1.kept hg2.size (fun g hgp => hg2.block g (h1.1.lt g hgp) (fun e => h2 g hgp e.symm))
  · have hp' : p ∈ l ∨ p = x := by rcases List.mem_append.1 hp with h | h; exact Or.inl h; exact Or.inr (List.mem_singleton.1 h)
    obtain ⟨h1, h2⟩ := hkeep p hp'
    have := h1.1.lt g hgp
    rcases hwh2 g hgv with h | h
    · exact h2 g hgp h
    · omega
/-- A box, as it reads: its letters lie in lv. -/
structure Bx where
  name : ByteArray
  valid : Int
  next : Int
  ls : List LV
  lv : Value
def bxC (b : Bx) : Array Value := #[.string b.name, .int .i64 b.valid, .int .i64 b.next, b.lv]
def bxV (b : Bx) : Value := .agg (bxC b)
def cellsBx (b : Bx) : List Value := [.string b.name, .int .i64 b.valid, .int .i64 b.next, b.lv]
/-- Whatever a box's letters lie in. -/
def Bx.has (b : Bx) (g : Nat) : Prop := b.lv.ownBlock = some g ∨ ∃ p ∈ b.ls, p.2.ownBlock = some g
theorem LsAt.lt {B : Nat} {w : World} {v : Value} {ps : List LV} (h : LsAt B w v ps) : (∀ g, v.ownBlock = some g → B ≤ g ∧ g < w.heap.size) ∧ ∀ p ∈ ps, ∀ g, p.2.ownBlock = some g → B ≤ g ∧ g < w.heap.size :=
  ⟨World.ownsRow.lt h.own, fun p hp g hg => ⟨row_base (h.rows p hp) g hg, (h.rows p hp).1.lt g hg⟩⟩
theorem LsAt.has {B : Nat} {w : World} {b : Bx} (h : LsAt B w b.lv b.ls) : ∀ g, b.has g → B ≤ g ∧ g < w.heap.size := by
  intro g hg
  rcases hg with hg | ⟨p, hp, hg⟩
  · exact h.lt.1 g hg
  · exact h.lt.2 p hp g hg
theorem LsAt.kept {B : Nat} {w w' : World} {b : Bx} (h : LsAt B w b.lv b.ls) (hs : w.heap.size ≤ w'.heap.size) (hk : ∀ g, b.has g → w'.heap[g]? = w.heap[g]?) : LsAt B w' b.lv b.ls :=
  ⟨owns_frame h.own (fun g hg => hk g (Or.inl hg)), fun p hp => (h.rows p hp).kept hs (fun g hg => hk g (Or.inr ⟨p, hp, hg⟩)), h.ne⟩
theorem LsAt.down {B B' : Nat} {w : World} {v : Value} {ps : List LV} (h : LsAt B w v ps) (hB : B' ≤ B) : LsAt B' w v ps :=
  ⟨World.ownsRow.mono h.own hB, fun p hp => ⟨(h.rows p hp).1, fun ad n' c' e' => by obtain ⟨a1, a2, a3⟩ := (h.rows p hp).2 ad n' c' e'; exact ⟨by omega, a2, a3⟩⟩, h.ne⟩
theorem infoBx1 : (Tryd.prog.info? 52).map (fun i => (i.zero, i.size, i.bytes)) = some (some (.agg #[.string ⟨#[]⟩, .int .i64 0, .int .i64 0, .slice none 0 0]), 4, 56) := by kernel_rfl
/-- Boxes of the call's own, and all that they have. -/
structure BsAt (B : Nat) (w : World) (v : Value) (bs : List Bx) : Prop where
  own : w.ownsRow B 52 4 v bs.length (bs.flatMap cellsBx)
  rows : ∀ b ∈ bs, LsAt B w b.lv b.ls
  ne : ∀ b ∈ bs, ∀ g, b.has g → v.ownBlock ≠ some g
theorem BsAt.nil (B : Nat) (w : World) : BsAt B w (.slice none 0 0) [] := ⟨World.ownsRow_nil _ _ _ _, (fun p hp => by cases hp), (fun p hp => by cases hp)⟩
theorem BsAt.fr {B : Nat} {o : Nat → Prop} {w w' : World} {v : Value} {bs : List Bx} (h : BsAt B w v bs) (hf : Fr o w w') (ho : ∀ g, o g → g < B ∨ w.heap.size ≤ g) : BsAt B w' v bs := by
  have hk : ∀ k, B ≤ k → k < w.heap.size → w'.heap[k]? = w.heap[k]? := fun k h1 h2 => hf.block k h2 (fun e => by have := ho k e; omega)
  refine ⟨owns_frame h.own (fun k hkk => by have := World.ownsRow.lt h.own k hkk; exact hk k this.1 this.2), fun b hb => (h.rows b hb).kept hf.size (fun g hg => ?_), h.ne⟩
  have := (h.rows b hb).has g hg
  exact hk g this.1 this.2
theorem cellsBx_cell (b : Bx) (hb : ∃ a n c, b.lv = .slice a n c) : ∀ u ∈ cellsBx b, u.oneCell' = true := by
  obtain ⟨a, n, c, hb⟩ := hb
  intro u hu
  simp only [cellsBx, List.mem_cons, List.not_mem_nil, or_false] at hu
  rcases hu with rfl | rfl | rfl | rfl
  all_goals first | rfl | (rw [hb]; rfl)
theorem appB1 (w : World) {B : Nat} {v : Value} {l : List Bx} (x : Bx) (hv : BsAt B w v l) (hB : B ≤ w.heap.size) (hlen : l.length + 1 ≤ 1000000) (hx : LsAt B w x.lv x.ls) (hxv : ∀ g, x.has g → v.ownBlock ≠ some g) :
    ∃ a c w', (∀ ty, (Builtin.append_ #[41, 41] ty #[v, .slice (some ⟨w.heap.size, 0, none⟩) 1 1]).run Tryd.prog (w.alloc (.cells (bxC x) 52)) = .ok (.slice a (l ++ [x]).length c) w') ∧ BsAt B w' (.slice a (l ++ [x]).length c) (l ++ [x]) ∧ w.grownBy w' v.ownBlock ∧ (∀ g, (Value.slice a (l ++ [x]).length c).ownBlock = some g → v.ownBlock = some g ∨ w.heap.size < g) := by
  have hb : Below w.heap.size w (w.alloc (.cells (bxC x) 52)) := (Below.refl _ w).alloc (Nat.le_refl _) _
  have hv' : (w.alloc (.cells (bxC x) 52)).ownsRow B 52 4 v l.length (l.flatMap cellsBx) := owns_frame hv.own (fun k hk => hb.block k (World.ownsRow.lt hv.own k hk).2)
  obtain ⟨i, hi, hz, hs, hbs⟩ := info_parts infoBx1
  obtain ⟨v', w', hr, ho, hg, hwh⟩ := app_own (P := Tryd.prog) _ 41 52 i _ 4 56 Tryd.underlying41 hi hz hs hbs rfl (by decide) v l.length (l.flatMap cellsBx) (World.ownsRow.mono hv' (Nat.zero_le _)) ⟨w.heap.size, 0, none⟩ 1 1 (cellsBx x) rfl (by decide)
    (fun j u hu => by rw [addr_plus, Nat.zero_add, cell_of_row _ _ _ _ _ _ (heap_alloc_new w _)]; simpa [cellsBx, bxC] using hu) (cellsBx_cell x (by obtain ⟨a, c, e, _⟩ := owns_shape hx.own; exact ⟨a, _, c, e⟩)) (by unfold maxLen; omega) (by omega)
  have hsz : (w.alloc (.cells (bxC x) 52)).heap.size = w.heap.size + 1 := by simp
  rw [hsz] at hwh
  have hg2 : w.grownBy w' v.ownBlock := ⟨hg.os.trans hb.os, hg.tape.trans hb.tape, hg.output.trans hb.output, Nat.le_trans hb.size hg.size, fun k hk hne => (hg.block k (Nat.lt_of_lt_of_le hk hb.size) hne).trans (hb.block k hk)⟩
  have hcl : (l ++ [x]).flatMap cellsBx = l.flatMap cellsBx ++ cellsBx x := by simp
  have hln : (l ++ [x]).length = l.length + 1 := by simp
  rw [← hcl, ← hln] at ho
  obtain ⟨a, c, rfl, _⟩ := owns_shape ho
  have hwh2 : ∀ g, (Value.slice a (l ++ [x]).length c).ownBlock = some g → v.ownBlock = some g ∨ w.heap.size < g := fun g hgg => (hwh g hgg).imp id (fun h => by omega)
  have hkeep : ∀ p, (p ∈ l ∨ p = x) → LsAt B w p.lv p.ls ∧ (∀ g, p.has g → v.ownBlock ≠ some g) := fun p hp => by
    rcases hp with hp | rfl
    · exact ⟨hv.rows p hp, hv.ne p hp⟩
    · exact ⟨hx, hxv⟩
  refine ⟨a, c, w', hr, ⟨⟨ho.1, ?_⟩, fun p hp => ?_, fun p hp g hgp hgv => ?_⟩, hg2, hwh2⟩
  · rcases ho.2 with h0 | ⟨g, cap, cur, e, _, rest⟩
    · exact Or.inl h0
    · refine Or.inr ⟨g, cap, cur, e, ?_, rest⟩
      rcases hwh g (by rw [e]; rfl) with h1 | h1
      · exact (World.ownsRow.lt hv.own g h1).1
      · omega
  · have hp' : p ∈ l ∨ p = x := by rcases List.mem_append.1 hp with h | h; exact Or.inl h; exact Or.inr (List.mem_singleton.1 h)
    obtain ⟨h1, h2⟩ := hkeep p hp'
    exact h1.kept hg2.size (fun g hgp => hg2.block g (h1.has g hgp).2 (fun e => h2 g hgp e.symm))
  · have hp' : p ∈ l ∨ p = x := by rcases List.mem_append.1 hp with h | h; exact Or.inl h; exact Or.inr (List.mem_singleton.1 h)
    obtain ⟨h1, h2⟩ := hkeep p hp'
    have := (h1.has g hgp).2
    rcases hwh2 g hgv with h | h
    · exact h2 g hgp h
    · omega
end Go.Proofs.YtjljbnilckkjnaaDoor
