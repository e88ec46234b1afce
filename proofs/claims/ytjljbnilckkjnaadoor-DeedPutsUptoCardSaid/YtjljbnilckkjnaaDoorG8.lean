/- Deed: a reader's deed. -/
import Derived.Test.YtjljbnilckkjnaaDoorG7
namespace Go.Proofs.YtjljbnilckkjnaaDoor
open Go Go.RowKit

def deedP (l : List UInt8) : Option (Dd × List UInt8) :=
  (numP 1 l).bind fun a0 => (textP a0.2).bind fun a1 => (textP a1.2).bind fun a2 => (textP a2.2).bind fun a3 => (numP 4 a3.2).bind fun a4 => (numP 1 a4.2).bind fun a5 => (numP 1 a5.2).bind fun a6 => (numP 1 a6.2).bind fun a7 => (numP 4 a7.2).bind fun a8 => (bodyP a8.2).bind fun a9 =>
    some (⟨a0.1, ⟨a1.1.toArray⟩, ⟨a2.1.toArray⟩, ⟨a3.1.toArray⟩, a4.1, a5.1, UInt8.ofNat a6.1, a7.1, a8.1, a9.1⟩, a9.2)
/-- A deed that is told; its bytes are from block B on. -/
def IsDeed (B : Nat) (d : Dd) (v : Value) (w : World) : Prop := ∃ pv, v = ddV d pv ∧ Row B w pv d.bytes
theorem cut_len {n : Nat} {l l' x : List UInt8} (h : cutP n l = some (x, l')) : l'.length ≤ l.length ∧ x.length = n := by
  unfold cutP at h
  split at h
  · simp only [Option.some.injEq, Prod.mk.injEq] at h
    obtain ⟨rfl, rfl⟩ := h
    exact ⟨by rw [List.length_drop]; omega, by rw [List.length_take]; omega⟩
  · cases h
theorem text_len {l l' x : List UInt8} (h : textP l = some (x, l')) : l'.length ≤ l.length ∧ x.length < 256 := by
  unfold textP at h
  obtain ⟨⟨n, l1⟩, h1, h2⟩ := Option.bind_eq_some_iff.1 h
  obtain ⟨g1, g2⟩ := numP_len h1
  obtain ⟨g3, g4⟩ := cut_len h2
  simp only at g3 g4
  exact ⟨by omega, by omega⟩
theorem body_len {l l' x : List UInt8} (h : bodyP l = some (x, l')) : l'.length ≤ l.length ∧ x.length < 65536 := by
  unfold bodyP at h
  obtain ⟨⟨n, l1⟩, h1, h2⟩ := Option.bind_eq_some_iff.1 h
  obtain ⟨g1, g2⟩ := numP_len h1
  obtain ⟨g3, g4⟩ := cut_len h2
  simp only at g3 g4
  exact ⟨by omega, by omega⟩
theorem byte_num (x : Nat) : (x : Int) % 256 = ((UInt8.ofNat x).toNat : Int) := by simp
/-- The deed's own variable, while it is read. -/
structure Var10 (w : World) (b : Nat) (C : Array Value) : Prop where
  res : w.heap[b]? = some (.cells #[.int .i64 0, .string ⟨#[]⟩, .string ⟨#[]⟩, .string ⟨#[]⟩, .int .i64 0, .int .i64 0, .int .u8 0, .int .i64 0, .int .i64 0, .slice none 0 0] 28 (0, 0))
  var : w.heap[b + 1]? = some (.cells C 28 (0, 0))
theorem Var10.lt {w : World} {b : Nat} {C : Array Value} (h : Var10 w b C) : b + 1 < w.heap.size := (Array.getElem?_eq_some_iff.1 h.var).1
theorem Var10.fr {w w' : World} {b D : Nat} {C : Array Value} (h : Var10 w b C) (hf : Fr (· = D) w w') (hD : D < b) : Var10 w' b C :=
  ⟨(hf.block b (by have := h.lt; omega) (by omega)).trans h.res, (hf.block (b + 1) h.lt (by omega)).trans h.var⟩
theorem Var10.set {w : World} {b : Nat} {C : Array Value} (h : Var10 w b C) (j : Nat) (v : Value) : Var10 (w.setCell ⟨b + 1, j, none⟩ v) b (C.setIfInBounds j v) :=
  ⟨(heap_setCell_other w ⟨b + 1, j, none⟩ b v (by simp)).trans h.res, heap_setCell_same w (b + 1) j _ _ v h.var⟩
theorem Var10.cell {w : World} {b : Nat} {C : Array Value} (h : Var10 w b C) (j : Nat) : w.cell? ⟨b + 1, j, none⟩ = C[j]? := cell_of_row _ _ _ _ _ _ h.var
theorem Var10.free {w : World} {b : Nat} {C : Array Value} (h : Var10 w b C) (j : Nat) : w.frozen? ⟨b + 1, j, none⟩ = false := frozen_of_row _ _ _ _ _ h.var
theorem rdr_set {w : World} {b D : Nat} {sv : Value} {l : List UInt8} (h : Rdr w D sv l) (hD : D < b) (hs : ∀ g, sv.ownBlock = some g → l ≠ [] → g < b) (j : Nat) (v : Value) : Rdr (w.setCell ⟨b + 1, j, none⟩ v) D sv l :=
  ⟨(heap_setCell_other w ⟨b + 1, j, none⟩ D v (by simp; omega)).trans h.blk, h.byz.kept (by simp [World.setCell]) (fun g hg hn => heap_setCell_other w ⟨b + 1, j, none⟩ g v (by have := hs g hg hn; simp; omega)), h.ne⟩

set_option maxHeartbeats 8000000 in
set_option maxRecDepth 100000 in
theorem deed_any (w : World) (D : Nat) (sv : Value) (l : List UInt8) (h : Rdr w D sv l) (hl : l.length ≤ 9223372036854775807) :
    Calls Tryd.prog 48 #[.pointer (some ⟨D, 0, none⟩)] w (ParR w D sv (deedP l) (IsDeed w.heap.size)) := by
  have hDlt := h.lt
  have hsvl : ∀ g, sv.ownBlock = some g → l ≠ [] → g < w.heap.size := h.byz.lt
  have hob : ∀ g, sv.ownBlock = some g → l ≠ [] → g ≠ D := fun g hg hn e => h.ne hn (by rw [hg, e])
  obtain ⟨T, hT⟩ : ∃ T, deedP l = T := ⟨_, rfl⟩
  rw [hT]
  unfold deedP at hT
  have HT0 := Lib.hid hT
  obtain ⟨y0, hy0⟩ : ∃ y0, y0 = (w.alloc (.cells #[.int .i64 0, .string ⟨#[]⟩, .string ⟨#[]⟩, .string ⟨#[]⟩, .int .i64 0, .int .i64 0, .int .u8 0, .int .i64 0, .int .i64 0, .slice none 0 0] 28)).alloc (.cells #[.int .i64 0, .string ⟨#[]⟩, .string ⟨#[]⟩, .string ⟨#[]⟩, .int .i64 0, .int .i64 0, .int .u8 0, .int .i64 0, .int .i64 0, .slice none 0 0] 28) := ⟨_, rfl⟩
  have hb0 : Below w.heap.size w y0 := by rw [hy0]; exact ((Below.refl _ w).alloc (Nat.le_refl _) _).alloc (by simp) _
  have hv0 : Var10 y0 w.heap.size #[.int .i64 0, .string ⟨#[]⟩, .string ⟨#[]⟩, .string ⟨#[]⟩, .int .i64 0, .int .i64 0, .int .u8 0, .int .i64 0, .int .i64 0, .slice none 0 0] := by
    rw [hy0]
    refine ⟨?_, ?_⟩
    · exact (((Below.refl _ (w.alloc (.cells #[.int .i64 0, .string ⟨#[]⟩, .string ⟨#[]⟩, .string ⟨#[]⟩, .int .i64 0, .int .i64 0, .int .u8 0, .int .i64 0, .int .i64 0, .slice none 0 0] 28))).alloc (Nat.le_refl _) (.cells #[.int .i64 0, .string ⟨#[]⟩, .string ⟨#[]⟩, .string ⟨#[]⟩, .int .i64 0, .int .i64 0, .int .u8 0, .int .i64 0, .int .i64 0, .slice none 0 0] 28)).block w.heap.size (by simp)).trans (heap_alloc_new w _)
    · have := heap_alloc_new (w.alloc (.cells #[.int .i64 0, .string ⟨#[]⟩, .string ⟨#[]⟩, .string ⟨#[]⟩, .int .i64 0, .int .i64 0, .int .u8 0, .int .i64 0, .int .i64 0, .slice none 0 0] 28)) (.cells #[.int .i64 0, .string ⟨#[]⟩, .string ⟨#[]⟩, .string ⟨#[]⟩, .int .i64 0, .int .i64 0, .int .u8 0, .int .i64 0, .int .i64 0, .slice none 0 0] 28)
      simpa using this
  have hr0 : Rdr y0 D sv l := ⟨(hb0.block D hDlt).trans h.blk, h.byz.below hb0, h.ne⟩
  have hf0 : Fr (· = D) w y0 := Fr.of_below _ hb0
  have V0 := Lib.hid hv0
  have R0 := Lib.hid hr0
  have F0 := Lib.hid hf0
  have HY0 := Lib.hid (show (w.alloc (.cells #[.int .i64 0, .string ⟨#[]⟩, .string ⟨#[]⟩, .string ⟨#[]⟩, .int .i64 0, .int .i64 0, .int .u8 0, .int .i64 0, .int .i64 0, .slice none 0 0] 28)).alloc (.cells #[.int .i64 0, .string ⟨#[]⟩, .string ⟨#[]⟩, .string ⟨#[]⟩, .int .i64 0, .int .i64 0, .int .u8 0, .int .i64 0, .int .i64 0, .slice none 0 0] 28) = y0 from hy0.symm)
  have HSV := Lib.hid hsvl
  have hl0 : l.length ≤ 9223372036854775807 := hl
  clear hT hy0 hb0 hv0 hr0 hf0 hsvl hob h
  have HC0 := Lib.hid (number_any y0 D sv l 1 R0.out (by omega) (by omega))
  go_enter Tryd.func48, Tryd.ntmps48
  go_wp2_with (first | rw [HY0.out])
  refine HC0.out.mono ?_
  rintro e u0 (⟨hr, rfl, hf⟩ | ⟨x0, l1, v0, s1, hr, rfl, hv, hd, ho, hf⟩)
  · have HE : Hid (T = none) := Lib.hid (by rw [← HT0.out, hr]; rfl)
    have HF := Lib.hid (F0.out.trans hf (fun _ _ h => h) (fun _ _ h => h))
    clear hr hf HT0 HC0 F0 V0 R0
    go_wp2
    exact ⟨rfl, ParR.bad HE.out HF.out⟩
  · have hT := HT0.out
    rw [hr] at hT
    rw [Option.bind_some] at hT
    dsimp only at hT
    have HT1 := Lib.hid hT
    obtain ⟨hll0, hxx0⟩ := numP_len hr
    have hvf := (V0.out.fr hf hDlt)
    unfold IsNum at hv
    subst hv
    have hoo : s1.ownBlock = sv.ownBlock := ho
    have hso : ∀ g, s1.ownBlock = some g → l1 ≠ [] → g < w.heap.size := fun g hg hn => HSV.out g (by rw [← hoo]; exact hg) (fun e => by subst e; have : l1 = [] := List.eq_nil_of_length_eq_zero (by simp only [List.length_nil] at *; omega); exact hn this)
    obtain ⟨y1, hy1⟩ : ∃ y1, (u0.setCell ⟨w.heap.size + 1, 0, none⟩ (.int .i64 (x0 : Int))) = y1 := ⟨_, rfl⟩
    have V1 : Hid (Var10 y1 w.heap.size (#[.int .i64 (x0 : Int), .string ⟨#[]⟩, .string ⟨#[]⟩, .string ⟨#[]⟩, .int .i64 0, .int .i64 0, .int .u8 0, .int .i64 0, .int .i64 0, .slice none 0 0])) := Lib.hid (by rw [← hy1]; exact hvf.set 0 (.int .i64 (x0 : Int)))
    have R1 : Hid (Rdr y1 D s1 l1) := Lib.hid (by rw [← hy1]; exact rdr_set hd hDlt hso 0 (.int .i64 (x0 : Int)))
    have F1 : Hid (Fr (· = D) w y1) := Lib.hid (by rw [← hy1]; exact (F0.out.trans hf (fun _ _ h => h) (fun _ _ h => h)).setCell ⟨w.heap.size + 1, 0, none⟩ (Or.inr (Nat.le_succ _)) _)
    have HO1 := Lib.hid hoo
    have HY1 := Lib.hid hy1
    have cc0 : u0.cell? ⟨w.heap.size + 1, 0, none⟩ = some (.int .i64 0) := hvf.cell 0
    have ff0 := hvf.free 0
    clear hT hr hvf hd ho hoo hf hso hy1 HT0 HC0 F0 V0 R0 HY0
    have HC1 := Lib.hid (text_any y1 D s1 l1 R1.out (by omega))
    go_wp2_with (first | rw [HY1.out])
    refine HC1.out.mono ?_
    rintro e u1 (⟨hr, rfl, hf⟩ | ⟨x1, l2, v1, s2, hr, rfl, hv, hd, ho, hf⟩)
    · have HE : Hid (T = none) := Lib.hid (by rw [← HT1.out, hr]; rfl)
      have HF := Lib.hid (F1.out.trans hf (fun _ _ h => h) (fun _ _ h => h))
      clear hr hf HT1 HC1 F1 V1 R1
      go_wp2
      exact ⟨rfl, ParR.bad HE.out HF.out⟩
    · have hT := HT1.out
      rw [hr] at hT
      rw [Option.bind_some] at hT
      dsimp only at hT
      have HT2 := Lib.hid hT
      obtain ⟨hll1, hxx1⟩ := text_len hr
      have hvf := (V1.out.fr hf hDlt)
      unfold IsStr at hv
      subst hv
      have hoo : s2.ownBlock = sv.ownBlock := ho.trans HO1.out
      have hso : ∀ g, s2.ownBlock = some g → l2 ≠ [] → g < w.heap.size := fun g hg hn => HSV.out g (by rw [← hoo]; exact hg) (fun e => by subst e; have : l2 = [] := List.eq_nil_of_length_eq_zero (by simp only [List.length_nil] at *; omega); exact hn this)
      obtain ⟨y2, hy2⟩ : ∃ y2, (u1.setCell ⟨w.heap.size + 1, 1, none⟩ (.string ⟨x1.toArray⟩)) = y2 := ⟨_, rfl⟩
      have V2 : Hid (Var10 y2 w.heap.size (#[.int .i64 (x0 : Int), .string ⟨x1.toArray⟩, .string ⟨#[]⟩, .string ⟨#[]⟩, .int .i64 0, .int .i64 0, .int .u8 0, .int .i64 0, .int .i64 0, .slice none 0 0])) := Lib.hid (by rw [← hy2]; exact hvf.set 1 (.string ⟨x1.toArray⟩))
      have R2 : Hid (Rdr y2 D s2 l2) := Lib.hid (by rw [← hy2]; exact rdr_set hd hDlt hso 1 (.string ⟨x1.toArray⟩))
      have F2 : Hid (Fr (· = D) w y2) := Lib.hid (by rw [← hy2]; exact (F1.out.trans hf (fun _ _ h => h) (fun _ _ h => h)).setCell ⟨w.heap.size + 1, 1, none⟩ (Or.inr (Nat.le_succ _)) _)
      have HO2 := Lib.hid hoo
      have HY2 := Lib.hid hy2
      have cc1 : u1.cell? ⟨w.heap.size + 1, 1, none⟩ = some (.string ⟨#[]⟩) := hvf.cell 1
      have ff1 := hvf.free 1
      clear hT hr hvf hd ho hoo hf hso hy2 HT1 HC1 F1 V1 R1 HY1 cc0 ff0
      have HC2 := Lib.hid (text_any y2 D s2 l2 R2.out (by omega))
      go_wp2_with (first | rw [HY2.out])
      refine HC2.out.mono ?_
      rintro e u2 (⟨hr, rfl, hf⟩ | ⟨x2, l3, v2, s3, hr, rfl, hv, hd, ho, hf⟩)
      · have HE : Hid (T = none) := Lib.hid (by rw [← HT2.out, hr]; rfl)
        have HF := Lib.hid (F2.out.trans hf (fun _ _ h => h) (fun _ _ h => h))
        clear hr hf HT2 HC2 F2 V2 R2
        go_wp2
        exact ⟨rfl, ParR.bad HE.out HF.out⟩
      · have hT := HT2.out
        rw [hr] at hT
        rw [Option.bind_some] at hT
        dsimp only at hT
        have HT3 := Lib.hid hT
        obtain ⟨hll2, hxx2⟩ := text_len hr
        have hvf := (V2.out.fr hf hDlt)
        unfold IsStr at hv
        subst hv
        have hoo : s3.ownBlock = sv.ownBlock := ho.trans HO2.out
        have hso : ∀ g, s3.ownBlock = some g → l3 ≠ [] → g < w.heap.size := fun g hg hn => HSV.out g (by rw [← hoo]; exact hg) (fun e => by subst e; have : l3 = [] := List.eq_nil_of_length_eq_zero (by simp only [List.length_nil] at *; omega); exact hn this)
        obtain ⟨y3, hy3⟩ : ∃ y3, (u2.setCell ⟨w.heap.size + 1, 2, none⟩ (.string ⟨x2.toArray⟩)) = y3 := ⟨_, rfl⟩
        have V3 : Hid (Var10 y3 w.heap.size (#[.int .i64 (x0 : Int), .string ⟨x1.toArray⟩, .string ⟨x2.toArray⟩, .string ⟨#[]⟩, .int .i64 0, .int .i64 0, .int .u8 0, .int .i64 0, .int .i64 0, .slice none 0 0])) := Lib.hid (by rw [← hy3]; exact hvf.set 2 (.string ⟨x2.toArray⟩))
        have R3 : Hid (Rdr y3 D s3 l3) := Lib.hid (by rw [← hy3]; exact rdr_set hd hDlt hso 2 (.string ⟨x2.toArray⟩))
        have F3 : Hid (Fr (· = D) w y3) := Lib.hid (by rw [← hy3]; exact (F2.out.trans hf (fun _ _ h => h) (fun _ _ h => h)).setCell ⟨w.heap.size + 1, 2, none⟩ (Or.inr (Nat.le_succ _)) _)
        have HO3 := Lib.hid hoo
        have HY3 := Lib.hid hy3
        have cc2 : u2.cell? ⟨w.heap.size + 1, 2, none⟩ = some (.string ⟨#[]⟩) := hvf.cell 2
        have ff2 := hvf.free 2
        clear hT hr hvf hd ho hoo hf hso hy3 HT2 HC2 F2 V2 R2 HY2 cc1 ff1
        have HC3 := Lib.hid (text_any y3 D s3 l3 R3.out (by omega))
        go_wp2_with (first | rw [HY3.out])
        refine HC3.out.mono ?_
        rintro e u3 (⟨hr, rfl, hf⟩ | ⟨x3, l4, v3, s4, hr, rfl, hv, hd, ho, hf⟩)
        · have HE : Hid (T = none) := Lib.hid (by rw [← HT3.out, hr]; rfl)
          have HF := Lib.hid (F3.out.trans hf (fun _ _ h => h) (fun _ _ h => h))
          clear hr hf HT3 HC3 F3 V3 R3
          go_wp2
          exact ⟨rfl, ParR.bad HE.out HF.out⟩
        · have hT := HT3.out
          rw [hr] at hT
          rw [Option.bind_some] at hT
          dsimp only at hT
          have HT4 := Lib.hid hT
          obtain ⟨hll3, hxx3⟩ := text_len hr
          have hvf := (V3.out.fr hf hDlt)
          unfold IsStr at hv
          subst hv
          have hoo : s4.ownBlock = sv.ownBlock := ho.trans HO3.out
          have hso : ∀ g, s4.ownBlock = some g → l4 ≠ [] → g < w.heap.size := fun g hg hn => HSV.out g (by rw [← hoo]; exact hg) (fun e => by subst e; have : l4 = [] := List.eq_nil_of_length_eq_zero (by simp only [List.length_nil] at *; omega); exact hn this)
          obtain ⟨y4, hy4⟩ : ∃ y4, (u3.setCell ⟨w.heap.size + 1, 3, none⟩ (.string ⟨x3.toArray⟩)) = y4 := ⟨_, rfl⟩
          have V4 : Hid (Var10 y4 w.heap.size (#[.int .i64 (x0 : Int), .string ⟨x1.toArray⟩, .string ⟨x2.toArray⟩, .string ⟨x3.toArray⟩, .int .i64 0, .int .i64 0, .int .u8 0, .int .i64 0, .int .i64 0, .slice none 0 0])) := Lib.hid (by rw [← hy4]; exact hvf.set 3 (.string ⟨x3.toArray⟩))
          have R4 : Hid (Rdr y4 D s4 l4) := Lib.hid (by rw [← hy4]; exact rdr_set hd hDlt hso 3 (.string ⟨x3.toArray⟩))
          have F4 : Hid (Fr (· = D) w y4) := Lib.hid (by rw [← hy4]; exact (F3.out.trans hf (fun _ _ h => h) (fun _ _ h => h)).setCell ⟨w.heap.size + 1, 3, none⟩ (Or.inr (Nat.le_succ _)) _)
          have HO4 := Lib.hid hoo
          have HY4 := Lib.hid hy4
          have cc3 : u3.cell? ⟨w.heap.size + 1, 3, none⟩ = some (.string ⟨#[]⟩) := hvf.cell 3
          have ff3 := hvf.free 3
          clear hT hr hvf hd ho hoo hf hso hy4 HT3 HC3 F3 V3 R3 HY3 cc2 ff2
          have HC4 := Lib.hid (number_any y4 D s4 l4 4 R4.out (by omega) (by omega))
          go_wp2_with (first | rw [HY4.out])
          refine HC4.out.mono ?_
          rintro e u4 (⟨hr, rfl, hf⟩ | ⟨x4, l5, v4, s5, hr, rfl, hv, hd, ho, hf⟩)
          · have HE : Hid (T = none) := Lib.hid (by rw [← HT4.out, hr]; rfl)
            have HF := Lib.hid (F4.out.trans hf (fun _ _ h => h) (fun _ _ h => h))
            clear hr hf HT4 HC4 F4 V4 R4
            go_wp2
            exact ⟨rfl, ParR.bad HE.out HF.out⟩
          · have hT := HT4.out
            rw [hr] at hT
            rw [Option.bind_some] at hT
            dsimp only at hT
            have HT5 := Lib.hid hT
            obtain ⟨hll4, hxx4⟩ := numP_len hr
            have hvf := (V4.out.fr hf hDlt)
            unfold IsNum at hv
            subst hv
            have hoo : s5.ownBlock = sv.ownBlock := ho.trans HO4.out
            have hso : ∀ g, s5.ownBlock = some g → l5 ≠ [] → g < w.heap.size := fun g hg hn => HSV.out g (by rw [← hoo]; exact hg) (fun e => by subst e; have : l5 = [] := List.eq_nil_of_length_eq_zero (by simp only [List.length_nil] at *; omega); exact hn this)
            obtain ⟨y5, hy5⟩ : ∃ y5, (u4.setCell ⟨w.heap.size + 1, 4, none⟩ (.int .i64 (x4 : Int))) = y5 := ⟨_, rfl⟩
            have V5 : Hid (Var10 y5 w.heap.size (#[.int .i64 (x0 : Int), .string ⟨x1.toArray⟩, .string ⟨x2.toArray⟩, .string ⟨x3.toArray⟩, .int .i64 (x4 : Int), .int .i64 0, .int .u8 0, .int .i64 0, .int .i64 0, .slice none 0 0])) := Lib.hid (by rw [← hy5]; exact hvf.set 4 (.int .i64 (x4 : Int)))
            have R5 : Hid (Rdr y5 D s5 l5) := Lib.hid (by rw [← hy5]; exact rdr_set hd hDlt hso 4 (.int .i64 (x4 : Int)))
            have F5 : Hid (Fr (· = D) w y5) := Lib.hid (by rw [← hy5]; exact (F4.out.trans hf (fun _ _ h => h) (fun _ _ h => h)).setCell ⟨w.heap.size + 1, 4, none⟩ (Or.inr (Nat.le_succ _)) _)
            have HO5 := Lib.hid hoo
            have HY5 := Lib.hid hy5
            have cc4 : u4.cell? ⟨w.heap.size + 1, 4, none⟩ = some (.int .i64 0) := hvf.cell 4
            have ff4 := hvf.free 4
            clear hT hr hvf hd ho hoo hf hso hy5 HT4 HC4 F4 V4 R4 HY4 cc3 ff3
            have HC5 := Lib.hid (number_any y5 D s5 l5 1 R5.out (by omega) (by omega))
            go_wp2_with (first | rw [HY5.out])
            refine HC5.out.mono ?_
            rintro e u5 (⟨hr, rfl, hf⟩ | ⟨x5, l6, v5, s6, hr, rfl, hv, hd, ho, hf⟩)
            · have HE : Hid (T = none) := Lib.hid (by rw [← HT5.out, hr]; rfl)
              have HF := Lib.hid (F5.out.trans hf (fun _ _ h => h) (fun _ _ h => h))
              clear hr hf HT5 HC5 F5 V5 R5
              go_wp2
              exact ⟨rfl, ParR.bad HE.out HF.out⟩
            · have hT := HT5.out
              rw [hr] at hT
              rw [Option.bind_some] at hT
              dsimp only at hT
              have HT6 := Lib.hid hT
              obtain ⟨hll5, hxx5⟩ := numP_len hr
              have hvf := (V5.out.fr hf hDlt)
              unfold IsNum at hv
              subst hv
              have hoo : s6.ownBlock = sv.ownBlock := ho.trans HO5.out
              have hso : ∀ g, s6.ownBlock = some g → l6 ≠ [] → g < w.heap.size := fun g hg hn => HSV.out g (by rw [← hoo]; exact hg) (fun e => by subst e; have : l6 = [] := List.eq_nil_of_length_eq_zero (by simp only [List.length_nil] at *; omega); exact hn this)
              obtain ⟨y6, hy6⟩ : ∃ y6, (u5.setCell ⟨w.heap.size + 1, 5, none⟩ (.int .i64 (x5 : Int))) = y6 := ⟨_, rfl⟩
              have V6 : Hid (Var10 y6 w.heap.size (#[.int .i64 (x0 : Int), .string ⟨x1.toArray⟩, .string ⟨x2.toArray⟩, .string ⟨x3.toArray⟩, .int .i64 (x4 : Int), .int .i64 (x5 : Int), .int .u8 0, .int .i64 0, .int .i64 0, .slice none 0 0])) := Lib.hid (by rw [← hy6]; exact hvf.set 5 (.int .i64 (x5 : Int)))
              have R6 : Hid (Rdr y6 D s6 l6) := Lib.hid (by rw [← hy6]; exact rdr_set hd hDlt hso 5 (.int .i64 (x5 : Int)))
              have F6 : Hid (Fr (· = D) w y6) := Lib.hid (by rw [← hy6]; exact (F5.out.trans hf (fun _ _ h => h) (fun _ _ h => h)).setCell ⟨w.heap.size + 1, 5, none⟩ (Or.inr (Nat.le_succ _)) _)
              have HO6 := Lib.hid hoo
              have HY6 := Lib.hid hy6
              have cc5 : u5.cell? ⟨w.heap.size + 1, 5, none⟩ = some (.int .i64 0) := hvf.cell 5
              have ff5 := hvf.free 5
              clear hT hr hvf hd ho hoo hf hso hy6 HT5 HC5 F5 V5 R5 HY5 cc4 ff4
              have HC6 := Lib.hid (number_any y6 D s6 l6 1 R6.out (by omega) (by omega))
              go_wp2_with (first | rw [HY6.out])
              refine HC6.out.mono ?_
              rintro e u6 (⟨hr, rfl, hf⟩ | ⟨x6, l7, v6, s7, hr, rfl, hv, hd, ho, hf⟩)
              · have HE : Hid (T = none) := Lib.hid (by rw [← HT6.out, hr]; rfl)
                have HF := Lib.hid (F6.out.trans hf (fun _ _ h => h) (fun _ _ h => h))
                clear hr hf HT6 HC6 F6 V6 R6
                go_wp2
                exact ⟨rfl, ParR.bad HE.out HF.out⟩
              · have hT := HT6.out
                rw [hr] at hT
                rw [Option.bind_some] at hT
                dsimp only at hT
                have HT7 := Lib.hid hT
                obtain ⟨hll6, hxx6⟩ := numP_len hr
                have hvf := (V6.out.fr hf hDlt)
                unfold IsNum at hv
                subst hv
                have hoo : s7.ownBlock = sv.ownBlock := ho.trans HO6.out
                have hso : ∀ g, s7.ownBlock = some g → l7 ≠ [] → g < w.heap.size := fun g hg hn => HSV.out g (by rw [← hoo]; exact hg) (fun e => by subst e; have : l7 = [] := List.eq_nil_of_length_eq_zero (by simp only [List.length_nil] at *; omega); exact hn this)
                obtain ⟨y7, hy7⟩ : ∃ y7, (u6.setCell ⟨w.heap.size + 1, 6, none⟩ (.int .u8 (x6 : Int))) = y7 := ⟨_, rfl⟩
                have V7 : Hid (Var10 y7 w.heap.size (#[.int .i64 (x0 : Int), .string ⟨x1.toArray⟩, .string ⟨x2.toArray⟩, .string ⟨x3.toArray⟩, .int .i64 (x4 : Int), .int .i64 (x5 : Int), .int .u8 (x6 : Int), .int .i64 0, .int .i64 0, .slice none 0 0])) := Lib.hid (by rw [← hy7]; exact hvf.set 6 (.int .u8 (x6 : Int)))
                have R7 : Hid (Rdr y7 D s7 l7) := Lib.hid (by rw [← hy7]; exact rdr_set hd hDlt hso 6 (.int .u8 (x6 : Int)))
                have F7 : Hid (Fr (· = D) w y7) := Lib.hid (by rw [← hy7]; exact (F6.out.trans hf (fun _ _ h => h) (fun _ _ h => h)).setCell ⟨w.heap.size + 1, 6, none⟩ (Or.inr (Nat.le_succ _)) _)
                have HO7 := Lib.hid hoo
                have HY7 := Lib.hid hy7
                have cc6 : u6.cell? ⟨w.heap.size + 1, 6, none⟩ = some (.int .u8 0) := hvf.cell 6
                have ff6 := hvf.free 6
                clear hT hr hvf hd ho hoo hf hso hy7 HT6 HC6 F6 V6 R6 HY6 cc5 ff5
                have HC7 := Lib.hid (number_any y7 D s7 l7 1 R7.out (by omega) (by omega))
                go_wp2_with (first | rw [HY7.out])
                refine HC7.out.mono ?_
                rintro e u7 (⟨hr, rfl, hf⟩ | ⟨x7, l8, v7, s8, hr, rfl, hv, hd, ho, hf⟩)
                · have HE : Hid (T = none) := Lib.hid (by rw [← HT7.out, hr]; rfl)
                  have HF := Lib.hid (F7.out.trans hf (fun _ _ h => h) (fun _ _ h => h))
                  clear hr hf HT7 HC7 F7 V7 R7
                  go_wp2
                  exact ⟨rfl, ParR.bad HE.out HF.out⟩
                · have hT := HT7.out
                  rw [hr] at hT
                  rw [Option.bind_some] at hT
                  dsimp only at hT
                  have HT8 := Lib.hid hT
                  obtain ⟨hll7, hxx7⟩ := numP_len hr
                  have hvf := (V7.out.fr hf hDlt)
                  unfold IsNum at hv
                  subst hv
                  have hoo : s8.ownBlock = sv.ownBlock := ho.trans HO7.out
                  have hso : ∀ g, s8.ownBlock = some g → l8 ≠ [] → g < w.heap.size := fun g hg hn => HSV.out g (by rw [← hoo]; exact hg) (fun e => by subst e; have : l8 = [] := List.eq_nil_of_length_eq_zero (by simp only [List.length_nil] at *; omega); exact hn this)
                  obtain ⟨y8, hy8⟩ : ∃ y8, (u7.setCell ⟨w.heap.size + 1, 7, none⟩ (.int .i64 (x7 : Int))) = y8 := ⟨_, rfl⟩
                  have V8 : Hid (Var10 y8 w.heap.size (#[.int .i64 (x0 : Int), .string ⟨x1.toArray⟩, .string ⟨x2.toArray⟩, .string ⟨x3.toArray⟩, .int .i64 (x4 : Int), .int .i64 (x5 : Int), .int .u8 (x6 : Int), .int .i64 (x7 : Int), .int .i64 0, .slice none 0 0])) := Lib.hid (by rw [← hy8]; exact hvf.set 7 (.int .i64 (x7 : Int)))
                  have R8 : Hid (Rdr y8 D s8 l8) := Lib.hid (by rw [← hy8]; exact rdr_set hd hDlt hso 7 (.int .i64 (x7 : Int)))
                  have F8 : Hid (Fr (· = D) w y8) := Lib.hid (by rw [← hy8]; exact (F7.out.trans hf (fun _ _ h => h) (fun _ _ h => h)).setCell ⟨w.heap.size + 1, 7, none⟩ (Or.inr (Nat.le_succ _)) _)
                  have HO8 := Lib.hid hoo
                  have HY8 := Lib.hid hy8
                  have cc7 : u7.cell? ⟨w.heap.size + 1, 7, none⟩ = some (.int .i64 0) := hvf.cell 7
                  have ff7 := hvf.free 7
                  clear hT hr hvf hd ho hoo hf hso hy8 HT7 HC7 F7 V7 R7 HY7 cc6 ff6
                  have HC8 := Lib.hid (number_any y8 D s8 l8 4 R8.out (by omega) (by omega))
                  go_wp2_with (first | rw [HY8.out])
                  refine HC8.out.mono ?_
                  rintro e u8 (⟨hr, rfl, hf⟩ | ⟨x8, l9, v8, s9, hr, rfl, hv, hd, ho, hf⟩)
                  · have HE : Hid (T = none) := Lib.hid (by rw [← HT8.out, hr]; rfl)
                    have HF := Lib.hid (F8.out.trans hf (fun _ _ h => h) (fun _ _ h => h))
                    clear hr hf HT8 HC8 F8 V8 R8
                    go_wp2
                    exact ⟨rfl, ParR.bad HE.out HF.out⟩
                  · have hT := HT8.out
                    rw [hr] at hT
                    rw [Option.bind_some] at hT
                    dsimp only at hT
                    have HT9 := Lib.hid hT
                    obtain ⟨hll8, hxx8⟩ := numP_len hr
                    have hvf := (V8.out.fr hf hDlt)
                    unfold IsNum at hv
                    subst hv
                    have hoo : s9.ownBlock = sv.ownBlock := ho.trans HO8.out
                    have hso : ∀ g, s9.ownBlock = some g → l9 ≠ [] → g < w.heap.size := fun g hg hn => HSV.out g (by rw [← hoo]; exact hg) (fun e => by subst e; have : l9 = [] := List.eq_nil_of_length_eq_zero (by simp only [List.length_nil] at *; omega); exact hn this)
                    obtain ⟨y9, hy9⟩ : ∃ y9, (u8.setCell ⟨w.heap.size + 1, 8, none⟩ (.int .i64 (x8 : Int))) = y9 := ⟨_, rfl⟩
                    have V9 : Hid (Var10 y9 w.heap.size (#[.int .i64 (x0 : Int), .string ⟨x1.toArray⟩, .string ⟨x2.toArray⟩, .string ⟨x3.toArray⟩, .int .i64 (x4 : Int), .int .i64 (x5 : Int), .int .u8 (x6 : Int), .int .i64 (x7 : Int), .int .i64 (x8 : Int), .slice none 0 0])) := Lib.hid (by rw [← hy9]; exact hvf.set 8 (.int .i64 (x8 : Int)))
                    have R9 : Hid (Rdr y9 D s9 l9) := Lib.hid (by rw [← hy9]; exact rdr_set hd hDlt hso 8 (.int .i64 (x8 : Int)))
                    have F9 : Hid (Fr (· = D) w y9) := Lib.hid (by rw [← hy9]; exact (F8.out.trans hf (fun _ _ h => h) (fun _ _ h => h)).setCell ⟨w.heap.size + 1, 8, none⟩ (Or.inr (Nat.le_succ _)) _)
                    have HO9 := Lib.hid hoo
                    have HY9 := Lib.hid hy9
                    have cc8 : u8.cell? ⟨w.heap.size + 1, 8, none⟩ = some (.int .i64 0) := hvf.cell 8
                    have ff8 := hvf.free 8
                    clear hT hr hvf hd ho hoo hf hso hy9 HT8 HC8 F8 V8 R8 HY8 cc7 ff7
                    have HC9 := Lib.hid (body_any y9 D s9 l9 R9.out (by omega))
                    go_wp2_with (first | rw [HY9.out])
                    refine HC9.out.mono ?_
                    rintro e u9 (⟨hr, rfl, hf⟩ | ⟨x9, l10, v9, s10, hr, rfl, hv, hd, ho, hf⟩)
                    · have HE : Hid (T = none) := Lib.hid (by rw [← HT9.out, hr]; rfl)
                      have HF := Lib.hid (F9.out.trans hf (fun _ _ h => h) (fun _ _ h => h))
                      clear hr hf HT9 HC9 F9 V9 R9
                      go_wp2
                      exact ⟨rfl, ParR.bad HE.out HF.out⟩
                    · have hT := HT9.out
                      rw [hr] at hT
                      rw [Option.bind_some] at hT
                      dsimp only at hT
                      have HT10 := Lib.hid hT
                      obtain ⟨hll9, hxx9⟩ := body_len hr
                      have hvf := (V9.out.fr hf hDlt)
                      have hrow : Row y9.heap.size u9 v9 x9 := hv
                      obtain ⟨pa, pc, hpv, _⟩ := hrow.1.shape
                      subst hpv
                      have hu9 := (F9.out.trans hf (fun _ _ h => h) (fun _ _ h => h))
                      obtain ⟨y10, hy10⟩ : ∃ y10, u9.setCell ⟨w.heap.size + 1, 9, none⟩ (.slice pa x9.length pc) = y10 := ⟨_, rfl⟩
                      have V10b : Var10 y10 w.heap.size #[.int .i64 (x0 : Int), .string ⟨x1.toArray⟩, .string ⟨x2.toArray⟩, .string ⟨x3.toArray⟩, .int .i64 (x4 : Int), .int .i64 (x5 : Int), .int .u8 (x6 : Int), .int .i64 (x7 : Int), .int .i64 (x8 : Int), .slice pa x9.length pc] := by rw [← hy10]; exact hvf.set 9 _
                      have hF10 : Fr (· = D) w (y10.setRow w.heap.size #[.int .i64 (x0 : Int), .string ⟨x1.toArray⟩, .string ⟨x2.toArray⟩, .string ⟨x3.toArray⟩, .int .i64 (x4 : Int), .int .i64 (x5 : Int), .int .u8 (x6 : Int), .int .i64 (x7 : Int), .int .i64 (x8 : Int), .slice pa x9.length pc]) := by
                        rw [← hy10]
                        have hf1 := hu9.setCell ⟨w.heap.size + 1, 9, none⟩ (Or.inr (Nat.le_succ _)) (.slice pa x9.length pc)
                        exact ⟨hf1.os, hf1.tape, hf1.output, by rw [setRow_size]; exact hf1.size, fun k hk hn => (setRow_other _ _ _ _ (by omega)).trans (hf1.block k hk hn)⟩
                      have hso : ∀ g, s10.ownBlock = some g → l10 ≠ [] → g < w.heap.size := fun g hg hn => HSV.out g (by rw [← HO9.out, ← ho]; exact hg) (fun e => by subst e; have : l10 = [] := List.eq_nil_of_length_eq_zero (by simp only [List.length_nil] at *; omega); exact hn this)
                      have hR10 : Rdr (y10.setRow w.heap.size #[.int .i64 (x0 : Int), .string ⟨x1.toArray⟩, .string ⟨x2.toArray⟩, .string ⟨x3.toArray⟩, .int .i64 (x4 : Int), .int .i64 (x5 : Int), .int .u8 (x6 : Int), .int .i64 (x7 : Int), .int .i64 (x8 : Int), .slice pa x9.length pc]) D s10 l10 := by
                        rw [← hy10]
                        have h1 := rdr_set hd hDlt hso 9 (.slice pa x9.length pc)
                        exact ⟨(setRow_other _ _ _ _ (by omega)).trans h1.blk, h1.byz.kept (by rw [setRow_size]; exact Nat.le_refl _) (fun g hg hn => setRow_other _ _ _ _ (by have := hso g hg hn; omega)), h1.ne⟩
                      have hs9 := F9.out.size
                      have hv9 := V9.out.lt
                      have hROW : Row w.heap.size (y10.setRow w.heap.size #[.int .i64 (x0 : Int), .string ⟨x1.toArray⟩, .string ⟨x2.toArray⟩, .string ⟨x3.toArray⟩, .int .i64 (x4 : Int), .int .i64 (x5 : Int), .int .u8 (x6 : Int), .int .i64 (x7 : Int), .int .i64 (x8 : Int), .slice pa x9.length pc]) (.slice pa x9.length pc) x9 := by
                        rw [← hy10]
                        have hb : ∀ g, (Value.slice pa x9.length pc).ownBlock = some g → w.heap.size + 2 ≤ g := fun g hg => by
                          cases pa with
                          | none => simp [Value.ownBlock] at hg
                          | some ad =>
                            have := (hrow.2 ad _ _ rfl).1
                            simp [Value.ownBlock] at hg
                            omega
                        have hk := hrow.kept (w' := (u9.setCell ⟨w.heap.size + 1, 9, none⟩ (.slice pa x9.length pc)).setRow w.heap.size #[.int .i64 (x0 : Int), .string ⟨x1.toArray⟩, .string ⟨x2.toArray⟩, .string ⟨x3.toArray⟩, .int .i64 (x4 : Int), .int .i64 (x5 : Int), .int .u8 (x6 : Int), .int .i64 (x7 : Int), .int .i64 (x8 : Int), .slice pa x9.length pc]) (by rw [setRow_size]; simp [World.setCell]) (fun g hg => (setRow_other _ _ _ _ (by have := hb g hg; omega)).trans (heap_setCell_other _ _ _ _ (by have := hb g hg; simp; omega)))
                        exact ⟨hk.1, fun ad n cap e => by obtain ⟨a1, a2, a3⟩ := hk.2 ad n cap e; exact ⟨by omega, a2, a3⟩⟩
                      have hTT : T = some (⟨x0, ⟨x1.toArray⟩, ⟨x2.toArray⟩, ⟨x3.toArray⟩, x4, x5, UInt8.ofNat x6, x7, x8, x9⟩, l10) := hT.symm
                      have hfl6 : (UInt8.ofNat x6).toNat = x6 := by have := byte_num x6; omega
                      have HFIN : Hid (ParR w D sv T (IsDeed w.heap.size) (.returned (.agg #[.int .i64 (x0 : Int), .string ⟨x1.toArray⟩, .string ⟨x2.toArray⟩, .string ⟨x3.toArray⟩, .int .i64 (x4 : Int), .int .i64 (x5 : Int), .int .u8 (x6 : Int), .int .i64 (x7 : Int), .int .i64 (x8 : Int), .slice pa x9.length pc])) (y10.setRow w.heap.size #[.int .i64 (x0 : Int), .string ⟨x1.toArray⟩, .string ⟨x2.toArray⟩, .string ⟨x3.toArray⟩, .int .i64 (x4 : Int), .int .i64 (x5 : Int), .int .u8 (x6 : Int), .int .i64 (x7 : Int), .int .i64 (x8 : Int), .slice pa x9.length pc])) := Lib.hid (ParR.good hTT ⟨_, by unfold ddV ddC; simp only [hfl6], hROW⟩ hR10 (ho.trans HO9.out) hF10)
                      have cc9 : u9.cell? ⟨w.heap.size + 1, 9, none⟩ = some (.slice none 0 0) := hvf.cell 9
                      have ff9 := hvf.free 9
                      have HV10 := Lib.hid V10b
                      have HY10 := Lib.hid hy10
                      have hsr := setRow_heap y10 w.heap.size _ #[.int .i64 (x0 : Int), .string ⟨x1.toArray⟩, .string ⟨x2.toArray⟩, .string ⟨x3.toArray⟩, .int .i64 (x4 : Int), .int .i64 (x5 : Int), .int .u8 (x6 : Int), .int .i64 (x7 : Int), .int .i64 (x8 : Int), .slice pa x9.length pc] 28 (0, 0) V10b.res
                      have HSR := Lib.hid hsr
                      have HI1 : Hid ((Tryd.prog.info? 28).map (·.size) = some (#[.int .i64 (x0 : Int), .string ⟨x1.toArray⟩, .string ⟨x2.toArray⟩, .string ⟨x3.toArray⟩, .int .i64 (x4 : Int), .int .i64 (x5 : Int), .int .u8 (x6 : Int), .int .i64 (x7 : Int), .int .i64 (x8 : Int), .slice pa x9.length pc] : Array Value).size) := Lib.hid (by kernel_rfl)
                      have HI2 : Hid ((#[.int .i64 (x0 : Int), .string ⟨x1.toArray⟩, .string ⟨x2.toArray⟩, .string ⟨x3.toArray⟩, .int .i64 (x4 : Int), .int .i64 (x5 : Int), .int .u8 (x6 : Int), .int .i64 (x7 : Int), .int .i64 (x8 : Int), .slice pa x9.length pc] : Array Value).all (·.oneCell') = true) := Lib.hid (by rw [Array.all_eq_true_iff_forall_mem]; intro u hu; simp only [List.mem_toArray, List.mem_cons, List.not_mem_nil, or_false] at hu; rcases hu with rfl | rfl | rfl | rfl | rfl | rfl | rfl | rfl | rfl | rfl <;> rfl)
                      clear hT hr hv hd ho hf hvf hy10 HC9 F9 V9 R9 V10b HT9 HT10 HY9 cc8 ff8 hrow hu9 hF10 hso hR10 hs9 hv9 hROW hTT hfl6 hsr
                      go_upto_region 12 with (first | rw [HY10.out])
                      go_wp2_with (first | (refine wpList_load_row rfl 28 _ rfl (w.heap.size + 1) rfl 28 _ (0, 0) _ HV10.out.var Tryd.underlying28 rfl (by kernel_rfl) ?_) | (refine wpList_store_row rfl 28 _ _ rfl w.heap.size _ rfl rfl 28 _ HV10.out.res HI1.out rfl HI2.out ?_))
                      exact bodyPost_ret (v := .agg #[.int .i64 (x0 : Int), .string ⟨x1.toArray⟩, .string ⟨x2.toArray⟩, .string ⟨x3.toArray⟩, .int .i64 (x4 : Int), .int .i64 (x5 : Int), .int .u8 (x6 : Int), .int .i64 (x7 : Int), .int .i64 (x8 : Int), .slice pa x9.length pc]) (results_cell_row rfl _ _ w.heap.size 28 _ (0, 0) _ rfl HSR.out Tryd.underlying28 rfl (by kernel_rfl)) rfl HFIN.out
end Go.Proofs.YtjljbnilckkjnaaDoor
