/- Deed: a reader's box. -/
import Derived.Test.YtjljbnilckkjnaaDoorG15
namespace Go.Proofs.YtjljbnilckkjnaaDoor
open Go Go.RowKit

def letsP : Nat → List UInt8 → List Letr → Option (List Letr × List UInt8)
  | 0, l, acc => some (acc, l)
  | n + 1, l, acc => (letP l).bind fun x => letsP n x.2 (acc ++ [x.1])
/-- A box's name, numbers and letters. -/
structure BxD where
  name : ByteArray
  valid : Int
  next : Int
  ls : List Letr
def boxP (l : List UInt8) : Option (BxD × List UInt8) :=
  (textP l).bind fun a0 => (numP 4 a0.2).bind fun a1 => (numP 4 a1.2).bind fun a2 => (numP 1 a2.2).bind fun a3 => (letsP a3.1 a3.2 []).bind fun a4 => some (⟨⟨a0.1.toArray⟩, (a1.1 : Int), (a2.1 : Int), a4.1⟩, a4.2)
def IsBox (B : Nat) (x : BxD) (v : Value) (w : World) : Prop := ∃ b : Bx, v = bxV b ∧ b.name = x.name ∧ b.valid = x.valid ∧ b.next = x.next ∧ b.ls.map (·.1) = x.ls ∧ LsAt B w b.lv b.ls
theorem letP_len {l l' : List UInt8} {x : Letr} (h : letP l = some (x, l')) : l'.length ≤ l.length := by
  unfold letP at h
  simp only [Option.bind_eq_some_iff] at h
  obtain ⟨⟨a0, b0⟩, h0, ⟨a1, b1⟩, h1, ⟨a2, b2⟩, h2, h10⟩ := h
  simp only [Option.some.injEq, Prod.mk.injEq] at h10
  have e0 := (numP_len h0).1
  have e1 := (numP_len h1).1
  have e2 := (body_len h2).1
  obtain ⟨_, rfl⟩ := h10
  simp only at *
  omega
theorem letsP_len : ∀ (n : Nat) {l l' : List UInt8} {acc x : List Letr}, letsP n l acc = some (x, l') → l'.length ≤ l.length
  | 0, l, l', acc, x, h => by
    unfold letsP at h
    simp only [Option.some.injEq, Prod.mk.injEq] at h
    obtain ⟨_, rfl⟩ := h
    exact Nat.le_refl _
  | n + 1, l, l', acc, x, h => by
    unfold letsP at h
    obtain ⟨⟨y, l1⟩, h1, h2⟩ := Option.bind_eq_some_iff.1 h
    have := letP_len h1
    have := letsP_len n h2
    simp only at this
    omega
theorem boxP_len {l l' : List UInt8} {x : BxD} (h : boxP l = some (x, l')) : l'.length ≤ l.length := by
  unfold boxP at h
  simp only [Option.bind_eq_some_iff] at h
  obtain ⟨⟨a0, b0⟩, h0, ⟨a1, b1⟩, h1, ⟨a2, b2⟩, h2, ⟨a3, b3⟩, h3, ⟨a4, b4⟩, h4, h10⟩ := h
  simp only [Option.some.injEq, Prod.mk.injEq] at h10
  have e0 := (text_len h0).1
  have e1 := (numP_len h1).1
  have e2 := (numP_len h2).1
  have e3 := (numP_len h3).1
  have e4 := letsP_len _ h4
  obtain ⟨_, rfl⟩ := h10
  simp only at *
  omega
/-- The box's own variable, while it is read. -/
structure Var4 (w : World) (b : Nat) (C : Array Value) : Prop where
  res : w.heap[b]? = some (.cells #[.string ⟨#[]⟩, .int .i64 0, .int .i64 0, .slice none 0 0] 52 (0, 0))
  var : w.heap[b + 1]? = some (.cells C 52 (0, 0))
theorem Var4.lt {w : World} {b : Nat} {C : Array Value} (h : Var4 w b C) : b + 1 < w.heap.size := (Array.getElem?_eq_some_iff.1 h.var).1
theorem Var4.fr {o : Nat → Prop} {w w' : World} {b : Nat} {C : Array Value} (h : Var4 w b C) (hf : Fr o w w') (h0 : ¬ o b) (h1 : ¬ o (b + 1)) : Var4 w' b C :=
  ⟨(hf.block b (by have := h.lt; omega) h0).trans h.res, (hf.block (b + 1) h.lt h1).trans h.var⟩
theorem Var4.set {w : World} {b : Nat} {C : Array Value} (h : Var4 w b C) (j : Nat) (v : Value) : Var4 (w.setCell ⟨b + 1, j, none⟩ v) b (C.setIfInBounds j v) :=
  ⟨(heap_setCell_other w ⟨b + 1, j, none⟩ b v (by simp)).trans h.res, heap_setCell_same w (b + 1) j _ _ v h.var⟩
theorem Var4.cell {w : World} {b : Nat} {C : Array Value} (h : Var4 w b C) (j : Nat) : w.cell? ⟨b + 1, j, none⟩ = C[j]? := cell_of_row _ _ _ _ _ _ h.var
theorem Var4.free {w : World} {b : Nat} {C : Array Value} (h : Var4 w b C) (j : Nat) : w.frozen? ⟨b + 1, j, none⟩ = false := frozen_of_row _ _ _ _ _ h.var

set_option maxHeartbeats 8000000 in
set_option maxRecDepth 100000 in
theorem box_any (w : World) (D : Nat) (sv : Value) (l : List UInt8) (h : Rdr w D sv l) (hl : l.length ≤ 9223372036854775807) :
    Calls Tryd.prog 58 #[.pointer (some ⟨D, 0, none⟩)] w (ParR w D sv (boxP l) (IsBox w.heap.size)) := by
  have hDlt := h.lt
  have hsvl : ∀ g, sv.ownBlock = some g → l ≠ [] → g < w.heap.size := h.byz.lt
  obtain ⟨T, hT⟩ : ∃ T, boxP l = T := ⟨_, rfl⟩
  rw [hT]
  unfold boxP at hT
  have HT0 := Lib.hid hT
  obtain ⟨y0, hy0⟩ : ∃ y0, y0 = (w.alloc (.cells #[.string ⟨#[]⟩, .int .i64 0, .int .i64 0, .slice none 0 0] 52)).alloc (.cells #[.string ⟨#[]⟩, .int .i64 0, .int .i64 0, .slice none 0 0] 52) := ⟨_, rfl⟩
  have hb0 : Below w.heap.size w y0 := by rw [hy0]; exact ((Below.refl _ w).alloc (Nat.le_refl _) _).alloc (by simp) _
  have hv0 : Var4 y0 w.heap.size #[.string ⟨#[]⟩, .int .i64 0, .int .i64 0, .slice none 0 0] := by
    rw [hy0]
    refine ⟨?_, ?_⟩
    · exact (((Below.refl _ (w.alloc (.cells #[.string ⟨#[]⟩, .int .i64 0, .int .i64 0, .slice none 0 0] 52))).alloc (Nat.le_refl _) (.cells #[.string ⟨#[]⟩, .int .i64 0, .int .i64 0, .slice none 0 0] 52)).block w.heap.size (by simp)).trans (heap_alloc_new w _)
    · have := heap_alloc_new (w.alloc (.cells #[.string ⟨#[]⟩, .int .i64 0, .int .i64 0, .slice none 0 0] 52)) (.cells #[.string ⟨#[]⟩, .int .i64 0, .int .i64 0, .slice none 0 0] 52)
      simpa using this
  have hr0 : Rdr y0 D sv l := ⟨(hb0.block D hDlt).trans h.blk, h.byz.below hb0, h.ne⟩
  have hf0 : Fr (· = D) w y0 := Fr.of_below _ hb0
  have V0 := Lib.hid hv0
  have R0 := Lib.hid hr0
  have F0 := Lib.hid hf0
  have HY0 := Lib.hid (show (w.alloc (.cells #[.string ⟨#[]⟩, .int .i64 0, .int .i64 0, .slice none 0 0] 52)).alloc (.cells #[.string ⟨#[]⟩, .int .i64 0, .int .i64 0, .slice none 0 0] 52) = y0 from hy0.symm)
  have HSV := Lib.hid hsvl
  have hl0 : l.length ≤ 9223372036854775807 := hl
  clear hT hy0 hb0 hv0 hr0 hf0 hsvl h
  have HC0 := Lib.hid (text_any y0 D sv l R0.out (by omega))
  go_enter Tryd.func58, Tryd.ntmps58
  go_wp2_with (first | rw [HY0.out])
  refine HC0.out.mono ?_
  rintro e u0 (⟨hr, rfl, hf⟩ | ⟨x0, l1, v0, s1, hr, rfl, hv, hd, ho, hf⟩)
  · have HE : Hid (T = none) := Lib.hid (by rw [← HT0.out, hr]; rfl)
    have HF := Lib.hid (F0.out.trans hf (fun _ _ h => h) (fun _ _ h => h))
    clear hr hf HT0 HC0 F0 V0 R0
    go_wp2
    exact ⟨rfl, ParR.bad HE.out HF.out⟩
  · have hT := HT0.out
    rw [hr] at hT
    rw [Option.bind_some] at hT
    dsimp only at hT
    have HT1 := Lib.hid hT
    obtain ⟨hll0, hxx0⟩ := text_len hr
    have hvf := V0.out.fr hf (by omega) (by omega)
    unfold IsStr at hv
    subst hv
    have hoo : s1.ownBlock = sv.ownBlock := ho
    have hso : ∀ g, s1.ownBlock = some g → l1 ≠ [] → g < w.heap.size := fun g hg hn => HSV.out g (by rw [← hoo]; exact hg) (fun e => by subst e; have : l1 = [] := List.eq_nil_of_length_eq_zero (by simp only [List.length_nil] at *; omega); exact hn this)
    obtain ⟨y1, hy1⟩ : ∃ y1, (u0.setCell ⟨w.heap.size + 1, 0, none⟩ (.string ⟨x0.toArray⟩)) = y1 := ⟨_, rfl⟩
    have V1 : Hid (Var4 y1 w.heap.size #[.string ⟨x0.toArray⟩, .int .i64 0, .int .i64 0, .slice none 0 0]) := Lib.hid (by rw [← hy1]; exact hvf.set 0 (.string ⟨x0.toArray⟩))
    have R1 : Hid (Rdr y1 D s1 l1) := Lib.hid (by rw [← hy1]; exact rdr_set hd hDlt hso 0 (.string ⟨x0.toArray⟩))
    have F1 : Hid (Fr (· = D) w y1) := Lib.hid (by rw [← hy1]; exact (F0.out.trans hf (fun _ _ h => h) (fun _ _ h => h)).setCell ⟨w.heap.size + 1, 0, none⟩ (Or.inr (Nat.le_succ _)) _)
    have HO1 := Lib.hid hoo
    have HY1 := Lib.hid hy1
    have cc0 : u0.cell? ⟨w.heap.size + 1, 0, none⟩ = some (.string ⟨#[]⟩) := hvf.cell 0
    have ff0 := hvf.free 0
    clear hT hr hvf hd ho hoo hf hso hy1 HT0 HC0 F0 V0 R0 HY0
    have HC1 := Lib.hid (number_any y1 D s1 l1 4 R1.out (by omega) (by omega))
    go_wp2_with (first | rw [HY1.out])
    refine HC1.out.mono ?_
    rintro e u1 (⟨hr, rfl, hf⟩ | ⟨x1, l2, v1, s2, hr, rfl, hv, hd, ho, hf⟩)
    · have HE : Hid (T = none) := Lib.hid (by rw [← HT1.out, hr]; rfl)
      have HF := Lib.hid (F1.out.trans hf (fun _ _ h => h) (fun _ _ h => h))
      clear hr hf HT1 HC1 F1 V1 R1
      go_wp2
      exact ⟨rfl, ParR.bad HE.out HF.out⟩
    · have hT := HT1.out
      rw [hr] at hT
      rw [Option.bind_some] at hT
      dsimp only at hT
      have HT2 := Lib.hid hT
      obtain ⟨hll1, hxx1⟩ := numP_len hr
      have hvf := V1.out.fr hf (by omega) (by omega)
      unfold IsNum at hv
      subst hv
      have hoo : s2.ownBlock = sv.ownBlock := ho.trans HO1.out
      have hso : ∀ g, s2.ownBlock = some g → l2 ≠ [] → g < w.heap.size := fun g hg hn => HSV.out g (by rw [← hoo]; exact hg) (fun e => by subst e; have : l2 = [] := List.eq_nil_of_length_eq_zero (by simp only [List.length_nil] at *; omega); exact hn this)
      obtain ⟨y2, hy2⟩ : ∃ y2, (u1.setCell ⟨w.heap.size + 1, 1, none⟩ (.int .i64 (x1 : Int))) = y2 := ⟨_, rfl⟩
      have V2 : Hid (Var4 y2 w.heap.size #[.string ⟨x0.toArray⟩, .int .i64 (x1 : Int), .int .i64 0, .slice none 0 0]) := Lib.hid (by rw [← hy2]; exact hvf.set 1 (.int .i64 (x1 : Int)))
      have R2 : Hid (Rdr y2 D s2 l2) := Lib.hid (by rw [← hy2]; exact rdr_set hd hDlt hso 1 (.int .i64 (x1 : Int)))
      have F2 : Hid (Fr (· = D) w y2) := Lib.hid (by rw [← hy2]; exact (F1.out.trans hf (fun _ _ h => h) (fun _ _ h => h)).setCell ⟨w.heap.size + 1, 1, none⟩ (Or.inr (Nat.le_succ _)) _)
      have HO2 := Lib.hid hoo
      have HY2 := Lib.hid hy2
      have cc1 : u1.cell? ⟨w.heap.size + 1, 1, none⟩ = some (.int .i64 0) := hvf.cell 1
      have ff1 := hvf.free 1
      clear hT hr hvf hd ho hoo hf hso hy2 HT1 HC1 F1 V1 R1 HY1 cc0 ff0
      have HC2 := Lib.hid (number_any y2 D s2 l2 4 R2.out (by omega) (by omega))
      go_wp2_with (first | rw [HY2.out])
      refine HC2.out.mono ?_
      rintro e u2 (⟨hr, rfl, hf⟩ | ⟨x2, l3, v2, s3, hr, rfl, hv, hd, ho, hf⟩)
      · have HE : Hid (T = none) := Lib.hid (by rw [← HT2.out, hr]; rfl)
        have HF := Lib.hid (F2.out.trans hf (fun _ _ h => h) (fun _ _ h => h))
        clear hr hf HT2 HC2 F2 V2 R2
        go_wp2
        exact ⟨rfl, ParR.bad HE.out HF.out⟩
      · have hT := HT2.out
        rw [hr] at hT
        rw [Option.bind_some] at hT
        dsimp only at hT
        have HT3 := Lib.hid hT
        obtain ⟨hll2, hxx2⟩ := numP_len hr
        have hvf := V2.out.fr hf (by omega) (by omega)
        unfold IsNum at hv
        subst hv
        have hoo : s3.ownBlock = sv.ownBlock := ho.trans HO2.out
        have hso : ∀ g, s3.ownBlock = some g → l3 ≠ [] → g < w.heap.size := fun g hg hn => HSV.out g (by rw [← hoo]; exact hg) (fun e => by subst e; have : l3 = [] := List.eq_nil_of_length_eq_zero (by simp only [List.length_nil] at *; omega); exact hn this)
        obtain ⟨y3, hy3⟩ : ∃ y3, (u2.setCell ⟨w.heap.size + 1, 2, none⟩ (.int .i64 (x2 : Int))) = y3 := ⟨_, rfl⟩
        have V3 : Hid (Var4 y3 w.heap.size #[.string ⟨x0.toArray⟩, .int .i64 (x1 : Int), .int .i64 (x2 : Int), .slice none 0 0]) := Lib.hid (by rw [← hy3]; exact hvf.set 2 (.int .i64 (x2 : Int)))
        have R3 : Hid (Rdr y3 D s3 l3) := Lib.hid (by rw [← hy3]; exact rdr_set hd hDlt hso 2 (.int .i64 (x2 : Int)))
        have F3 : Hid (Fr (· = D) w y3) := Lib.hid (by rw [← hy3]; exact (F2.out.trans hf (fun _ _ h => h) (fun _ _ h => h)).setCell ⟨w.heap.size + 1, 2, none⟩ (Or.inr (Nat.le_succ _)) _)
        have HO3 := Lib.hid hoo
        have HY3 := Lib.hid hy3
        have cc2 : u2.cell? ⟨w.heap.size + 1, 2, none⟩ = some (.int .i64 0) := hvf.cell 2
        have ff2 := hvf.free 2
        clear hT hr hvf hd ho hoo hf hso hy3 HT2 HC2 F2 V2 R2 HY2 cc1 ff1
        have HC3 := Lib.hid (number_any y3 D s3 l3 1 R3.out (by omega) (by omega))
        go_wp2_with (first | rw [HY3.out])
        refine HC3.out.mono ?_
        rintro e u3 (⟨hr, rfl, hf⟩ | ⟨x3, l4, v3, s4, hr, rfl, hv, hd, ho, hf⟩)
        · have HE : Hid (T = none) := Lib.hid (by rw [← HT3.out, hr]; rfl)
          have HF := Lib.hid (F3.out.trans hf (fun _ _ h => h) (fun _ _ h => h))
          clear hr hf HT3 HC3 F3 V3 R3
          go_wp2
          exact ⟨rfl, ParR.bad HE.out HF.out⟩
        · have hT := HT3.out
          rw [hr] at hT
          rw [Option.bind_some] at hT
          dsimp only at hT
          have HT4 := Lib.hid hT
          obtain ⟨hll3, hxx3⟩ := numP_len hr
          have hvf := V3.out.fr hf (by omega) (by omega)
          unfold IsNum at hv
          subst hv
          have hoo : s4.ownBlock = sv.ownBlock := ho.trans HO3.out
          have hso : ∀ g, s4.ownBlock = some g → l4 ≠ [] → g < w.heap.size := fun g hg hn => HSV.out g (by rw [← hoo]; exact hg) (fun e => by subst e; have : l4 = [] := List.eq_nil_of_length_eq_zero (by simp only [List.length_nil] at *; omega); exact hn this)
          have V4 := Lib.hid hvf
          have R4 := Lib.hid hd
          have F4 := Lib.hid (F3.out.trans hf (fun _ _ h => h) (fun _ _ h => h))
          have HO4 := Lib.hid hoo
          clear hT hr hvf hd ho hoo hf hso HT3 HC3 F3 V3 R3 HY3 cc2 ff2
          obtain ⟨n, hn⟩ : ∃ n, x3 = n := ⟨_, rfl⟩
          subst hn
          go_wp2_with fail
          go_loopw [15] (fun iv wr => ∃ (i : Nat) (s2 : Value) (l2 : List UInt8) (ls : List LV) (la : Option Addr) (lc : Nat), i ≤ x3 ∧ iv = .int .i64 (i : Int) ∧ ls.length = i ∧ l2.length ≤ l4.length ∧
            Hid (Rdr wr D s2 l2 ∧ s2.ownBlock = sv.ownBlock ∧ Var4 wr w.heap.size #[.string ⟨x0.toArray⟩, .int .i64 (x1 : Int), .int .i64 (x2 : Int), .slice la ls.length lc] ∧ LsAt (w.heap.size + 2) wr (.slice la ls.length lc) ls ∧ Fr (· = D) w wr ∧ letsP (x3 - i) l2 (ls.map (·.1)) = letsP x3 l4 [])) (fun iv _ => x3 - (intOf iv).toNat)
          case atStart => exact ⟨0, s4, l4, [], none, 0, Nat.zero_le _, rfl, rfl, Nat.le_refl _, Lib.hid ⟨R4.out, HO4.out, V4.out, LsAt.nil _ _, F4.out, rfl⟩⟩
          case round =>
            clear R4 V4 F4 HO4
            obtain ⟨i, s2, l2, ls, la, lc, hi, rfl, hps, hl2, hH⟩ := hrel
            by_cases hlt : i < x3
            · have hlt' : (i : Int) < (x3 : Int) := by omega
              go_wp2_with fail
              obtain ⟨hR2, hO2, hV2, hDs, hFr, hgo⟩ := hH.out
              have hni : x3 - i = (x3 - (i + 1)) + 1 := by omega
              rw [hni, letsP] at hgo
              obtain ⟨wd, hwd⟩ : ∃ wd, wd = wr.drew := ⟨_, rfl⟩
              have hfd : Fr (fun _ => False) wr wd := by rw [hwd]; exact (Fr.refl _ wr).drew
              have hRd : Rdr wd D s2 l2 := hR2.fr hfd (fun h => h) (fun _ _ _ h => h)
              have hVd : Var4 wd w.heap.size #[.string ⟨x0.toArray⟩, .int .i64 (x1 : Int), .int .i64 (x2 : Int), .slice la ls.length lc] := hV2.fr hfd (fun h => h) (fun h => h)
              have hDd : LsAt (w.heap.size + 2) wd (.slice la ls.length lc) ls := hDs.fr hfd (fun _ h => h.elim)
              have hFd : Fr (· = D) w wd := hFr.trans hfd (fun _ _ h => h) (fun _ _ h => h.elim)
              have HLD : Hid (∀ W : World, Var4 W w.heap.size #[.string ⟨x0.toArray⟩, .int .i64 (x1 : Int), .int .i64 (x2 : Int), .slice la ls.length lc] → (Instr.loadAt 50 (.pointer (some ⟨w.heap.size + 1, 3, none⟩))).run Tryd.prog W = .ok (.slice la ls.length lc) W) := Lib.hid (fun W hW => by
                have hc := hW.cell 3
                have hc' : W.cell? ⟨w.heap.size + 1, 3, none⟩ = some (.slice la ls.length lc) := hc
                clear hW hc
                go_simp)
              have HC := Lib.hid (letter_any wd D s2 l2 hRd (by omega))
              have HWD := Lib.hid hwd
              have HVD := Lib.hid hVd
              have HFD := Lib.hid hFd
              have HDD := Lib.hid hDd
              have HO2 := Lib.hid hO2
              have hszd : w.heap.size ≤ wd.heap.size := hFd.size
              have hszv := hVd.lt
              clear hR2 hO2 hV2 hDs hFr hwd hfd hRd hVd hDd hFd hH hni
              cases hdp : letP l2 with
              | none =>
                rw [hdp] at hgo HC
                have hB : T = none := by rw [← HT4.out, ← hgo]; rfl
                have HB := Lib.hid hB
                have HEND : Hid (∀ c w2, ParR wd D s2 (none : Option (Letr × List UInt8)) (IsLet wd.heap.size) (.panicked c) w2 → ParR w D sv T (IsBox w.heap.size) (.panicked c) w2) := Lib.hid (fun c w2 hR => by
                  rcases hR with ⟨_, e, hf2⟩ | ⟨_, _, _, _, e, _⟩
                  · cases e
                    exact ParR.bad HB.out (HFD.out.trans hf2 (fun _ _ h => h) (fun _ _ h => h))
                  · cases e)
                have HNO : Hid (∀ v w2, ¬ ParR wd D s2 (none : Option (Letr × List UInt8)) (IsLet wd.heap.size) (.returned v) w2) := Lib.hid (fun v w2 hR => by
                  rcases hR with ⟨_, e, _⟩ | ⟨_, _, _, _, e, _⟩
                  · cases e
                  · cases e)
                have HNO2 : Hid (∀ w2, ¬ ParR wd D s2 (none : Option (Letr × List UInt8)) (IsLet wd.heap.size) .outgrown w2) := Lib.hid (fun w2 hR => by
                  rcases hR with ⟨_, e, _⟩ | ⟨_, _, _, _, e, _⟩
                  · cases e
                  · cases e)
                clear hB hgo hdp
                go_wp2_with fail
                refine wp_region_any (by kernel_rfl) ?_
                change wpAny _ _ _ _ _ _ _ (World.drew _)
                rw [← HWD.out]
                refine any_take 0 (some 17) (.pointer (some ⟨w.heap.size + 1, 3, none⟩)) rfl rfl (by kernel_rfl) (by kernel_rfl) (by kernel_rfl) (fun _ _ _ h => h) rfl (fun w => by kernel_rfl) ?_
                simp only [Act.put, List.setIfInBounds_toArray, List.set_cons_zero, List.set_cons_succ]
                refine any_take 2 (some 19) (.pointer (some ⟨D, 0, none⟩)) rfl rfl (by kernel_rfl) (by kernel_rfl) (by kernel_rfl) (fun _ _ _ h => h) rfl (fun w => rfl) ?_
                simp only [Act.put, List.setIfInBounds_toArray, List.set_cons_zero, List.set_cons_succ]
                refine any_two 1 3 (by kernel_rfl) rfl rfl rfl rfl (fun K hK => wp_runs (some 18) rfl (ex_load 50 (.tmp 17) rfl _ _ rfl (HLD.out _ HVD.out)) (hK _ _ ?_))
                  (fun K hK => wp_calls 74 _ (some 20) rfl (ex_call1 74 (.tmp 19) _ rfl _ rfl (fun _ _ => rfl)) _ HC.out (fun v w2 hR => (HNO.out v w2 hR).elim) (fun c w2 hR => ?_) (fun w2 hR => HNO2.out w2 hR))
                · simp only [Act.put, List.setIfInBounds_toArray, List.set_cons_zero, List.set_cons_succ]
                  refine any_one 3 (by kernel_rfl) rfl rfl (fun K hK => wp_calls 74 _ (some 20) rfl (ex_call1 74 (.tmp 19) _ rfl _ rfl (fun _ _ => rfl)) _ HC.out (fun v w2 hR => (HNO.out v w2 hR).elim) (fun c w2 hR => ?_) (fun w2 hR => HNO2.out w2 hR))
                  exact ⟨rfl, HEND.out c w2 hR⟩
                · exact ⟨rfl, HEND.out c w2 hR⟩
              | some x =>
                obtain ⟨d, l3⟩ := x
                have hgo2 : letsP (x3 - (i + 1)) l3 (ls.map (·.1) ++ [d]) = letsP x3 l4 [] := by rw [hdp] at hgo; exact hgo
                rw [hdp] at HC
                have hl3 := letP_len hdp
                have HGO := Lib.hid hgo2
                have HYES : Hid (∀ v w2, ParR wd D s2 (some (d, l3)) (IsLet wd.heap.size) (.returned v) w2 → ∃ pv s3, v = letVd d pv ∧ Row wd.heap.size w2 pv d.bytes ∧ Rdr w2 D s3 l3 ∧ s3.ownBlock = s2.ownBlock ∧ Fr (· = D) wd w2) := Lib.hid (fun v w2 hR => by
                  rcases hR with ⟨e, _, _⟩ | ⟨x, l', v', s3, e1, e2, ⟨pv, e3, e4⟩, h1, h2, h3⟩
                  · cases e
                  · cases e1
                    cases e2
                    exact ⟨pv, s3, e3, e4, h1, h2, h3⟩)
                have HPAN : Hid (∀ c w2, ¬ ParR wd D s2 (some (d, l3)) (IsLet wd.heap.size) (.panicked c) w2) := Lib.hid (fun c w2 hR => by
                  rcases hR with ⟨e, _, _⟩ | ⟨_, _, _, _, _, e, _⟩
                  · cases e
                  · cases e)
                have HNO2 : Hid (∀ w2, ¬ ParR wd D s2 (some (d, l3)) (IsLet wd.heap.size) .outgrown w2) := Lib.hid (fun w2 hR => by
                  rcases hR with ⟨e, _, _⟩ | ⟨_, _, _, _, _, e, _⟩
                  · cases e
                  · cases e)
                have HLIT : Hid (∀ pv W, (Instr.buildSlice 50 1 [(0, letVd d pv)].toArray).run Tryd.prog W = .ok (.slice (some ⟨W.heap.size, 0, none⟩) 1 1) (W.alloc (.cells (ltC d pv) 79))) := Lib.hid (fun pv W =>
                  run_lit_one W 50 79 3 Tryd.underlying50 [.int .i64 0, .int .u8 0, .slice none 0 0] (by kernel_rfl) rfl (by decide) (by decide) (ltC d pv).toList rfl)
                have HSTEP : Hid (∀ pv s3 w2, Row wd.heap.size w2 pv d.bytes → Rdr w2 D s3 l3 → s3.ownBlock = s2.ownBlock → Fr (· = D) wd w2 → Var4 w2 w.heap.size #[.string ⟨x0.toArray⟩, .int .i64 (x1 : Int), .int .i64 (x2 : Int), .slice la ls.length lc] ∧
                    ∃ a c w3, (∀ ty, (Builtin.append_ #[50, 50] ty #[.slice la ls.length lc, .slice (some ⟨w2.heap.size, 0, none⟩) 1 1]).run Tryd.prog (w2.alloc (.cells (ltC d pv) 79)) = .ok (.slice a (ls.length + 1) c) w3) ∧
                      (Instr.storeAt 50 (.pointer (some ⟨w.heap.size + 1, 3, none⟩)) (.slice a (ls.length + 1) c)).run Tryd.prog w3 = .ok () (w3.setCell ⟨w.heap.size + 1, 3, none⟩ (.slice a (ls.length + 1) c)) ∧
                      ∃ ls' : List LV, ls'.length = i + 1 ∧ (Rdr (w3.setCell ⟨w.heap.size + 1, 3, none⟩ (.slice a (ls.length + 1) c)) D s3 l3 ∧ s3.ownBlock = sv.ownBlock ∧ Var4 (w3.setCell ⟨w.heap.size + 1, 3, none⟩ (.slice a (ls.length + 1) c)) w.heap.size #[.string ⟨x0.toArray⟩, .int .i64 (x1 : Int), .int .i64 (x2 : Int), .slice a (ls.length + 1) c] ∧ LsAt (w.heap.size + 2) (w3.setCell ⟨w.heap.size + 1, 3, none⟩ (.slice a (ls.length + 1) c)) (.slice a (ls.length + 1) c) ls' ∧ Fr (· = D) w (w3.setCell ⟨w.heap.size + 1, 3, none⟩ (.slice a (ls.length + 1) c)) ∧ letsP (x3 - (i + 1)) l3 (ls'.map (·.1)) = letsP x3 l4 [])) := Lib.hid (fun pv s3 w2 h1 h2 h3 h4 => by
                  have hs2 := h4.size
                  have hV2 : Var4 w2 w.heap.size #[.string ⟨x0.toArray⟩, .int .i64 (x1 : Int), .int .i64 (x2 : Int), .slice la ls.length lc] := HVD.out.fr h4 (by omega) (by omega)
                  have hd2 : LsAt (w.heap.size + 2) w2 (.slice la ls.length lc) ls := HDD.out.fr h4 (fun g hg => Or.inl (by omega))
                  have hrow : Row (w.heap.size + 2) w2 pv d.bytes := ⟨h1.1, fun ad n' c' e' => by obtain ⟨a1, a2, a3⟩ := h1.2 ad n' c' e'; exact ⟨by omega, a2, a3⟩⟩
                  have hlvlt : ∀ g, (Value.slice la ls.length lc).ownBlock = some g → w.heap.size + 2 ≤ g ∧ g < wd.heap.size := fun g hg => World.ownsRow.lt HDD.out.own g hg
                  obtain ⟨a, c, w3, hrun, hds, hgr, hwh⟩ := appL1 w2 (d, pv) hd2 (by omega) (by omega) hrow (fun g hg hg2 => by have := row_base h1 g hg; have := (hlvlt g hg2).2; omega)
                  have hln : (ls ++ [(d, pv)]).length = ls.length + 1 := by simp
                  rw [hln] at hrun hds hwh
                  have hf23 : Fr (fun k => (Value.slice la ls.length lc).ownBlock = some k) w2 w3 := ⟨hgr.os, hgr.tape, hgr.output, hgr.size, fun k hk hne => hgr.block k hk (fun e => hne e.symm)⟩
                  have hV3 : Var4 w3 w.heap.size #[.string ⟨x0.toArray⟩, .int .i64 (x1 : Int), .int .i64 (x2 : Int), .slice la ls.length lc] := hV2.fr hf23 (fun e => by have := (hlvlt _ e).1; omega) (fun e => by have := (hlvlt _ e).1; omega)
                  have hst : (Instr.storeAt 50 (.pointer (some ⟨w.heap.size + 1, 3, none⟩)) (.slice a (ls.length + 1) c)).run Tryd.prog w3 = .ok () (w3.setCell ⟨w.heap.size + 1, 3, none⟩ (.slice a (ls.length + 1) c)) := by
                    have hc : w3.cell? ⟨w.heap.size + 1, 3, none⟩ = some (.slice la ls.length lc) := hV3.cell 3
                    have hf := hV3.free 3
                    clear hrun hds hgr hwh hV3 h1 h2 h4 hV2 hd2 hrow hlvlt hf23
                    go_simp
                  have hf34 : Fr (· = w.heap.size + 1) w3 (w3.setCell ⟨w.heap.size + 1, 3, none⟩ (.slice a (ls.length + 1) c)) := (Fr.refl (· = w.heap.size + 1) w3).setCell ⟨w.heap.size + 1, 3, none⟩ (Or.inl rfl) _
                  have hall : Fr (fun k => k = w.heap.size + 1 ∨ (Value.slice la ls.length lc).ownBlock = some k) w2 (w3.setCell ⟨w.heap.size + 1, 3, none⟩ (.slice a (ls.length + 1) c)) := hf23.trans hf34 (fun _ _ h => Or.inr h) (fun _ _ h => Or.inl h)
                  have hso : s3.ownBlock = sv.ownBlock := h3.trans HO2.out
                  refine ⟨hV2, a, c, w3, hrun, hst, ls ++ [(d, pv)], by rw [hln]; omega, h2.fr hall (fun e => ?_) (fun g hg hne e => ?_), hso, hV3.set 3 _, hds.fr hf34 (fun g hg => Or.inl (by omega)), ?_, ?_⟩
                  · rcases e with e | e
                    · omega
                    · have := (hlvlt D e).1; omega
                  · rw [hso] at hg
                    have hne2 : l ≠ [] := fun e0 => by subst e0; have : l3 = [] := List.eq_nil_of_length_eq_zero (by simp only [List.length_nil] at *; omega); exact hne this
                    have := HSV.out g hg hne2
                    rcases e with e | e
                    · omega
                    · have := (hlvlt g e).1; omega
                  · exact ((HFD.out.trans h4 (fun _ _ h => h) (fun _ _ h => h)).trans hall (o'' := fun k => k = D ∨ (w.heap.size ≤ k)) (fun _ _ h => Or.inl h) (fun k hk e => by
                      rcases e with e | e
                      · exact Or.inr (by omega)
                      · have := (hlvlt k e).1; exact Or.inr (by omega))).mono (fun k hk e => by rcases e with e | e; exact e; omega)
                  · rw [List.map_append]; exact HGO.out)
                clear hgo hgo2 hdp
                go_wp2_with fail
                refine wp_region_any (by kernel_rfl) ?_
                change wpAny _ _ _ _ _ _ _ (World.drew _)
                rw [← HWD.out]
                refine any_take 0 (some 17) (.pointer (some ⟨w.heap.size + 1, 3, none⟩)) rfl rfl (by kernel_rfl) (by kernel_rfl) (by kernel_rfl) (fun _ _ _ h => h) rfl (fun w => by kernel_rfl) ?_
                simp only [Act.put, List.setIfInBounds_toArray, List.set_cons_zero, List.set_cons_succ]
                refine any_take 2 (some 19) (.pointer (some ⟨D, 0, none⟩)) rfl rfl (by kernel_rfl) (by kernel_rfl) (by kernel_rfl) (fun _ _ _ h => h) rfl (fun w => rfl) ?_
                simp only [Act.put, List.setIfInBounds_toArray, List.set_cons_zero, List.set_cons_succ]
                refine any_two 1 3 (by kernel_rfl) rfl rfl rfl rfl (fun K hK => wp_runs (some 18) rfl (ex_load 50 (.tmp 17) rfl _ _ rfl (HLD.out _ HVD.out)) (hK _ _ ?_))
                  (fun K hK => wp_calls 74 _ (some 20) rfl (ex_call1 74 (.tmp 19) _ rfl _ rfl (fun _ _ => rfl)) _ HC.out (fun v w2 hR => hK _ _ ?_) (fun c w2 hR => (HPAN.out c w2 hR).elim) (fun w2 hR => HNO2.out w2 hR))
                · simp only [Act.put, List.setIfInBounds_toArray, List.set_cons_zero, List.set_cons_succ]
                  refine any_one 3 (by kernel_rfl) rfl rfl (fun K hK => wp_calls 74 _ (some 20) rfl (ex_call1 74 (.tmp 19) _ rfl _ rfl (fun _ _ => rfl)) _ HC.out (fun v w2 hR => hK _ _ ?_) (fun c w2 hR => (HPAN.out c w2 hR).elim) (fun w2 hR => HNO2.out w2 hR))
                  obtain ⟨pv, s3, rfl, g1, g2, g3, g4⟩ := HYES.out v w2 hR
                  obtain ⟨_, a, c, w3, hrun, hst, ls', hpl, hrel'⟩ := HSTEP.out pv s3 w2 g1 g2 g3 g4
                  have RUN := Lib.hid hrun
                  have ST := Lib.hid hst
                  have REL := Lib.hid hrel'
                  clear g1 g2 g3 g4 hrun hst hrel' hR
                  simp only [Act.put, List.setIfInBounds_toArray, List.set_cons_zero, List.set_cons_succ]
                  refine any_one 4 (by kernel_rfl) rfl rfl (fun K hK => wp_runs (some 21) rfl (ex_buildSlice 50 1 #[(0, .tmp 20)] rfl _ rfl _ (HLIT.out pv w2)) (hK _ _ ?_))
                  simp only [Act.put, List.setIfInBounds_toArray, List.set_cons_zero, List.set_cons_succ]
                  refine any_one 5 (by kernel_rfl) rfl rfl (fun K hK => wp_runs (some 22) rfl (ex_append (.tmp 18) (.tmp 21) 50 50 rfl _ _ _ rfl rfl RUN.out) (hK _ _ ?_))
                  simp only [Act.put, List.setIfInBounds_toArray, List.set_cons_zero, List.set_cons_succ]
                  refine any_one 6 (by kernel_rfl) rfl rfl (fun K hK => wp_runs (w' := w3) (v := .pointer (some ⟨w.heap.size + 1, 3, none⟩)) (some 23) rfl (by kernel_rfl) (hK _ _ ?_))
                  simp only [Act.put, List.setIfInBounds_toArray, List.set_cons_zero, List.set_cons_succ]
                  refine any_one 7 (by kernel_rfl) rfl rfl (fun K hK => wp_skips none rfl (ex_store 50 (.tmp 23) (.tmp 22) rfl _ _ rfl rfl ST.out) (hK _ _ ?_))
                  simp only [Act.put]
                  refine wpAny_done (by kernel_rfl) ?_ _
                  generalize w3.setCell ⟨w.heap.size + 1, 3, none⟩ (.slice a (ls.length + 1) c) = w4 at *
                  go_wp2
                  go_roundw
                  case rel => exact ⟨i + 1, s3, l3, ls', a, c, by omega, by go_num, hpl, by omega, Lib.hid (by rw [show ls'.length = ls.length + 1 by omega]; exact REL.out)⟩
                  case measure => simp [intOf]; omega
                · obtain ⟨pv, s3, rfl, g1, g2, g3, g4⟩ := HYES.out v w2 hR
                  obtain ⟨hV2, a, c, w3, hrun, hst, ls', hpl, hrel'⟩ := HSTEP.out pv s3 w2 g1 g2 g3 g4
                  have LD2 := Lib.hid (HLD.out w2 hV2)
                  have LD3 := Lib.hid (HLD.out (w2.alloc (.cells (ltC d pv) 79)) (hV2.fr ((Fr.refl (fun _ => False) w2).alloc _) (fun h => h) (fun h => h)))
                  have RUN := Lib.hid hrun
                  have ST := Lib.hid hst
                  have REL := Lib.hid hrel'
                  clear g1 g2 g3 g4 hrun hst hrel' hR hV2
                  simp only [Act.put, List.setIfInBounds_toArray, List.set_cons_zero, List.set_cons_succ]
                  refine any_two 1 4 (by kernel_rfl) rfl rfl rfl rfl (fun K hK => wp_runs (some 18) rfl (ex_load 50 (.tmp 17) rfl _ _ rfl LD2.out) (hK _ _ ?_)) (fun K hK => wp_runs (some 21) rfl (ex_buildSlice 50 1 #[(0, .tmp 20)] rfl _ rfl _ (HLIT.out pv w2)) (hK _ _ ?_))
                  · simp only [Act.put, List.setIfInBounds_toArray, List.set_cons_zero, List.set_cons_succ]
                    refine any_one 4 (by kernel_rfl) rfl rfl (fun K hK => wp_runs (some 21) rfl (ex_buildSlice 50 1 #[(0, .tmp 20)] rfl _ rfl _ (HLIT.out pv w2)) (hK _ _ ?_))
                    simp only [Act.put, List.setIfInBounds_toArray, List.set_cons_zero, List.set_cons_succ]
                    refine any_one 5 (by kernel_rfl) rfl rfl (fun K hK => wp_runs (some 22) rfl (ex_append (.tmp 18) (.tmp 21) 50 50 rfl _ _ _ rfl rfl RUN.out) (hK _ _ ?_))
                    simp only [Act.put, List.setIfInBounds_toArray, List.set_cons_zero, List.set_cons_succ]
                    refine any_one 6 (by kernel_rfl) rfl rfl (fun K hK => wp_runs (w' := w3) (v := .pointer (some ⟨w.heap.size + 1, 3, none⟩)) (some 23) rfl (by kernel_rfl) (hK _ _ ?_))
                    simp only [Act.put, List.setIfInBounds_toArray, List.set_cons_zero, List.set_cons_succ]
                    refine any_one 7 (by kernel_rfl) rfl rfl (fun K hK => wp_skips none rfl (ex_store 50 (.tmp 23) (.tmp 22) rfl _ _ rfl rfl ST.out) (hK _ _ ?_))
                    simp only [Act.put]
                    refine wpAny_done (by kernel_rfl) ?_ _
                    generalize w3.setCell ⟨w.heap.size + 1, 3, none⟩ (.slice a (ls.length + 1) c) = w4 at *
                    go_wp2
                    go_roundw
                    case rel => exact ⟨i + 1, s3, l3, ls', a, c, by omega, by go_num, hpl, by omega, Lib.hid (by rw [show ls'.length = ls.length + 1 by omega]; exact REL.out)⟩
                    case measure => simp [intOf]; omega
                  · simp only [Act.put, List.setIfInBounds_toArray, List.set_cons_zero, List.set_cons_succ]
                    refine any_one 1 (by kernel_rfl) rfl rfl (fun K hK => wp_runs (some 18) rfl (ex_load 50 (.tmp 17) rfl _ _ rfl LD3.out) (hK _ _ ?_))
                    simp only [Act.put, List.setIfInBounds_toArray, List.set_cons_zero, List.set_cons_succ]
                    refine any_one 5 (by kernel_rfl) rfl rfl (fun K hK => wp_runs (some 22) rfl (ex_append (.tmp 18) (.tmp 21) 50 50 rfl _ _ _ rfl rfl RUN.out) (hK _ _ ?_))
                    simp only [Act.put, List.setIfInBounds_toArray, List.set_cons_zero, List.set_cons_succ]
                    refine any_one 6 (by kernel_rfl) rfl rfl (fun K hK => wp_runs (w' := w3) (v := .pointer (some ⟨w.heap.size + 1, 3, none⟩)) (some 23) rfl (by kernel_rfl) (hK _ _ ?_))
                    simp only [Act.put, List.setIfInBounds_toArray, List.set_cons_zero, List.set_cons_succ]
                    refine any_one 7 (by kernel_rfl) rfl rfl (fun K hK => wp_skips none rfl (ex_store 50 (.tmp 23) (.tmp 22) rfl _ _ rfl rfl ST.out) (hK _ _ ?_))
                    simp only [Act.put]
                    refine wpAny_done (by kernel_rfl) ?_ _
                    generalize w3.setCell ⟨w.heap.size + 1, 3, none⟩ (.slice a (ls.length + 1) c) = w4 at *
                    go_wp2
                    go_roundw
                    case rel => exact ⟨i + 1, s3, l3, ls', a, c, by omega, by go_num, hpl, by omega, Lib.hid (by rw [show ls'.length = ls.length + 1 by omega]; exact REL.out)⟩
                    case measure => simp [intOf]; omega
            · have hie : x3 - i = 0 := by omega
              obtain ⟨hR2, hO2, hV2, hDs, hFr, hgo⟩ := hH.out
              rw [hie, letsP] at hgo
              have hTT : T = some (⟨⟨x0.toArray⟩, (x1 : Int), (x2 : Int), ls.map (·.1)⟩, l2) := by rw [← HT4.out, ← hgo]; rfl
              have hsw := hFr.size
              have hfr : Fr (· = w.heap.size) wr (wr.setRow w.heap.size #[.string ⟨x0.toArray⟩, .int .i64 (x1 : Int), .int .i64 (x2 : Int), .slice la ls.length lc]) := ⟨rfl, rfl, rfl, by rw [setRow_size]; exact Nat.le_refl _, fun k hk hn => setRow_other _ _ _ _ hn⟩
              have hLS : LsAt w.heap.size (wr.setRow w.heap.size #[.string ⟨x0.toArray⟩, .int .i64 (x1 : Int), .int .i64 (x2 : Int), .slice la ls.length lc]) (.slice la ls.length lc) ls := (hDs.fr hfr (fun g e => Or.inl (by omega))).down (Nat.le_add_right _ 2)
              have hF10 : Fr (· = D) w (wr.setRow w.heap.size #[.string ⟨x0.toArray⟩, .int .i64 (x1 : Int), .int .i64 (x2 : Int), .slice la ls.length lc]) := hFr.trans hfr (fun _ _ h => h) (fun k hk e => by omega)
              have hso : ∀ g, s2.ownBlock = some g → l2 ≠ [] → g < w.heap.size := fun g hg hn => HSV.out g (by rw [← hO2]; exact hg) (fun e => by subst e; have : l2 = [] := List.eq_nil_of_length_eq_zero (by simp only [List.length_nil] at *; omega); exact hn this)
              have hR10 : Rdr (wr.setRow w.heap.size #[.string ⟨x0.toArray⟩, .int .i64 (x1 : Int), .int .i64 (x2 : Int), .slice la ls.length lc]) D s2 l2 := hR2.fr hfr (by omega) (fun g hg hn e => by have := hso g hg hn; omega)
              have HFIN : Hid (ParR w D sv T (IsBox w.heap.size) (.returned (.agg #[.string ⟨x0.toArray⟩, .int .i64 (x1 : Int), .int .i64 (x2 : Int), .slice la ls.length lc])) (wr.setRow w.heap.size #[.string ⟨x0.toArray⟩, .int .i64 (x1 : Int), .int .i64 (x2 : Int), .slice la ls.length lc])) := Lib.hid (ParR.good hTT ⟨⟨⟨x0.toArray⟩, (x1 : Int), (x2 : Int), ls, .slice la ls.length lc⟩, rfl, rfl, rfl, rfl, rfl, hLS⟩ hR10 hO2 hF10)
              have HVE := Lib.hid hV2
              have hsr := setRow_heap wr w.heap.size _ #[.string ⟨x0.toArray⟩, .int .i64 (x1 : Int), .int .i64 (x2 : Int), .slice la ls.length lc] 52 (0, 0) hV2.res
              have HSR := Lib.hid hsr
              have HI1 : Hid ((Tryd.prog.info? 52).map (·.size) = some (#[.string ⟨x0.toArray⟩, .int .i64 (x1 : Int), .int .i64 (x2 : Int), .slice la ls.length lc] : Array Value).size) := Lib.hid (by kernel_rfl)
              have HI2 : Hid ((#[.string ⟨x0.toArray⟩, .int .i64 (x1 : Int), .int .i64 (x2 : Int), .slice la ls.length lc] : Array Value).all (·.oneCell') = true) := Lib.hid (by rw [Array.all_eq_true_iff_forall_mem]; intro u hu; simp only [List.mem_toArray, List.mem_cons, List.not_mem_nil, or_false] at hu; rcases hu with rfl | rfl | rfl | rfl <;> rfl)
              clear hgo hTT hsw hfr hLS hF10 hso hR10 hsr hR2 hO2 hV2 hDs hFr hH
              go_upto_region 9 with fail
              go_wp2_with (first | (refine wpList_load_row rfl 52 _ rfl (w.heap.size + 1) rfl 52 _ (0, 0) _ HVE.out.var Tryd.underlying52 rfl (by kernel_rfl) ?_) | (refine wpList_store_row rfl 52 _ _ rfl w.heap.size _ rfl rfl 52 _ HVE.out.res HI1.out rfl HI2.out ?_))
              exact bodyPost_ret (v := .agg #[.string ⟨x0.toArray⟩, .int .i64 (x1 : Int), .int .i64 (x2 : Int), .slice la ls.length lc]) (results_cell_row rfl _ _ w.heap.size 52 _ (0, 0) _ rfl HSR.out Tryd.underlying52 rfl (by kernel_rfl)) rfl HFIN.out

end Go.Proofs.YtjljbnilckkjnaaDoor
