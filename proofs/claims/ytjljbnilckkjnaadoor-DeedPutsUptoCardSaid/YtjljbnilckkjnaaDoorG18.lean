/- Deed: a user's bytes are read. -/
import Derived.Test.YtjljbnilckkjnaaDoorG17
namespace Go.Proofs.YtjljbnilckkjnaaDoor
open Go Go.RowKit

def boxsP : Nat → List UInt8 → List BxD → Option (List BxD × List UInt8)
  | 0, l, acc => some (acc, l)
  | n + 1, l, acc => (boxP l).bind fun x => boxsP n x.2 (acc ++ [x.1])
/-- A user's name, number and boxes. -/
structure UsD where
  name : ByteArray
  valid : Int
  bs : List BxD
def userP (l : List UInt8) : Option (UsD × List UInt8) :=
  (textP l).bind fun a0 => (numP 4 a0.2).bind fun a1 => (numP 1 a1.2).bind fun a2 => (boxsP a2.1 a2.2 []).bind fun a3 => some (⟨⟨a0.1.toArray⟩, (a1.1 : Int), a3.1⟩, a3.2)
/-- What is read of a user's bytes: the fault's number, or the user. -/
def takeU (l : List UInt8) : Except Int UsD :=
  match userP l with
  | none => .error 3
  | some (u, rest) => if rest = [] then .ok u else .error 4
theorem takeU_none {l : List UInt8} (h : userP l = none) : takeU l = .error 3 := by unfold takeU; rw [h]
theorem takeU_some {l r : List UInt8} {u : UsD} (h : userP l = some (u, r)) : takeU l = if r = [] then .ok u else .error 4 := by unfold takeU; rw [h]
def Bx.dat (b : Bx) : BxD := ⟨b.name, b.valid, b.next, b.ls.map (·.1)⟩
theorem IsBox.dat {B : Nat} {x : BxD} {v : Value} {w : World} (h : IsBox B x v w) : ∃ b : Bx, v = bxV b ∧ b.dat = x ∧ LsAt B w b.lv b.ls := by
  obtain ⟨b, e, n1, n2, n3, n4, e4⟩ := h
  refine ⟨b, e, ?_, e4⟩
  unfold Bx.dat
  rw [n1, n2, n3, n4]
theorem BsAt.down {B B' : Nat} {w : World} {v : Value} {bs : List Bx} (h : BsAt B w v bs) (hB : B' ≤ B) : BsAt B' w v bs :=
  ⟨World.ownsRow.mono h.own hB, fun b hb => (h.rows b hb).down hB, h.ne⟩
/-- What is told of a fault; of a user. -/
def UsB (w0 : World) (l : List UInt8) (V : Nat) (k : Int) (w : World) : Prop := takeU l = .error k ∧ Fr (· = V) w0 w
def UsG (w0 : World) (l : List UInt8) (V B : Nat) (w : World) : Prop := Fr (· = V) w0 w ∧ ∃ (u : UsD) (bs : List Bx) (lv : Value), takeU l = .ok u ∧ bs.map Bx.dat = u.bs ∧ w.heap[V]? = some (.cells #[.string u.name, .int .i64 u.valid, lv] 43 (0, 0)) ∧ BsAt B w lv bs
/-- The user's variable. -/
structure Usr (w : World) (V : Nat) (C : Array Value) : Prop where
  var : w.heap[V]? = some (.cells C 43 (0, 0))
theorem Usr.lt {w : World} {V : Nat} {C : Array Value} (h : Usr w V C) : V < w.heap.size := (Array.getElem?_eq_some_iff.1 h.var).1
theorem Usr.fr {o : Nat → Prop} {w w' : World} {V : Nat} {C : Array Value} (h : Usr w V C) (hf : Fr o w w') (h0 : ¬ o V) : Usr w' V C := ⟨(hf.block V h.lt h0).trans h.var⟩
theorem Usr.set {w : World} {V : Nat} {C : Array Value} (h : Usr w V C) (j : Nat) (v : Value) : Usr (w.setCell ⟨V, j, none⟩ v) V (C.setIfInBounds j v) := ⟨heap_setCell_same w V j _ _ v h.var⟩
theorem Usr.cell {w : World} {V : Nat} {C : Array Value} (h : Usr w V C) (j : Nat) : w.cell? ⟨V, j, none⟩ = C[j]? := cell_of_row _ _ _ _ _ _ h.var
theorem Usr.free {w : World} {V : Nat} {C : Array Value} (h : Usr w V C) (j : Nat) : w.frozen? ⟨V, j, none⟩ = false := frozen_of_row _ _ _ _ _ h.var
theorem rdr_setV {u : World} {D V : Nat} {s : Value} {l : List UInt8} (h : Rdr u D s l) (hDV : V ≠ D) (hs : ∀ g, s.ownBlock = some g → l ≠ [] → g ≠ V) (j : Nat) (v : Value) : Rdr (u.setCell ⟨V, j, none⟩ v) D s l :=
  h.fr ((Fr.refl (· = V) u).setCell ⟨V, j, none⟩ (Or.inl rfl) v) (fun e => hDV e.symm) (fun g hg hn e => hs g hg hn e)

set_option maxHeartbeats 8000000 in
set_option maxRecDepth 100000 in
theorem takeUser1 (w y0 : World) (D V : Nat) (sv : Value) (l : List UInt8) (hy : Below w.heap.size w y0) (hD : w.heap.size < D) (hV : V < w.heap.size) (h : Rdr y0 D sv l) (hl : l.length ≤ 9223372036854775807)
    (hv : y0.heap[V]? = some (.cells #[.string ⟨#[]⟩, .int .i64 0, .slice none 0 0] 43 (0, 0))) (hsV : ∀ g, sv.ownBlock = some g → l ≠ [] → g ≠ V) :
    Calls Tryd.prog 56 #[.pointer (some ⟨D, 0, none⟩), .pointer (some ⟨V, 0, none⟩)] y0 (ByR w D (UsB w l V) (UsG w l V (w.heap.size + 1)) y0) := by
  have hDlt := h.lt
  have hDV : V ≠ D := by omega
  have hszy0 := hy.size
  obtain ⟨T, hT⟩ : ∃ T, userP l = T := ⟨_, rfl⟩
  have HTT := Lib.hid hT
  unfold userP at hT
  have HT0 := Lib.hid hT
  have V0 : Hid (Usr y0 V #[.string ⟨#[]⟩, .int .i64 0, .slice none 0 0]) := Lib.hid ⟨hv⟩
  have R0 := Lib.hid h
  have F0 : Hid (Fr (fun k => k = D ∨ k = V) y0 y0) := Lib.hid (Fr.refl _ y0)
  have HSV := Lib.hid hsV
  have HSL : Hid (∀ g, sv.ownBlock = some g → l ≠ [] → g < y0.heap.size) := Lib.hid h.byz.lt
  have HFR : Hid (∀ w2, Fr (fun k => k = D ∨ k = V) y0 w2 → Fr (· = V) w w2) := Lib.hid (fun w2 hf => (Fr.of_below (· = V) hy).trans hf (fun _ _ h => h) (fun k hk e => e.elim (fun e => by omega) id))
  have HBAD : Hid (∀ w2, T = none → Fr (fun k => k = D ∨ k = V) y0 w2 → ByR w D (UsB w l V) (UsG w l V (w.heap.size + 1)) y0 (.panicked (faultC 3)) w2) := Lib.hid (fun w2 e hf =>
    ⟨hf.mono (fun k _ e => e.imp id (fun e => by omega)), Or.inl ⟨3, rfl, takeU_none (HTT.out.trans e), HFR.out _ hf⟩⟩)
  have hl0 : l.length ≤ 9223372036854775807 := hl
  clear hT hv hsV h
  have HC0 := Lib.hid (text_any y0 D sv l R0.out (by omega))
  go_enter Tryd.func56, Tryd.ntmps56
  go_wp2_with fail
  refine HC0.out.mono ?_
  rintro e u0 (⟨hr, rfl, hf⟩ | ⟨x0, l1, v0, s1, hr, rfl, hv, hd, ho, hf⟩)
  · have HE : Hid (T = none) := Lib.hid (by rw [← HT0.out, hr]; rfl)
    have HF := Lib.hid (HBAD.out _ HE.out (F0.out.trans hf (o'' := fun k => k = D ∨ k = V) (fun _ _ h => h) (fun _ _ h => Or.inl h)))
    clear hr hf HT0 HC0 F0 V0 R0
    go_wp2
    exact ⟨rfl, HF.out⟩
  · have hT := HT0.out
    rw [hr] at hT
    rw [Option.bind_some] at hT
    dsimp only at hT
    have HT1 := Lib.hid hT
    obtain ⟨hll0, hxx0⟩ := text_len hr
    have hvf := V0.out.fr hf hDV
    unfold IsStr at hv
    subst hv
    have hoo : s1.ownBlock = sv.ownBlock := ho
    have hso : ∀ g, s1.ownBlock = some g → l1 ≠ [] → g ≠ V := fun g hg hn => HSV.out g (by rw [← hoo]; exact hg) (fun e => by subst e; have : l1 = [] := List.eq_nil_of_length_eq_zero (by simp only [List.length_nil] at *; omega); exact hn this)
    obtain ⟨y1, hy1⟩ : ∃ y1, (u0.setCell ⟨V, 0, none⟩ (.string ⟨x0.toArray⟩)) = y1 := ⟨_, rfl⟩
    have V1 : Hid (Usr y1 V #[.string ⟨x0.toArray⟩, .int .i64 0, .slice none 0 0]) := Lib.hid (by rw [← hy1]; exact hvf.set 0 (.string ⟨x0.toArray⟩))
    have R1 : Hid (Rdr y1 D s1 l1) := Lib.hid (by rw [← hy1]; exact rdr_setV hd hDV hso 0 (.string ⟨x0.toArray⟩))
    have F1 : Hid (Fr (fun k => k = D ∨ k = V) y0 y1) := Lib.hid (by rw [← hy1]; exact (F0.out.trans hf (o'' := fun k => k = D ∨ k = V) (fun _ _ h => h) (fun _ _ h => Or.inl h)).setCell ⟨V, 0, none⟩ (Or.inl (Or.inr rfl)) _)
    have HO1 := Lib.hid hoo
    have HY1 := Lib.hid hy1
    have cc0 : u0.cell? ⟨V, 0, none⟩ = some (.string ⟨#[]⟩) := hvf.cell 0
    have ff0 := hvf.free 0
    clear hT hr hvf hd ho hoo hf hso hy1 HT0 HC0 F0 V0 R0
    have HC1 := Lib.hid (number_any y1 D s1 l1 4 R1.out (by omega) (by omega))
    go_wp2_with (first | rw [HY1.out])
    refine HC1.out.mono ?_
    rintro e u1 (⟨hr, rfl, hf⟩ | ⟨x1, l2, v1, s2, hr, rfl, hv, hd, ho, hf⟩)
    · have HE : Hid (T = none) := Lib.hid (by rw [← HT1.out, hr]; rfl)
      have HF := Lib.hid (HBAD.out _ HE.out (F1.out.trans hf (o'' := fun k => k = D ∨ k = V) (fun _ _ h => h) (fun _ _ h => Or.inl h)))
      clear hr hf HT1 HC1 F1 V1 R1
      go_wp2
      exact ⟨rfl, HF.out⟩
    · have hT := HT1.out
      rw [hr] at hT
      rw [Option.bind_some] at hT
      dsimp only at hT
      have HT2 := Lib.hid hT
      obtain ⟨hll1, hxx1⟩ := numP_len hr
      have hvf := V1.out.fr hf hDV
      unfold IsNum at hv
      subst hv
      have hoo : s2.ownBlock = sv.ownBlock := ho.trans HO1.out
      have hso : ∀ g, s2.ownBlock = some g → l2 ≠ [] → g ≠ V := fun g hg hn => HSV.out g (by rw [← hoo]; exact hg) (fun e => by subst e; have : l2 = [] := List.eq_nil_of_length_eq_zero (by simp only [List.length_nil] at *; omega); exact hn this)
      obtain ⟨y2, hy2⟩ : ∃ y2, (u1.setCell ⟨V, 1, none⟩ (.int .i64 (x1 : Int))) = y2 := ⟨_, rfl⟩
      have V2 : Hid (Usr y2 V #[.string ⟨x0.toArray⟩, .int .i64 (x1 : Int), .slice none 0 0]) := Lib.hid (by rw [← hy2]; exact hvf.set 1 (.int .i64 (x1 : Int)))
      have R2 : Hid (Rdr y2 D s2 l2) := Lib.hid (by rw [← hy2]; exact rdr_setV hd hDV hso 1 (.int .i64 (x1 : Int)))
      have F2 : Hid (Fr (fun k => k = D ∨ k = V) y0 y2) := Lib.hid (by rw [← hy2]; exact (F1.out.trans hf (o'' := fun k => k = D ∨ k = V) (fun _ _ h => h) (fun _ _ h => Or.inl h)).setCell ⟨V, 1, none⟩ (Or.inl (Or.inr rfl)) _)
      have HO2 := Lib.hid hoo
      have HY2 := Lib.hid hy2
      have cc1 : u1.cell? ⟨V, 1, none⟩ = some (.int .i64 0) := hvf.cell 1
      have ff1 := hvf.free 1
      clear hT hr hvf hd ho hoo hf hso hy2 HT1 HC1 F1 V1 R1 HY1 cc0 ff0
      have HC2 := Lib.hid (number_any y2 D s2 l2 1 R2.out (by omega) (by omega))
      go_wp2_with (first | rw [HY2.out])
      refine HC2.out.mono ?_
      rintro e u2 (⟨hr, rfl, hf⟩ | ⟨x2, l3, v2, s3, hr, rfl, hv, hd, ho, hf⟩)
      · have HE : Hid (T = none) := Lib.hid (by rw [← HT2.out, hr]; rfl)
        have HF := Lib.hid (HBAD.out _ HE.out (F2.out.trans hf (o'' := fun k => k = D ∨ k = V) (fun _ _ h => h) (fun _ _ h => Or.inl h)))
        clear hr hf HT2 HC2 F2 V2 R2
        go_wp2
        exact ⟨rfl, HF.out⟩
      · have hT := HT2.out
        rw [hr] at hT
        rw [Option.bind_some] at hT
        dsimp only at hT
        have HT3 := Lib.hid hT
        obtain ⟨hll2, hxx2⟩ := numP_len hr
        have hvf := V2.out.fr hf hDV
        unfold IsNum at hv
        subst hv
        have hoo : s3.ownBlock = sv.ownBlock := ho.trans HO2.out
        have hso : ∀ g, s3.ownBlock = some g → l3 ≠ [] → g ≠ V := fun g hg hn => HSV.out g (by rw [← hoo]; exact hg) (fun e => by subst e; have : l3 = [] := List.eq_nil_of_length_eq_zero (by simp only [List.length_nil] at *; omega); exact hn this)
        have V3 := Lib.hid hvf
        have R3 := Lib.hid hd
        have F3 : Hid (Fr (fun k => k = D ∨ k = V) y0 u2) := Lib.hid (F2.out.trans hf (fun _ _ h => h) (fun _ _ h => Or.inl h))
        have HO3 := Lib.hid hoo
        clear hT hr hvf hd ho hoo hf hso HT2 HC2 F2 V2 R2 HY2 cc1 ff1
        obtain ⟨n, hn⟩ : ∃ n, x2 = n := ⟨_, rfl⟩
        subst hn
        go_wp2_with fail
        go_loopw [11] (fun iv wr => ∃ (i : Nat) (s2 : Value) (q2 : List UInt8) (bs : List Bx) (la : Option Addr) (lc : Nat), i ≤ x2 ∧ iv = .int .i64 (i : Int) ∧ bs.length = i ∧ q2.length ≤ l3.length ∧
          Hid (Rdr wr D s2 q2 ∧ s2.ownBlock = sv.ownBlock ∧ Usr wr V #[.string ⟨x0.toArray⟩, .int .i64 (x1 : Int), .slice la bs.length lc] ∧ BsAt y0.heap.size wr (.slice la bs.length lc) bs ∧ Fr (fun k => k = D ∨ k = V) y0 wr ∧ boxsP (x2 - i) q2 (bs.map Bx.dat) = boxsP x2 l3 [])) (fun iv _ => x2 - (intOf iv).toNat)
        case atStart => exact ⟨0, s3, l3, [], none, 0, Nat.zero_le _, rfl, rfl, Nat.le_refl _, Lib.hid ⟨R3.out, HO3.out, V3.out, BsAt.nil _ _, F3.out, rfl⟩⟩
        case round =>
          clear R3 V3 F3 HO3
          obtain ⟨i, s2, q2, bs, la, lc, hi, rfl, hps, hl2, hH⟩ := hrel
          by_cases hlt : i < x2
          · have hlt' : (i : Int) < (x2 : Int) := by omega
            go_wp2_with fail
            obtain ⟨hR2, hO2, hV2, hDs, hFr, hgo⟩ := hH.out
            have hni : x2 - i = (x2 - (i + 1)) + 1 := by omega
            rw [hni, boxsP] at hgo
            obtain ⟨wd, hwd⟩ : ∃ wd, wd = wr.drew := ⟨_, rfl⟩
            have hfd : Fr (fun _ => False) wr wd := by rw [hwd]; exact (Fr.refl _ wr).drew
            have hRd : Rdr wd D s2 q2 := hR2.fr hfd (fun h => h) (fun _ _ _ h => h)
            have hVd : Usr wd V #[.string ⟨x0.toArray⟩, .int .i64 (x1 : Int), .slice la bs.length lc] := hV2.fr hfd (fun h => h)
            have hDd : BsAt y0.heap.size wd (.slice la bs.length lc) bs := hDs.fr hfd (fun _ h => h.elim)
            have hFd : Fr (fun k => k = D ∨ k = V) y0 wd := hFr.trans hfd (fun _ _ h => h) (fun _ _ h => h.elim)
            have HLD : Hid (∀ W : World, Usr W V #[.string ⟨x0.toArray⟩, .int .i64 (x1 : Int), .slice la bs.length lc] → (Instr.loadAt 41 (.pointer (some ⟨V, 2, none⟩))).run Tryd.prog W = .ok (.slice la bs.length lc) W) := Lib.hid (fun W hW => by
              have hc := hW.cell 2
              have hc' : W.cell? ⟨V, 2, none⟩ = some (.slice la bs.length lc) := hc
              clear hW hc
              go_simp)
            have HC := Lib.hid (box_any wd D s2 q2 hRd (by omega))
            have HWD := Lib.hid hwd
            have HVD := Lib.hid hVd
            have HFD := Lib.hid hFd
            have HDD := Lib.hid hDd
            have HO2 := Lib.hid hO2
            have hszd : y0.heap.size ≤ wd.heap.size := hFd.size
            have hszv := hVd.lt
            clear hR2 hO2 hV2 hDs hFr hwd hfd hRd hVd hDd hFd hH hni
            cases hdp : boxP q2 with
            | none =>
              rw [hdp] at hgo HC
              have hB : T = none := by rw [← HT3.out, ← hgo]; rfl
              have HB := Lib.hid hB
              have HEND : Hid (∀ c w2, ParR wd D s2 (none : Option (BxD × List UInt8)) (IsBox wd.heap.size) (.panicked c) w2 → ByR w D (UsB w l V) (UsG w l V (w.heap.size + 1)) y0 (.panicked c) w2) := Lib.hid (fun c w2 hR => by
                rcases hR with ⟨_, e, hf2⟩ | ⟨_, _, _, _, e, _⟩
                · cases e
                  exact HBAD.out _ HB.out (HFD.out.trans hf2 (fun _ _ h => h) (fun _ _ h => Or.inl h))
                · cases e)
              have HNO : Hid (∀ v w2, ¬ ParR wd D s2 (none : Option (BxD × List UInt8)) (IsBox wd.heap.size) (.returned v) w2) := Lib.hid (fun v w2 hR => by
                rcases hR with ⟨_, e, _⟩ | ⟨_, _, _, _, e, _⟩
                · cases e
                · cases e)
              have HNO2 : Hid (∀ w2, ¬ ParR wd D s2 (none : Option (BxD × List UInt8)) (IsBox wd.heap.size) .outgrown w2) := Lib.hid (fun w2 hR => by
                rcases hR with ⟨_, e, _⟩ | ⟨_, _, _, _, e, _⟩
                · cases e
                · cases e)
              clear hB hgo hdp
              go_wp2_with fail
              refine wp_region_any (by kernel_rfl) ?_
              change wpAny _ _ _ _ _ _ _ (World.drew _)
              rw [← HWD.out]
              refine any_take 0 (some 13) (.pointer (some ⟨V, 2, none⟩)) rfl rfl (by kernel_rfl) (by kernel_rfl) (by kernel_rfl) (fun _ _ _ h => h) rfl (fun w => by kernel_rfl) ?_
              simp only [Act.put, List.setIfInBounds_toArray, List.set_cons_zero, List.set_cons_succ]
              refine any_take 2 (some 15) (.pointer (some ⟨D, 0, none⟩)) rfl rfl (by kernel_rfl) (by kernel_rfl) (by kernel_rfl) (fun _ _ _ h => h) rfl (fun w => rfl) ?_
              simp only [Act.put, List.setIfInBounds_toArray, List.set_cons_zero, List.set_cons_succ]
              refine any_two 1 3 (by kernel_rfl) rfl rfl rfl rfl (fun K hK => wp_runs (some 14) rfl (ex_load 41 (.tmp 13) rfl _ _ rfl (HLD.out _ HVD.out)) (hK _ _ ?_))
                (fun K hK => wp_calls 58 _ (some 16) rfl (ex_call1 58 (.tmp 15) _ rfl _ rfl (fun _ _ => rfl)) _ HC.out (fun v w2 hR => (HNO.out v w2 hR).elim) (fun c w2 hR => ?_) (fun w2 hR => HNO2.out w2 hR))
              · simp only [Act.put, List.setIfInBounds_toArray, List.set_cons_zero, List.set_cons_succ]
                refine any_one 3 (by kernel_rfl) rfl rfl (fun K hK => wp_calls 58 _ (some 16) rfl (ex_call1 58 (.tmp 15) _ rfl _ rfl (fun _ _ => rfl)) _ HC.out (fun v w2 hR => (HNO.out v w2 hR).elim) (fun c w2 hR => ?_) (fun w2 hR => HNO2.out w2 hR))
                exact ⟨rfl, HEND.out c w2 hR⟩
              · exact ⟨rfl, HEND.out c w2 hR⟩
            | some x =>
              obtain ⟨d, q3⟩ := x
              have hgo2 : boxsP (x2 - (i + 1)) q3 (bs.map Bx.dat ++ [d]) = boxsP x2 l3 [] := by rw [hdp] at hgo; exact hgo
              rw [hdp] at HC
              have hl3 := boxP_len hdp
              have HGO := Lib.hid hgo2
              have HYES : Hid (∀ v w2, ParR wd D s2 (some (d, q3)) (IsBox wd.heap.size) (.returned v) w2 → ∃ b s3, v = bxV b ∧ b.dat = d ∧ LsAt wd.heap.size w2 b.lv b.ls ∧ Rdr w2 D s3 q3 ∧ s3.ownBlock = s2.ownBlock ∧ Fr (· = D) wd w2) := Lib.hid (fun v w2 hR => by
                rcases hR with ⟨e, _, _⟩ | ⟨x, l', v', s3, e1, e2, e3, h1, h2, h3⟩
                · cases e
                · cases e1
                  cases e2
                  obtain ⟨b, e4, e5, e6⟩ := e3.dat
                  exact ⟨b, s3, e4, e5, e6, h1, h2, h3⟩)
              have HPAN : Hid (∀ c w2, ¬ ParR wd D s2 (some (d, q3)) (IsBox wd.heap.size) (.panicked c) w2) := Lib.hid (fun c w2 hR => by
                rcases hR with ⟨e, _, _⟩ | ⟨_, _, _, _, _, e, _⟩
                · cases e
                · cases e)
              have HNO2 : Hid (∀ w2, ¬ ParR wd D s2 (some (d, q3)) (IsBox wd.heap.size) .outgrown w2) := Lib.hid (fun w2 hR => by
                rcases hR with ⟨e, _, _⟩ | ⟨_, _, _, _, _, e, _⟩
                · cases e
                · cases e)
              have HLIT : Hid (∀ (b : Bx) W, (Instr.buildSlice 41 1 [(0, bxV b)].toArray).run Tryd.prog W = .ok (.slice (some ⟨W.heap.size, 0, none⟩) 1 1) (W.alloc (.cells (bxC b) 52))) := Lib.hid (fun b W =>
                run_lit_one W 41 52 4 Tryd.underlying41 [.string ⟨#[]⟩, .int .i64 0, .int .i64 0, .slice none 0 0] (by kernel_rfl) rfl (by decide) (by decide) (bxC b).toList rfl)
              have HSTEP : Hid (∀ (b : Bx) s3 w2, b.dat = d → LsAt wd.heap.size w2 b.lv b.ls → Rdr w2 D s3 q3 → s3.ownBlock = s2.ownBlock → Fr (· = D) wd w2 → Usr w2 V #[.string ⟨x0.toArray⟩, .int .i64 (x1 : Int), .slice la bs.length lc] ∧
                  ∃ a c w3, (∀ ty, (Builtin.append_ #[41, 41] ty #[.slice la bs.length lc, .slice (some ⟨w2.heap.size, 0, none⟩) 1 1]).run Tryd.prog (w2.alloc (.cells (bxC b) 52)) = .ok (.slice a (bs.length + 1) c) w3) ∧
                    (Instr.storeAt 41 (.pointer (some ⟨V, 2, none⟩)) (.slice a (bs.length + 1) c)).run Tryd.prog w3 = .ok () (w3.setCell ⟨V, 2, none⟩ (.slice a (bs.length + 1) c)) ∧
                    ∃ bs' : List Bx, bs'.length = i + 1 ∧ (Rdr (w3.setCell ⟨V, 2, none⟩ (.slice a (bs.length + 1) c)) D s3 q3 ∧ s3.ownBlock = sv.ownBlock ∧ Usr (w3.setCell ⟨V, 2, none⟩ (.slice a (bs.length + 1) c)) V #[.string ⟨x0.toArray⟩, .int .i64 (x1 : Int), .slice a (bs.length + 1) c] ∧ BsAt y0.heap.size (w3.setCell ⟨V, 2, none⟩ (.slice a (bs.length + 1) c)) (.slice a (bs.length + 1) c) bs' ∧ Fr (fun k => k = D ∨ k = V) y0 (w3.setCell ⟨V, 2, none⟩ (.slice a (bs.length + 1) c)) ∧ boxsP (x2 - (i + 1)) q3 (bs'.map Bx.dat) = boxsP x2 l3 [])) := Lib.hid (fun b s3 w2 h0 h1 h2 h3 h4 => by
                have hs2 := h4.size
                have hV2 : Usr w2 V #[.string ⟨x0.toArray⟩, .int .i64 (x1 : Int), .slice la bs.length lc] := HVD.out.fr h4 hDV
                have hd2 : BsAt y0.heap.size w2 (.slice la bs.length lc) bs := HDD.out.fr h4 (fun g hg => Or.inl (by omega))
                have hlvlt : ∀ g, (Value.slice la bs.length lc).ownBlock = some g → y0.heap.size ≤ g ∧ g < wd.heap.size := fun g hg => World.ownsRow.lt HDD.out.own g hg
                obtain ⟨a, c, w3, hrun, hds, hgr, hwh⟩ := appB1 w2 b hd2 (by omega) (by omega) (h1.down (by omega)) (fun g hg hg2 => by have := (h1.has g hg).1; have := (hlvlt g hg2).2; omega)
                have hln : (bs ++ [b]).length = bs.length + 1 := by simp
                rw [hln] at hrun hds hwh
                have hf23 : Fr (fun k => (Value.slice la bs.length lc).ownBlock = some k) w2 w3 := ⟨hgr.os, hgr.tape, hgr.output, hgr.size, fun k hk hne => hgr.block k hk (fun e => hne e.symm)⟩
                have hV3 : Usr w3 V #[.string ⟨x0.toArray⟩, .int .i64 (x1 : Int), .slice la bs.length lc] := hV2.fr hf23 (fun e => by have := (hlvlt _ e).1; omega)
                have hst : (Instr.storeAt 41 (.pointer (some ⟨V, 2, none⟩)) (.slice a (bs.length + 1) c)).run Tryd.prog w3 = .ok () (w3.setCell ⟨V, 2, none⟩ (.slice a (bs.length + 1) c)) := by
                  have hc : w3.cell? ⟨V, 2, none⟩ = some (.slice la bs.length lc) := hV3.cell 2
                  have hf := hV3.free 2
                  clear hrun hds hgr hwh hV3 h0 h1 h2 h4 hV2 hd2 hlvlt hf23
                  go_simp
                have hf34 : Fr (· = V) w3 (w3.setCell ⟨V, 2, none⟩ (.slice a (bs.length + 1) c)) := (Fr.refl (· = V) w3).setCell ⟨V, 2, none⟩ (Or.inl rfl) _
                have hall : Fr (fun k => k = V ∨ (Value.slice la bs.length lc).ownBlock = some k) w2 (w3.setCell ⟨V, 2, none⟩ (.slice a (bs.length + 1) c)) := hf23.trans hf34 (fun _ _ h => Or.inr h) (fun _ _ h => Or.inl h)
                have hso : s3.ownBlock = sv.ownBlock := h3.trans HO2.out
                refine ⟨hV2, a, c, w3, hrun, hst, bs ++ [b], by rw [hln]; omega, h2.fr hall (fun e => ?_) (fun g hg hne e => ?_), hso, hV3.set 2 _, hds.fr hf34 (fun g hg => Or.inl (by omega)), ?_, ?_⟩
                · rcases e with e | e
                  · omega
                  · have := (hlvlt D e).1; omega
                · rw [hso] at hg
                  have hne2 : l ≠ [] := fun e0 => by subst e0; have : q3 = [] := List.eq_nil_of_length_eq_zero (by simp only [List.length_nil] at *; omega); exact hne this
                  rcases e with e | e
                  · exact HSV.out g hg hne2 e
                  · have := (hlvlt g e).1; have := HSL.out g hg hne2; omega
                · refine (HFD.out.trans h4 (o'' := fun k => k = D ∨ k = V) (fun _ _ h => h) (fun _ _ h => Or.inl h)).trans hall (fun _ _ h => h) (fun k hk e => ?_)
                  rcases e with e | e
                  · exact Or.inr e
                  · have := (hlvlt k e).1; omega
                · rw [List.map_append, List.map_singleton, h0]; exact HGO.out)
              clear hgo hgo2 hdp
              go_wp2_with fail
              refine wp_region_any (by kernel_rfl) ?_
              change wpAny _ _ _ _ _ _ _ (World.drew _)
              rw [← HWD.out]
              refine any_take 0 (some 13) (.pointer (some ⟨V, 2, none⟩)) rfl rfl (by kernel_rfl) (by kernel_rfl) (by kernel_rfl) (fun _ _ _ h => h) rfl (fun w => by kernel_rfl) ?_
              simp only [Act.put, List.setIfInBounds_toArray, List.set_cons_zero, List.set_cons_succ]
              refine any_take 2 (some 15) (.pointer (some ⟨D, 0, none⟩)) rfl rfl (by kernel_rfl) (by kernel_rfl) (by kernel_rfl) (fun _ _ _ h => h) rfl (fun w => rfl) ?_
              simp only [Act.put, List.setIfInBounds_toArray, List.set_cons_zero, List.set_cons_succ]
              refine any_two 1 3 (by kernel_rfl) rfl rfl rfl rfl (fun K hK => wp_runs (some 14) rfl (ex_load 41 (.tmp 13) rfl _ _ rfl (HLD.out _ HVD.out)) (hK _ _ ?_))
                (fun K hK => wp_calls 58 _ (some 16) rfl (ex_call1 58 (.tmp 15) _ rfl _ rfl (fun _ _ => rfl)) _ HC.out (fun v w2 hR => hK _ _ ?_) (fun c w2 hR => (HPAN.out c w2 hR).elim) (fun w2 hR => HNO2.out w2 hR))
              · simp only [Act.put, List.setIfInBounds_toArray, List.set_cons_zero, List.set_cons_succ]
                refine any_one 3 (by kernel_rfl) rfl rfl (fun K hK => wp_calls 58 _ (some 16) rfl (ex_call1 58 (.tmp 15) _ rfl _ rfl (fun _ _ => rfl)) _ HC.out (fun v w2 hR => hK _ _ ?_) (fun c w2 hR => (HPAN.out c w2 hR).elim) (fun w2 hR => HNO2.out w2 hR))
                obtain ⟨b, s3, rfl, g0, g1, g2, g3, g4⟩ := HYES.out v w2 hR
                obtain ⟨_, a, c, w3, hrun, hst, bs', hpl, hrel'⟩ := HSTEP.out b s3 w2 g0 g1 g2 g3 g4
                have RUN := Lib.hid hrun
                have ST := Lib.hid hst
                have REL := Lib.hid hrel'
                clear g0 g1 g2 g3 g4 hrun hst hrel' hR
                simp only [Act.put, List.setIfInBounds_toArray, List.set_cons_zero, List.set_cons_succ]
                refine any_one 4 (by kernel_rfl) rfl rfl (fun K hK => wp_runs (some 17) rfl (ex_buildSlice 41 1 #[(0, .tmp 16)] rfl _ rfl _ (HLIT.out b w2)) (hK _ _ ?_))
                simp only [Act.put, List.setIfInBounds_toArray, List.set_cons_zero, List.set_cons_succ]
                refine any_one 5 (by kernel_rfl) rfl rfl (fun K hK => wp_runs (some 18) rfl (ex_append (.tmp 14) (.tmp 17) 41 41 rfl _ _ _ rfl rfl RUN.out) (hK _ _ ?_))
                simp only [Act.put, List.setIfInBounds_toArray, List.set_cons_zero, List.set_cons_succ]
                refine any_one 6 (by kernel_rfl) rfl rfl (fun K hK => wp_runs (w' := w3) (v := .pointer (some ⟨V, 2, none⟩)) (some 19) rfl (by kernel_rfl) (hK _ _ ?_))
                simp only [Act.put, List.setIfInBounds_toArray, List.set_cons_zero, List.set_cons_succ]
                refine any_one 7 (by kernel_rfl) rfl rfl (fun K hK => wp_skips none rfl (ex_store 41 (.tmp 19) (.tmp 18) rfl _ _ rfl rfl ST.out) (hK _ _ ?_))
                simp only [Act.put]
                refine wpAny_done (by kernel_rfl) ?_ _
                generalize w3.setCell ⟨V, 2, none⟩ (.slice a (bs.length + 1) c) = w4 at *
                go_wp2
                go_roundw
                case rel => exact ⟨i + 1, s3, q3, bs', a, c, by omega, by go_num, hpl, by omega, Lib.hid (by rw [show bs'.length = bs.length + 1 by omega]; exact REL.out)⟩
                case measure => simp [intOf]; omega
              · obtain ⟨b, s3, rfl, g0, g1, g2, g3, g4⟩ := HYES.out v w2 hR
                obtain ⟨hV2, a, c, w3, hrun, hst, bs', hpl, hrel'⟩ := HSTEP.out b s3 w2 g0 g1 g2 g3 g4
                have LD2 := Lib.hid (HLD.out w2 hV2)
                have LD3 := Lib.hid (HLD.out (w2.alloc (.cells (bxC b) 52)) (hV2.fr ((Fr.refl (fun _ => False) w2).alloc _) (fun h => h)))
                have RUN := Lib.hid hrun
                have ST := Lib.hid hst
                have REL := Lib.hid hrel'
                clear g0 g1 g2 g3 g4 hrun hst hrel' hR hV2
                simp only [Act.put, List.setIfInBounds_toArray, List.set_cons_zero, List.set_cons_succ]
                refine any_two 1 4 (by kernel_rfl) rfl rfl rfl rfl (fun K hK => wp_runs (some 14) rfl (ex_load 41 (.tmp 13) rfl _ _ rfl LD2.out) (hK _ _ ?_)) (fun K hK => wp_runs (some 17) rfl (ex_buildSlice 41 1 #[(0, .tmp 16)] rfl _ rfl _ (HLIT.out b w2)) (hK _ _ ?_))
                · simp only [Act.put, List.setIfInBounds_toArray, List.set_cons_zero, List.set_cons_succ]
                  refine any_one 4 (by kernel_rfl) rfl rfl (fun K hK => wp_runs (some 17) rfl (ex_buildSlice 41 1 #[(0, .tmp 16)] rfl _ rfl _ (HLIT.out b w2)) (hK _ _ ?_))
                  simp only [Act.put, List.setIfInBounds_toArray, List.set_cons_zero, List.set_cons_succ]
                  refine any_one 5 (by kernel_rfl) rfl rfl (fun K hK => wp_runs (some 18) rfl (ex_append (.tmp 14) (.tmp 17) 41 41 rfl _ _ _ rfl rfl RUN.out) (hK _ _ ?_))
                  simp only [Act.put, List.setIfInBounds_toArray, List.set_cons_zero, List.set_cons_succ]
                  refine any_one 6 (by kernel_rfl) rfl rfl (fun K hK => wp_runs (w' := w3) (v := .pointer (some ⟨V, 2, none⟩)) (some 19) rfl (by kernel_rfl) (hK _ _ ?_))
                  simp only [Act.put, List.setIfInBounds_toArray, List.set_cons_zero, List.set_cons_succ]
                  refine any_one 7 (by kernel_rfl) rfl rfl (fun K hK => wp_skips none rfl (ex_store 41 (.tmp 19) (.tmp 18) rfl _ _ rfl rfl ST.out) (hK _ _ ?_))
                  simp only [Act.put]
                  refine wpAny_done (by kernel_rfl) ?_ _
                  generalize w3.setCell ⟨V, 2, none⟩ (.slice a (bs.length + 1) c) = w4 at *
                  go_wp2
                  go_roundw
                  case rel => exact ⟨i + 1, s3, q3, bs', a, c, by omega, by go_num, hpl, by omega, Lib.hid (by rw [show bs'.length = bs.length + 1 by omega]; exact REL.out)⟩
                  case measure => simp [intOf]; omega
                · simp only [Act.put, List.setIfInBounds_toArray, List.set_cons_zero, List.set_cons_succ]
                  refine any_one 1 (by kernel_rfl) rfl rfl (fun K hK => wp_runs (some 14) rfl (ex_load 41 (.tmp 13) rfl _ _ rfl LD3.out) (hK _ _ ?_))
                  simp only [Act.put, List.setIfInBounds_toArray, List.set_cons_zero, List.set_cons_succ]
                  refine any_one 5 (by kernel_rfl) rfl rfl (fun K hK => wp_runs (some 18) rfl (ex_append (.tmp 14) (.tmp 17) 41 41 rfl _ _ _ rfl rfl RUN.out) (hK _ _ ?_))
                  simp only [Act.put, List.setIfInBounds_toArray, List.set_cons_zero, List.set_cons_succ]
                  refine any_one 6 (by kernel_rfl) rfl rfl (fun K hK => wp_runs (w' := w3) (v := .pointer (some ⟨V, 2, none⟩)) (some 19) rfl (by kernel_rfl) (hK _ _ ?_))
                  simp only [Act.put, List.setIfInBounds_toArray, List.set_cons_zero, List.set_cons_succ]
                  refine any_one 7 (by kernel_rfl) rfl rfl (fun K hK => wp_skips none rfl (ex_store 41 (.tmp 19) (.tmp 18) rfl _ _ rfl rfl ST.out) (hK _ _ ?_))
                  simp only [Act.put]
                  refine wpAny_done (by kernel_rfl) ?_ _
                  generalize w3.setCell ⟨V, 2, none⟩ (.slice a (bs.length + 1) c) = w4 at *
                  go_wp2
                  go_roundw
                  case rel => exact ⟨i + 1, s3, q3, bs', a, c, by omega, by go_num, hpl, by omega, Lib.hid (by rw [show bs'.length = bs.length + 1 by omega]; exact REL.out)⟩
                  case measure => simp [intOf]; omega
          · have hie : x2 - i = 0 := by omega
            have hlt' : ¬ (i : Int) < (x2 : Int) := by omega
            obtain ⟨hR2, hO2, hV2, hDs, hFr, hgo⟩ := hH.out
            rw [hie, boxsP] at hgo
            have hTT : T = some (⟨⟨x0.toArray⟩, (x1 : Int), bs.map Bx.dat⟩, q2) := by rw [← HT3.out, ← hgo]; rfl
            have hTU := takeU_some (HTT.out.trans hTT)
            have HP : Hid (ByR w D (UsB w l V) (UsG w l V (w.heap.size + 1)) y0 (.returned (.tuple #[])) wr) := Lib.hid (by
              refine ⟨hFr.mono (fun k _ e => e.imp id (fun e => by omega)), Or.inr ⟨s2, q2, rfl, hR2, fun e => ?_, fun e => ?_⟩⟩
              · rw [if_pos e] at hTU
                exact ⟨HFR.out _ hFr, _, bs, _, hTU, rfl, hV2.var, hDs.down (by omega)⟩
              · rw [if_neg e] at hTU
                exact ⟨hTU, HFR.out _ hFr⟩)
            clear hgo hTT hTU hR2 hO2 hV2 hDs hFr hH
            go_wp2
            exact bodyPost_end (results_none rfl _ _ _) rfl HP.out

end Go.Proofs.YtjljbnilckkjnaaDoor
