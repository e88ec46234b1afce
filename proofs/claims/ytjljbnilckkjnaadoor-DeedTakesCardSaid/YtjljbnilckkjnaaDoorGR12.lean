/- Deed: the document's TakeAll. -/
import Derived.Test.YtjljbnilckkjnaaDoorGR4
import Derived.Test.YtjljbnilckkjnaaDoorGR5
import Derived.Test.YtjljbnilckkjnaaDoorGR6
import Derived.Test.YtjljbnilckkjnaaDoorG28
namespace Go.Proofs.YtjljbnilckkjnaaDoor
open Go Go.RowKit

/-- Where the first loop stands: the reader in block N, the deeds from N + 1 on. -/
structure TaS (w0 wr : World) (sv : Value) (l : List UInt8) (lv : Value) (ps : List (Dd × Value)) : Prop where
  rd : RdS wr w0.heap.size w0.heap.size sv (false, l)
  ds : DsAt (w0.heap.size + 1) wr lv ps
  below : Below w0.heap.size w0 wr
/-- A deed that is read: it lies in block X. -/
structure DeS (w0 wX wr : World) (X : Nat) (sv : Value) (s : RS) (cs : Array Value) : Prop where
  rd : RdS wr w0.heap.size w0.heap.size sv s
  row : wr.heap[X]? = some (.cells cs 28 (0, 0))
  fr : Fr (fun k => k = w0.heap.size ∨ X ≤ k) wX wr
theorem DeS.read {w0 wX wr w' : World} {X : Nat} {sv sv' : Value} {s s' : RS} {cs : Array Value} (h : DeS w0 wX wr X sv s cs) (hD : w0.heap.size < X) (hr : RdS w' w0.heap.size w0.heap.size sv' s') (hf : Fr (· = w0.heap.size) wr w') : DeS w0 wX w' X sv' s' cs :=
  ⟨hr, (hf.block X (Array.getElem?_eq_some_iff.1 h.row).1 (by omega)).trans h.row, h.fr.trans hf (fun _ _ h => h) (fun _ _ h => Or.inl h)⟩
theorem DeS.put {w0 wX wr : World} {X : Nat} {sv : Value} {s : RS} {cs : Array Value} (h : DeS w0 wX wr X sv s cs) (hD : w0.heap.size < X) (j : Nat) (u : Value) (cs' : Array Value) (hc : cs.setIfInBounds j u = cs') : DeS w0 wX (wr.setCell ⟨X, j, none⟩ u) X sv s cs' := by
  have hf : Fr (· = X) wr (wr.setCell ⟨X, j, none⟩ u) := (Fr.refl (· = X) wr).setCell ⟨X, j, none⟩ (Or.inl rfl) u
  refine ⟨h.rd.fr hf (fun k _ e => by omega), ?_, h.fr.trans hf (fun _ _ h => h) (fun k _ e => Or.inr (by omega))⟩
  rw [← hc]
  exact heap_setCell_same wr X j _ _ _ h.row
theorem ds_made (w : World) (B : Nat) (hB : B ≤ w.heap.size) : DsAt B (w.alloc (.cells #[] 28)) (.slice (some ⟨w.heap.size, 0, none⟩) 0 0) [] :=
  ⟨⟨rfl, Or.inr ⟨w.heap.size, 0, #[], rfl, hB, heap_alloc_new w _, Nat.le_refl _, Nat.zero_le _, rfl, rfl⟩⟩, (fun p hp => by cases hp), (fun p hp => by cases hp)⟩
theorem u8_of {x : Nat} (h : x < 256) : (((UInt8.ofNat x).toNat : Nat) : Int) = (x : Int) := by
  have : (UInt8.ofNat x).toNat = x := by simp only [UInt8.toNat_ofNat']; omega
  omega
theorem num_spec {s t : RS} {n x : Nat} (h : rNum s n = (x, t)) : x < 256 ^ n := by have := rNum_lt s n; rwa [h] at this
theorem deed_state {l2 : List UInt8} {s : RS} {d : Dd} (h : rDeed (false, l2) = (d, s)) : (s.1 = true ∧ deedP l2 = none) ∨ (∃ l3, s = (false, l3) ∧ deedP l2 = some (d, l3)) := by
  cases hdp : deedP l2 with
  | none =>
    have := fits_deed.no l2 hdp
    rw [h] at this
    exact Or.inl ⟨this, rfl⟩
  | some y =>
    obtain ⟨d', l3⟩ := y
    have := fits_deed.ok l2 d' l3 hdp
    rw [h] at this
    injection this with e1 e2
    exact Or.inr ⟨l3, e2, by rw [e1]; rfl⟩
set_option maxHeartbeats 16000000 in
set_option maxRecDepth 100000 in
theorem refTakeAll (w : World) (sv : Value) (l : List UInt8) (hsv : Byz w sv l) (hl : l.length ≤ 9223372036854775807) (hT : Tabs w) :
    Calls Tryd.prog 23 #[sv] w (TakeAllR l w) := by
  obtain ⟨sa, sc, rfl⟩ := hsv.1
  by_cases h18 : 1800 < l.length
  · have HF : Hid (TakeAllR l w (.returned (.tuple #[.slice none 0 0, .int .i64 6])) w) := Lib.hid (by
      have e : takeAllE l = 6 := by unfold takeAllE; rw [if_pos h18]
      exact ⟨Below.refl _ _, Or.inl ⟨by rw [e]; decide, by rw [e]⟩⟩)
    have h18' : (1800 : Int) < (l.length : Int) := by omega
    clear hsv hT h18
    go_enter Tryd.func23, Tryd.ntmps23
    go_wp2
    go_ret2
    exact HF.out
  have h18' : ¬ (1800 : Int) < (l.length : Int) := by omega
  have H18 := Lib.hid h18
  obtain ⟨w1, hw1⟩ : ∃ w1, w.alloc (.cells #[.slice sa l.length sc, .bool false] 73) = w1 := ⟨_, rfl⟩
  have hb1 : Below w.heap.size w w1 := by rw [← hw1]; exact (Below.refl _ w).alloc (Nat.le_refl _) _
  have r1 : w1.heap[w.heap.size]? = some (.cells #[.slice sa l.length sc, .bool false] 73 (0, 0)) := by rw [← hw1]; exact heap_alloc_new w _
  have hR1 : RdS w1 w.heap.size w.heap.size (.slice sa l.length sc) (false, l) := ⟨⟨r1, hsv.below hb1, fun hn e => by have := hsv.lt _ e hn; omega⟩, fun g hg hn => hsv.lt g hg hn, hl⟩
  have hBAD : ∀ (u : World) (K : Int), K ≠ 0 → takeAllE l = K → Below w.heap.size w u → TakeAllR l w (.returned (.tuple #[.slice none 0 0, .int .i64 K])) u := fun u K hk h hb => ⟨hb, Or.inl ⟨by rw [h]; exact hk, by rw [h]⟩⟩
  have HBAD := Lib.hid hBAD
  have HTT : Hid (∀ u, Below w.heap.size w u → Tabs u) := Lib.hid (fun u hu => hT.below hu (Nat.le_refl _))
  have HW1 := Lib.hid hw1
  have HB1 := Lib.hid hb1
  have hC1 := rs_num w1 _ _ _ _ 1 hR1 (by omega)
  unfold RsN at hC1
  clear hsv hw1 r1 hR1 hBAD hT hb1 h18
  cases hn : numP 1 l with
  | none =>
    have hno := (fits_num 1).no l hn
    obtain ⟨x0, t0, hx0⟩ : ∃ x t, rNum (false, l) 1 = (x, t) := ⟨_, _, rfl⟩
    rw [hx0] at hC1
    have hoff : t0.1 = true := by rw [hx0] at hno; exact hno
    have HC1 := Lib.hid hC1
    have HK := Lib.hid (takeAllE_err H18.out (takeE_short hn))
    clear hn hno hx0 hC1
    go_enter Tryd.func23, Tryd.ntmps23
    go_wp2_with (first | rw [HW1.out])
    refine HC1.out.mono ?_
    rintro e w2 ⟨s2, rfl, hr2, hf2⟩
    have c1 : w2.cell? ⟨w.heap.size, 1, none⟩ = some (.bool t0.1) := cell_of_row _ _ _ _ _ _ hr2.rd.blk
    rw [hoff] at c1
    have HE := Lib.hid (HBAD.out w2 3 (by decide) HK.out (HB1.out.trans (hf2.below HB1.out.size (fun k e => by omega))))
    clear hr2 hf2 HC1 HK hoff HBAD
    go_wp2
    go_ret2
    exact HE.out
  | some y =>
    obtain ⟨n, l1⟩ := y
    have hx0 := (fits_num 1).ok l n l1 hn
    obtain ⟨hl1, hn256⟩ := numP_len hn
    rw [show rNum (false, l) 1 = (n, (false, l1)) from hx0] at hC1
    have HC1 := Lib.hid hC1
    have HN := Lib.hid hn
    clear hn hx0 hC1
    by_cases hb : n = 0 ∨ 12 < n
    · have HK := Lib.hid (takeAllE_err H18.out (takeE_form HN.out hb))
      have hsp : (n : Int) < 1 ∨ (¬ (n : Int) < 1 ∧ (12 : Int) < (n : Int)) := by omega
      clear hb
      go_enter Tryd.func23, Tryd.ntmps23
      go_wp2_with (first | rw [HW1.out])
      refine HC1.out.mono ?_
      rintro e w2 ⟨s2, rfl, hr2, hf2⟩
      have c1 : w2.cell? ⟨w.heap.size, 1, none⟩ = some (.bool false) := cell_of_row _ _ _ _ _ _ hr2.rd.blk
      have HE := Lib.hid (HBAD.out w2 4 (by decide) HK.out (HB1.out.trans (hf2.below HB1.out.size (fun k e => by omega))))
      clear hr2 hf2 HC1 HK HBAD
      rcases hsp with h1 | ⟨h1, h2⟩
      · go_wp2
        go_ret2
        exact HE.out
      · go_wp2
        go_ret2
        exact HE.out
    · have HG := Lib.hid (takeE_go HN.out hb)
      have hn1 : ¬ (n : Int) < 1 := by omega
      have hn2 : ¬ (12 : Int) < (n : Int) := by omega
      clear hb
      go_enter Tryd.func23, Tryd.ntmps23
      go_wp2_with (first | rw [HW1.out])
      refine HC1.out.mono ?_
      rintro e w2 ⟨s2, rfl, hr2, hf2⟩
      have c1 : w2.cell? ⟨w.heap.size, 1, none⟩ = some (.bool false) := cell_of_row _ _ _ _ _ _ hr2.rd.blk
      have hB2 := HB1.out.trans (hf2.below HB1.out.size (fun k e => by omega))
      have hlt2 : w.heap.size < w2.heap.size := hr2.rd.lt
      obtain ⟨w3, hw3⟩ : ∃ w3, w2.alloc (.cells #[] 28) = w3 := ⟨_, rfl⟩
      have hb3 : Below w2.heap.size w2 w3 := by rw [← hw3]; exact (Below.refl _ w2).alloc (Nat.le_refl _) _
      have hds3 : DsAt (w.heap.size + 1) w3 (.slice (some ⟨w2.heap.size, 0, none⟩) 0 0) [] := by rw [← hw3]; exact ds_made w2 _ (by omega)
      have HS3 := Lib.hid (⟨hr2.below hb3, hds3, hB2.trans (hb3.mono hB2.size)⟩ : TaS w w3 s2 l1 (.slice (some ⟨w2.heap.size, 0, none⟩) 0 0) [])
      have HW3 := Lib.hid hw3
      clear hr2 hf2 HC1 hB2 hw3 hb3 hds3 HW1 HB1 hlt2
      go_wp2_with (first | rw [HW3.out])
      go_loopw [6, 7] (fun ov iv wr => ∃ (i : Nat) (sv : Value) (l2 : List UInt8) (la : Option Addr) (lc : Nat) (ps : List (Dd × Value)), i ≤ n ∧ iv = .int .i64 (i : Int) ∧ ov = .slice la i lc ∧ ps.length = i ∧ Hid (TaS w wr sv l2 (.slice la i lc) ps ∧ deedsP (n - i) l2 (ps.map (·.1)) = deedsP n l1 [])) (fun _ iv _ => n - (intOf iv).toNat)
      case atStart => exact ⟨0, s2, l1, _, 0, [], Nat.zero_le _, rfl, rfl, rfl, Lib.hid ⟨HS3.out, rfl⟩⟩
      case round =>
        clear HS3 HW3 c1
        obtain ⟨i, sv, l2, la, lc, ps, hi, rfl, rfl, hps, hH⟩ := hrel
        obtain ⟨hS, hgo⟩ := hH.out
        by_cases hlt : i < n
        · have hlt' : (i : Int) < (n : Int) := by omega
          have hD : w.heap.size < wr.heap.size := hS.rd.rd.lt
          obtain ⟨X, hX⟩ : ∃ X, wr.heap.size = X := ⟨_, rfl⟩
          rw [hX] at hD
          obtain ⟨a0, ha0⟩ : ∃ a0, (wr.alloc (.cells #[.int .i64 0, .string ⟨#[]⟩, .string ⟨#[]⟩, .string ⟨#[]⟩, .int .i64 0, .int .i64 0, .int .u8 0, .int .i64 0, .int .i64 0, .slice none 0 0] 28)).setRow X #[.int .i64 0, .string ⟨#[]⟩, .string ⟨#[]⟩, .string ⟨#[]⟩, .int .i64 0, .int .i64 0, .int .u8 0, .int .i64 0, .int .i64 0, .slice none 0 0] = a0 := ⟨_, rfl⟩
          have hrow0 : (wr.alloc (.cells #[.int .i64 0, .string ⟨#[]⟩, .string ⟨#[]⟩, .string ⟨#[]⟩, .int .i64 0, .int .i64 0, .int .u8 0, .int .i64 0, .int .i64 0, .slice none 0 0] 28)).heap[X]? = some (.cells #[.int .i64 0, .string ⟨#[]⟩, .string ⟨#[]⟩, .string ⟨#[]⟩, .int .i64 0, .int .i64 0, .int .u8 0, .int .i64 0, .int .i64 0, .slice none 0 0] 28 (0, 0)) := by rw [← hX]; exact heap_alloc_new wr _
          have hrow1 : a0.heap[X]? = some (.cells #[.int .i64 0, .string ⟨#[]⟩, .string ⟨#[]⟩, .string ⟨#[]⟩, .int .i64 0, .int .i64 0, .int .u8 0, .int .i64 0, .int .i64 0, .slice none 0 0] 28 (0, 0)) := by rw [← ha0]; exact setRow_heap _ _ _ _ _ _ hrow0
          have hba : Below wr.heap.size wr a0 := by
            have hb0 : Below wr.heap.size wr (wr.alloc (.cells #[.int .i64 0, .string ⟨#[]⟩, .string ⟨#[]⟩, .string ⟨#[]⟩, .int .i64 0, .int .i64 0, .int .u8 0, .int .i64 0, .int .i64 0, .slice none 0 0] 28)) := (Below.refl _ wr).alloc (Nat.le_refl _) _
            rw [← ha0]
            exact ⟨hb0.os, hb0.tape, hb0.output, by rw [setRow_size]; exact hb0.size, fun k hk => (setRow_other _ _ _ _ (by omega)).trans (hb0.block k hk)⟩
          have hI0 : DeS w wr a0 X sv (false, l2) #[.int .i64 0, .string ⟨#[]⟩, .string ⟨#[]⟩, .string ⟨#[]⟩, .int .i64 0, .int .i64 0, .int .u8 0, .int .i64 0, .int .i64 0, .slice none 0 0] := ⟨hS.rd.below hba, hrow1, Fr.of_below _ hba⟩
          have HI0 := Lib.hid hI0
          have HROW0 := Lib.hid hrow0
          have HA0 := Lib.hid ha0
          have HS := Lib.hid hS
          have HGO := Lib.hid hgo
          have HX := Lib.hid hX
          have HZ1 : Hid ((Tryd.prog.info? 28).map (·.size) = some (#[.int .i64 0, .string ⟨#[]⟩, .string ⟨#[]⟩, .string ⟨#[]⟩, .int .i64 0, .int .i64 0, .int .u8 0, .int .i64 0, .int .i64 0, .slice none 0 0] : Array Value).size) := Lib.hid (by kernel_rfl)
          have HZ2 : Hid ((#[.int .i64 0, .string ⟨#[]⟩, .string ⟨#[]⟩, .string ⟨#[]⟩, .int .i64 0, .int .i64 0, .int .u8 0, .int .i64 0, .int .i64 0, .slice none 0 0] : Array Value).all (·.oneCell') = true) := Lib.hid (by kernel_rfl)
          obtain ⟨x0, s1, hx0⟩ : ∃ x t, rNum (false, l2) 1 = (x, t) := ⟨_, _, rfl⟩
          have HX0 := Lib.hid hx0
          have hC := rs_num a0 _ _ _ _ 1 hI0.rd (by omega)
          unfold RsN at hC
          rw [hx0] at hC
          have HC0 := Lib.hid hC
          clear hC hx0 hI0 hrow0 hrow1 hba ha0 hS hgo hX hH
          go_wp2_with (first | (rw [HX.out]; refine wpList_store_row rfl 28 _ _ rfl X _ rfl rfl 28 _ HROW0.out HZ1.out rfl HZ2.out ?_; rw [HA0.out]) | (refine wpList_store_row rfl 28 _ _ rfl X _ (by rw [HX.out]) rfl 28 _ HROW0.out HZ1.out rfl HZ2.out ?_; rw [HA0.out]))
          refine HC0.out.mono ?_
          rintro e b0 ⟨u0, rfl, hr, hf⟩
          have hI := HI0.out.read hD hr hf
          have yj : b0.cell? ⟨X, 0, none⟩ = some (.int .i64 0) := cell_of_row _ _ _ _ _ _ hI.row
          have gj := frozen_of_row b0 X 0 _ _ hI.row
          obtain ⟨a1, ha⟩ : ∃ a, b0.setCell ⟨X, 0, none⟩ (.int .i64 (x0 : Int)) = a := ⟨_, rfl⟩
          have hI2 := hI.put hD 0 (.int .i64 (x0 : Int)) #[.int .i64 (x0 : Int), .string ⟨#[]⟩, .string ⟨#[]⟩, .string ⟨#[]⟩, .int .i64 0, .int .i64 0, .int .u8 0, .int .i64 0, .int .i64 0, .slice none 0 0] rfl
          rw [ha] at hI2
          have HI1 := Lib.hid hI2
          have HA1 := Lib.hid ha
          obtain ⟨m1, v1, hxj⟩ : ∃ x t, rNum s1 1 = (x, t) := ⟨_, _, rfl⟩
          have HM1 := Lib.hid hxj
          have hC := rs_num a1 _ _ _ _ 1 hI2.rd (by omega)
          unfold RsN at hC
          rw [hxj] at hC
          have HC1 := Lib.hid hC
          clear hC hxj hI2 hI ha hr hf HC0 HI0
          go_wp2_with (first | rw [HA1.out])
          clear yj gj HA1
          refine HC1.out.mono ?_
          rintro e c1 ⟨u1, rfl, hr, hf⟩
          have hI := HI1.out.read hD hr hf
          have hml := num_spec HM1.out
          obtain ⟨q1, s2, hqj⟩ : ∃ x t, rCut v1 m1 = (x, t) := ⟨_, _, rfl⟩
          have HQ1 := Lib.hid hqj
          have hC := rs_cut c1 _ _ _ _ m1 hr (by omega)
          unfold RsC at hC
          rw [hqj] at hC
          have HCC := Lib.hid hC
          have HIC := Lib.hid hI
          clear hC hqj hr hf hI HC1 HI1
          go_wp2_with fail
          refine HCC.out.mono ?_
          rintro e b1 ⟨pv1, u1', rfl, hp, hr, hf⟩
          have hI := HIC.out.read hD hr hf
          have cv := run_byz_string b1 _ _ 5 Tryd.underlying26 Tryd.underlying5 Tryd.underlying9 hp.1.z
          obtain ⟨t1, htj⟩ : ∃ t : ByteArray, ⟨q1.toArray⟩ = t := ⟨_, rfl⟩
          rw [htj] at cv
          have HT1 := Lib.hid htj
          obtain ⟨pnj, hpn⟩ : ∃ pn, q1.length = pn := ⟨_, rfl⟩
          obtain ⟨pa, pc, hpv, _⟩ := hp.1.shape
          rw [hpn] at hpv
          subst hpv
          have yj : b1.cell? ⟨X, 1, none⟩ = some (.string ⟨#[]⟩) := cell_of_row _ _ _ _ _ _ hI.row
          have gj := frozen_of_row b1 X 1 _ _ hI.row
          obtain ⟨a2, ha⟩ : ∃ a, b1.setCell ⟨X, 1, none⟩ (.string t1) = a := ⟨_, rfl⟩
          have hI2 := hI.put hD 1 (.string t1) #[.int .i64 (x0 : Int), .string t1, .string ⟨#[]⟩, .string ⟨#[]⟩, .int .i64 0, .int .i64 0, .int .u8 0, .int .i64 0, .int .i64 0, .slice none 0 0] rfl
          rw [ha] at hI2
          have HI2 := Lib.hid hI2
          have HA2 := Lib.hid ha
          obtain ⟨m2, v2, hxj⟩ : ∃ x t, rNum s2 1 = (x, t) := ⟨_, _, rfl⟩
          have HM2 := Lib.hid hxj
          have hC := rs_num a2 _ _ _ _ 1 hI2.rd (by omega)
          unfold RsN at hC
          rw [hxj] at hC
          have HC2 := Lib.hid hC
          clear hC hxj hI2 hI ha hr hf hp HCC HIC htj hpn
          go_wp2_with (first | rw [HA2.out])
          clear yj gj HA2 cv
          refine HC2.out.mono ?_
          rintro e c2 ⟨u2, rfl, hr, hf⟩
          have hI := HI2.out.read hD hr hf
          have hml := num_spec HM2.out
          obtain ⟨q2, s3, hqj⟩ : ∃ x t, rCut v2 m2 = (x, t) := ⟨_, _, rfl⟩
          have HQ2 := Lib.hid hqj
          have hC := rs_cut c2 _ _ _ _ m2 hr (by omega)
          unfold RsC at hC
          rw [hqj] at hC
          have HCC := Lib.hid hC
          have HIC := Lib.hid hI
          clear hC hqj hr hf hI HC2 HI2
          go_wp2_with fail
          refine HCC.out.mono ?_
          rintro e b2 ⟨pv2, u2', rfl, hp, hr, hf⟩
          have hI := HIC.out.read hD hr hf
          have cv := run_byz_string b2 _ _ 5 Tryd.underlying26 Tryd.underlying5 Tryd.underlying9 hp.1.z
          obtain ⟨t2, htj⟩ : ∃ t : ByteArray, ⟨q2.toArray⟩ = t := ⟨_, rfl⟩
          rw [htj] at cv
          have HT2 := Lib.hid htj
          obtain ⟨pnj, hpn⟩ : ∃ pn, q2.length = pn := ⟨_, rfl⟩
          obtain ⟨pa, pc, hpv, _⟩ := hp.1.shape
          rw [hpn] at hpv
          subst hpv
          have yj : b2.cell? ⟨X, 2, none⟩ = some (.string ⟨#[]⟩) := cell_of_row _ _ _ _ _ _ hI.row
          have gj := frozen_of_row b2 X 2 _ _ hI.row
          obtain ⟨a3, ha⟩ : ∃ a, b2.setCell ⟨X, 2, none⟩ (.string t2) = a := ⟨_, rfl⟩
          have hI2 := hI.put hD 2 (.string t2) #[.int .i64 (x0 : Int), .string t1, .string t2, .string ⟨#[]⟩, .int .i64 0, .int .i64 0, .int .u8 0, .int .i64 0, .int .i64 0, .slice none 0 0] rfl
          rw [ha] at hI2
          have HI3 := Lib.hid hI2
          have HA3 := Lib.hid ha
          obtain ⟨m3, v3, hxj⟩ : ∃ x t, rNum s3 1 = (x, t) := ⟨_, _, rfl⟩
          have HM3 := Lib.hid hxj
          have hC := rs_num a3 _ _ _ _ 1 hI2.rd (by omega)
          unfold RsN at hC
          rw [hxj] at hC
          have HC3 := Lib.hid hC
          clear hC hxj hI2 hI ha hr hf hp HCC HIC htj hpn
          go_wp2_with (first | rw [HA3.out])
          clear yj gj HA3 cv
          refine HC3.out.mono ?_
          rintro e c3 ⟨u3, rfl, hr, hf⟩
          have hI := HI3.out.read hD hr hf
          have hml := num_spec HM3.out
          obtain ⟨q3, s4, hqj⟩ : ∃ x t, rCut v3 m3 = (x, t) := ⟨_, _, rfl⟩
          have HQ3 := Lib.hid hqj
          have hC := rs_cut c3 _ _ _ _ m3 hr (by omega)
          unfold RsC at hC
          rw [hqj] at hC
          have HCC := Lib.hid hC
          have HIC := Lib.hid hI
          clear hC hqj hr hf hI HC3 HI3
          go_wp2_with fail
          refine HCC.out.mono ?_
          rintro e b3 ⟨pv3, u3', rfl, hp, hr, hf⟩
          have hI := HIC.out.read hD hr hf
          have cv := run_byz_string b3 _ _ 5 Tryd.underlying26 Tryd.underlying5 Tryd.underlying9 hp.1.z
          obtain ⟨t3, htj⟩ : ∃ t : ByteArray, ⟨q3.toArray⟩ = t := ⟨_, rfl⟩
          rw [htj] at cv
          have HT3 := Lib.hid htj
          obtain ⟨pnj, hpn⟩ : ∃ pn, q3.length = pn := ⟨_, rfl⟩
          obtain ⟨pa, pc, hpv, _⟩ := hp.1.shape
          rw [hpn] at hpv
          subst hpv
          have yj : b3.cell? ⟨X, 3, none⟩ = some (.string ⟨#[]⟩) := cell_of_row _ _ _ _ _ _ hI.row
          have gj := frozen_of_row b3 X 3 _ _ hI.row
          obtain ⟨a4, ha⟩ : ∃ a, b3.setCell ⟨X, 3, none⟩ (.string t3) = a := ⟨_, rfl⟩
          have hI2 := hI.put hD 3 (.string t3) #[.int .i64 (x0 : Int), .string t1, .string t2, .string t3, .int .i64 0, .int .i64 0, .int .u8 0, .int .i64 0, .int .i64 0, .slice none 0 0] rfl
          rw [ha] at hI2
          have HI4 := Lib.hid hI2
          have HA4 := Lib.hid ha
          obtain ⟨x4, s5, hxj⟩ : ∃ x t, rNum s4 4 = (x, t) := ⟨_, _, rfl⟩
          have HX4 := Lib.hid hxj
          have hC := rs_num a4 _ _ _ _ 4 hI2.rd (by omega)
          unfold RsN at hC
          rw [hxj] at hC
          have HC4 := Lib.hid hC
          clear hC hxj hI2 hI ha hr hf hp HCC HIC htj hpn
          go_wp2_with (first | rw [HA4.out])
          clear yj gj HA4 cv
          refine HC4.out.mono ?_
          rintro e b4 ⟨u4, rfl, hr, hf⟩
          have hI := HI4.out.read hD hr hf
          have yj : b4.cell? ⟨X, 4, none⟩ = some (.int .i64 0) := cell_of_row _ _ _ _ _ _ hI.row
          have gj := frozen_of_row b4 X 4 _ _ hI.row
          obtain ⟨a5, ha⟩ : ∃ a, b4.setCell ⟨X, 4, none⟩ (.int .i64 (x4 : Int)) = a := ⟨_, rfl⟩
          have hI2 := hI.put hD 4 (.int .i64 (x4 : Int)) #[.int .i64 (x0 : Int), .string t1, .string t2, .string t3, .int .i64 (x4 : Int), .int .i64 0, .int .u8 0, .int .i64 0, .int .i64 0, .slice none 0 0] rfl
          rw [ha] at hI2
          have HI5 := Lib.hid hI2
          have HA5 := Lib.hid ha
          obtain ⟨x5, s6, hxj⟩ : ∃ x t, rNum s5 1 = (x, t) := ⟨_, _, rfl⟩
          have HX5 := Lib.hid hxj
          have hC := rs_num a5 _ _ _ _ 1 hI2.rd (by omega)
          unfold RsN at hC
          rw [hxj] at hC
          have HC5 := Lib.hid hC
          clear hC hxj hI2 hI ha hr hf HC4 HI4
          go_wp2_with (first | rw [HA5.out])
          clear yj gj HA5
          refine HC5.out.mono ?_
          rintro e b5 ⟨u5, rfl, hr, hf⟩
          have hI := HI5.out.read hD hr hf
          have yj : b5.cell? ⟨X, 5, none⟩ = some (.int .i64 0) := cell_of_row _ _ _ _ _ _ hI.row
          have gj := frozen_of_row b5 X 5 _ _ hI.row
          obtain ⟨a6, ha⟩ : ∃ a, b5.setCell ⟨X, 5, none⟩ (.int .i64 (x5 : Int)) = a := ⟨_, rfl⟩
          have hI2 := hI.put hD 5 (.int .i64 (x5 : Int)) #[.int .i64 (x0 : Int), .string t1, .string t2, .string t3, .int .i64 (x4 : Int), .int .i64 (x5 : Int), .int .u8 0, .int .i64 0, .int .i64 0, .slice none 0 0] rfl
          rw [ha] at hI2
          have HI6 := Lib.hid hI2
          have HA6 := Lib.hid ha
          obtain ⟨x6, s7, hxj⟩ : ∃ x t, rNum s6 1 = (x, t) := ⟨_, _, rfl⟩
          have HX6 := Lib.hid hxj
          have hC := rs_num a6 _ _ _ _ 1 hI2.rd (by omega)
          unfold RsN at hC
          rw [hxj] at hC
          have HC6 := Lib.hid hC
          clear hC hxj hI2 hI ha hr hf HC5 HI5
          go_wp2_with (first | rw [HA6.out])
          clear yj gj HA6
          refine HC6.out.mono ?_
          rintro e b6 ⟨u6, rfl, hr, hf⟩
          have hI := HI6.out.read hD hr hf
          have hx6 : x6 < 256 := num_spec HX6.out
          have yj : b6.cell? ⟨X, 6, none⟩ = some (.int .u8 0) := cell_of_row _ _ _ _ _ _ hI.row
          have gj := frozen_of_row b6 X 6 _ _ hI.row
          obtain ⟨a7, ha⟩ : ∃ a, b6.setCell ⟨X, 6, none⟩ (.int .u8 (x6 : Int)) = a := ⟨_, rfl⟩
          have hI2 := hI.put hD 6 (.int .u8 (x6 : Int)) #[.int .i64 (x0 : Int), .string t1, .string t2, .string t3, .int .i64 (x4 : Int), .int .i64 (x5 : Int), .int .u8 (x6 : Int), .int .i64 0, .int .i64 0, .slice none 0 0] rfl
          rw [ha] at hI2
          have HI7 := Lib.hid hI2
          have HA7 := Lib.hid ha
          obtain ⟨x7, s8, hxj⟩ : ∃ x t, rNum s7 1 = (x, t) := ⟨_, _, rfl⟩
          have HX7 := Lib.hid hxj
          have hC := rs_num a7 _ _ _ _ 1 hI2.rd (by omega)
          unfold RsN at hC
          rw [hxj] at hC
          have HC7 := Lib.hid hC
          clear hC hxj hI2 hI ha hr hf HC6 HI6
          go_wp2_with (first | rw [HA7.out])
          clear yj gj HA7
          refine HC7.out.mono ?_
          rintro e b7 ⟨u7, rfl, hr, hf⟩
          have hI := HI7.out.read hD hr hf
          have yj : b7.cell? ⟨X, 7, none⟩ = some (.int .i64 0) := cell_of_row _ _ _ _ _ _ hI.row
          have gj := frozen_of_row b7 X 7 _ _ hI.row
          obtain ⟨a8, ha⟩ : ∃ a, b7.setCell ⟨X, 7, none⟩ (.int .i64 (x7 : Int)) = a := ⟨_, rfl⟩
          have hI2 := hI.put hD 7 (.int .i64 (x7 : Int)) #[.int .i64 (x0 : Int), .string t1, .string t2, .string t3, .int .i64 (x4 : Int), .int .i64 (x5 : Int), .int .u8 (x6 : Int), .int .i64 (x7 : Int), .int .i64 0, .slice none 0 0] rfl
          rw [ha] at hI2
          have HI8 := Lib.hid hI2
          have HA8 := Lib.hid ha
          obtain ⟨x8, s9, hxj⟩ : ∃ x t, rNum s8 4 = (x, t) := ⟨_, _, rfl⟩
          have HX8 := Lib.hid hxj
          have hC := rs_num a8 _ _ _ _ 4 hI2.rd (by omega)
          unfold RsN at hC
          rw [hxj] at hC
          have HC8 := Lib.hid hC
          clear hC hxj hI2 hI ha hr hf HC7 HI7
          go_wp2_with (first | rw [HA8.out])
          clear yj gj HA8
          refine HC8.out.mono ?_
          rintro e b8 ⟨u8, rfl, hr, hf⟩
          have hI := HI8.out.read hD hr hf
          have yj : b8.cell? ⟨X, 8, none⟩ = some (.int .i64 0) := cell_of_row _ _ _ _ _ _ hI.row
          have gj := frozen_of_row b8 X 8 _ _ hI.row
          obtain ⟨a9, ha⟩ : ∃ a, b8.setCell ⟨X, 8, none⟩ (.int .i64 (x8 : Int)) = a := ⟨_, rfl⟩
          have hI2 := hI.put hD 8 (.int .i64 (x8 : Int)) #[.int .i64 (x0 : Int), .string t1, .string t2, .string t3, .int .i64 (x4 : Int), .int .i64 (x5 : Int), .int .u8 (x6 : Int), .int .i64 (x7 : Int), .int .i64 (x8 : Int), .slice none 0 0] rfl
          rw [ha] at hI2
          have HI9 := Lib.hid hI2
          have HA9 := Lib.hid ha
          obtain ⟨m9, v9, hxj⟩ : ∃ x t, rNum s9 2 = (x, t) := ⟨_, _, rfl⟩
          have HM9 := Lib.hid hxj
          have hC := rs_num a9 _ _ _ _ 2 hI2.rd (by omega)
          unfold RsN at hC
          rw [hxj] at hC
          have HC9 := Lib.hid hC
          clear hC hxj hI2 hI ha hr hf HC8 HI8
          go_wp2_with (first | rw [HA9.out])
          clear yj gj HA9
          refine HC9.out.mono ?_
          rintro e c9 ⟨u9, rfl, hr, hf⟩
          have hI := HI9.out.read hD hr hf
          have hml := num_spec HM9.out
          obtain ⟨q9, s10, hqj⟩ : ∃ x t, rCut v9 m9 = (x, t) := ⟨_, _, rfl⟩
          have HQ9 := Lib.hid hqj
          have hC := rs_cut c9 _ _ _ _ m9 hr (by omega)
          unfold RsC at hC
          rw [hqj] at hC
          have HCC := Lib.hid hC
          have HIC := Lib.hid hI
          clear hC hqj hr hf hI HC9 HI9
          go_wp2_with fail
          refine HCC.out.mono ?_
          rintro e b9 ⟨pv9, u9', rfl, hp, hr, hf⟩
          have hI := HIC.out.read hD hr hf
          obtain ⟨pa, pc, hpv, _⟩ := hp.1.shape
          subst hpv
          have hXc : X < c9.heap.size := (Array.getElem?_eq_some_iff.1 HIC.out.row).1
          have yj : b9.cell? ⟨X, 9, none⟩ = some (.slice none 0 0) := cell_of_row _ _ _ _ _ _ hI.row
          have gj := frozen_of_row b9 X 9 _ _ hI.row
          obtain ⟨a10, ha⟩ : ∃ a, b9.setCell ⟨X, 9, none⟩ (.slice pa q9.length pc) = a := ⟨_, rfl⟩
          have hI2 := hI.put hD 9 (.slice pa q9.length pc) #[.int .i64 (x0 : Int), .string t1, .string t2, .string t3, .int .i64 (x4 : Int), .int .i64 (x5 : Int), .int .u8 (x6 : Int), .int .i64 (x7 : Int), .int .i64 (x8 : Int), .slice pa q9.length pc] rfl
          rw [ha] at hI2
          have HI10 := Lib.hid hI2
          have HA10 := Lib.hid ha
          have hp2 : Row (w.heap.size + 1) a10 (.slice pa q9.length pc) q9 := by
            rw [← ha]
            exact (hp.kept (by simp [World.setCell]) (fun g hg => heap_setCell_other b9 ⟨X, 9, none⟩ g _ (by have := row_base hp g hg; simp; omega))).down (by omega)
          have HP9 := Lib.hid hp2
          have HPB : Hid (∀ g, (Value.slice pa q9.length pc).ownBlock = some g → X < g) := Lib.hid (fun g hg => by have := row_base hp g hg; omega)
          clear hI ha hr hf hI2 hp2 hp HCC HIC
          have cD1 : a10.cell? ⟨w.heap.size, 1, none⟩ = some (.bool s10.1) := cell_of_row _ _ _ _ _ _ HI10.out.rd.rd.blk
          have e0 : rD0 (false, l2) = (x0, s1) := HX0.out
          have e1 : rD1 (false, l2) = (q1, s2) := by unfold rD1; rw [e0]; show rText s1 = _; unfold rText; rw [HM1.out]; exact HQ1.out
          have e2 : rD2 (false, l2) = (q2, s3) := by unfold rD2; rw [e1]; show rText s2 = _; unfold rText; rw [HM2.out]; exact HQ2.out
          have e3 : rD3 (false, l2) = (q3, s4) := by unfold rD3; rw [e2]; show rText s3 = _; unfold rText; rw [HM3.out]; exact HQ3.out
          have e4 : rD4 (false, l2) = (x4, s5) := by unfold rD4; rw [e3]; exact HX4.out
          have e5 : rD5 (false, l2) = (x5, s6) := by unfold rD5; rw [e4]; exact HX5.out
          have e6 : rD6 (false, l2) = (x6, s7) := by unfold rD6; rw [e5]; exact HX6.out
          have e7 : rD7 (false, l2) = (x7, s8) := by unfold rD7; rw [e6]; exact HX7.out
          have e8 : rD8 (false, l2) = (x8, s9) := by unfold rD8; rw [e7]; exact HX8.out
          have e9 : rD9 (false, l2) = (q9, s10) := by unfold rD9; rw [e8]; show rBody s9 = _; unfold rBody; rw [HM9.out]; exact HQ9.out
          obtain ⟨d, hd⟩ : ∃ d : Dd, (⟨x0, t1, t2, t3, x4, x5, UInt8.ofNat x6, x7, x8, q9⟩ : Dd) = d := ⟨_, rfl⟩
          have hall : rDeed (false, l2) = (d, s10) := by
            unfold rDeed
            rw [e0, e1, e2, e3, e4, e5, e6, e7, e8, e9, ← hd, ← HT1.out, ← HT2.out, ← HT3.out]
          have hx6 := num_spec HX6.out
          have hbel : Below w.heap.size w a10 := HS.out.below.trans (HI10.out.fr.below HS.out.below.size (fun k e => by omega))
          have HBEL := Lib.hid hbel
          have hni : n - i = (n - (i + 1)) + 1 := by omega
          have hgo := HGO.out
          rw [hni, deedsP] at hgo
          have hst := deed_state hall
          clear e0 e1 e2 e3 e4 e5 e6 e7 e8 e9 hall hni HX0 HM1 HQ1 HM2 HQ2 HM3 HQ3 HX4 HX5 HX6 HX7 HX8 HM9 HQ9 HT1 HT2 HT3 HGO hbel
          rcases hst with ⟨hoff, hdn⟩ | ⟨l3, hs10, hdp⟩
          · have HE := Lib.hid (HBAD.out a10 3 (by decide) (takeAllE_err H18.out (by rw [HG.out, ← hgo, hdn]; rfl)) HBEL.out)
            rw [hoff] at cD1
            clear hgo hdn hoff HBEL HBAD HI10 HS HP9 HPB hd hx6
            go_wp2_with (first | rw [HA10.out])
            go_ret2
            exact HE.out
          · rw [hdp, Option.bind_some] at hgo
            simp only at hgo
            rw [hs10] at cD1
            have HROW : Hid (a10.heap[X]? = some (.cells #[.int .i64 (x0 : Int), .string t1, .string t2, .string t3, .int .i64 (x4 : Int), .int .i64 (x5 : Int), .int .u8 (x6 : Int), .int .i64 (x7 : Int), .int .i64 (x8 : Int), .slice pa q9.length pc] 28 (0, 0))) := Lib.hid HI10.out.row
            have HZ3 : Hid ((Tryd.prog.info? 28).map (·.size) = some (#[.int .i64 (x0 : Int), .string t1, .string t2, .string t3, .int .i64 (x4 : Int), .int .i64 (x5 : Int), .int .u8 (x6 : Int), .int .i64 (x7 : Int), .int .i64 (x8 : Int), .slice pa q9.length pc] : Array Value).size) := Lib.hid (by show _ = some 10; kernel_rfl)
            have hds := HS.out.ds.fr HI10.out.fr (fun g e => by rcases e with e | e; exact Or.inl (by omega); have := HX.out; exact Or.inr (by omega))
            have hszX : X < a10.heap.size := (Array.getElem?_eq_some_iff.1 HI10.out.row).1
            have hlvX : ∀ g, (Value.slice la i lc).ownBlock = some g → w.heap.size < g ∧ g < X := fun g e => by have := World.ownsRow.lt HS.out.ds.own g e; have := HX.out; omega
            obtain ⟨a, c, b11, hrun, hds8, hg8, hwh⟩ := appD a10 (B := w.heap.size + 1) (d, .slice pa q9.length pc) hds (by omega) (by omega) (by rw [← hd]; exact HP9.out) (fun g hg e => by have h1 := HPB.out g hg; have h2 := (hlvX g e).2; omega)
            have hlen8 : (ps ++ [(d, Value.slice pa q9.length pc)]).length = i + 1 := by simp [hps]
            rw [hlen8] at hrun hds8
            have hcc : ddC d (.slice pa q9.length pc) = #[.int .i64 (x0 : Int), .string t1, .string t2, .string t3, .int .i64 (x4 : Int), .int .i64 (x5 : Int), .int .u8 (x6 : Int), .int .i64 (x7 : Int), .int .i64 (x8 : Int), .slice pa q9.length pc] := by rw [← hd]; unfold ddC; dsimp only; rw [u8_of hx6]
            simp only [hcc] at hrun
            have hf8 : Fr (fun k => w.heap.size < k) a10 b11 := (Fr.refl (fun k => w.heap.size < k) a10).grown hg8 (fun k e => Or.inl (hlvX k e).1)
            have hrd := HI10.out.rd
            rw [hs10] at hrd
            have hrd8 : RdS b11 w.heap.size w.heap.size u9' (false, l3) := by
              refine ⟨⟨?_, hrd.rd.byz.kept hf8.size (fun g hg hn => hf8.block g (hrd.rd.byz.lt g hg hn) (by have := hrd.ob g hg hn; omega)), hrd.rd.ne⟩, hrd.ob, hrd.len⟩
              exact (hf8.block _ hrd.rd.lt (by omega)).trans hrd.rd.blk
            have HREL := Lib.hid (⟨hrd8, hds8, HBEL.out.trans (hf8.below HBEL.out.size (fun k e => by omega))⟩ : TaS w b11 u9' l3 (.slice a (i + 1) c) (ps ++ [(d, Value.slice pa q9.length pc)]))
            have HG9 : Hid (deedsP (n - (i + 1)) l3 ((ps ++ [(d, Value.slice pa q9.length pc)]).map (·.1)) = deedsP n l1 []) := Lib.hid (by rw [← hgo, List.map_append]; rfl)
            have HAP := Lib.hid hrun
            clear hgo hdp hs10 hds hszX hlvX hds8 hg8 hwh hlen8 hcc hf8 hrd hrd8 hrun HBEL HI10 HS HP9 HPB hd hx6
            go_wp2_with (first
              | rw [HA10.out]
              | (refine wpList_load_row rfl 28 _ rfl X rfl 28 _ (0, 0) _ HROW.out Tryd.underlying28 rfl HZ3.out ?_)
              | (at_builtin; refine wpList_append_run _ rfl _ _ 32 32 rfl _ _ rfl rfl _ b11 HAP.out ?_))
            go_roundw
            case rel => exact ⟨i + 1, u9', l3, a, c, _, by omega, by go_num, rfl, by simp [hps], Lib.hid ⟨HREL.out, HG9.out⟩⟩
            case measure => simp [intOf]; omega
        · have hin : i = n := by omega
          have hlt' : ¬ (i : Int) < (n : Int) := by omega
          subst hin
          rw [Nat.sub_self, deedsP] at hgo
          have htk := HG.out
          rw [← hgo] at htk
          simp only at htk
          obtain ⟨ra, rc, hsvr⟩ := hS.rd.rd.byz.1
          simp only at hsvr
          subst hsvr
          have c0 : wr.cell? ⟨w.heap.size, 0, none⟩ = some (.slice ra l2.length rc) := cell_of_row _ _ _ _ _ _ hS.rd.rd.blk
          have HS := Lib.hid hS
          clear hgo hS hH
          by_cases hl2 : l2 = []
          case neg =>
            rw [if_neg hl2] at htk
            have hl0 : (0 : Int) < (l2.length : Int) := by have : l2.length ≠ 0 := fun e => hl2 (List.eq_nil_of_length_eq_zero e); omega
            have HE := Lib.hid (HBAD.out wr 4 (by decide) (takeAllE_err H18.out htk) HS.out.below)
            clear htk hl2 HS HBAD
            go_wp2
            go_ret2
            exact HE.out
          case pos =>
            rw [if_pos hl2] at htk
            have hl0 : ¬ (0 : Int) < (l2.length : Int) := by rw [hl2]; simp
            have hck := takeAllE_ok H18.out htk
            obtain ⟨-, -, hsm⟩ := takeE_back htk
            have hsm2 : ∀ p ∈ ps, p.1.Small := fun p hp => hsm _ (List.mem_map_of_mem hp)
            have hdd := HS.out.ds.deeds hsm2
            obtain ⟨Q, hQ⟩ : ∃ Q, ps.map diP = Q := ⟨_, rfl⟩
            have hQl : Q.length = i := by rw [← hQ, List.length_map, hps]
            have hQm : Q.map (·.1) = (ps.map (·.1)).map Dd.di := by rw [← hQ, List.map_map, List.map_map]; rfl
            rw [← hQm] at hck
            have hQs : ∀ q ∈ Q, q.1.user.size ≤ 255 ∧ q.1.box.size ≤ 255 ∧ q.1.dest.size ≤ 255 := fun q hq => by
              rw [← hQ] at hq
              obtain ⟨p, hp, rfl⟩ := List.mem_map.1 hq
              have h1 := hsm2 p hp
              have h2 := h1.user
              have h3 := h1.box
              have h4 := h1.dest
              exact ⟨by show p.1.user.size ≤ 255; omega, by show p.1.box.size ≤ 255; omega, by show p.1.dest.size ≤ 255; omega⟩
            rw [hQ] at hdd
            obtain ⟨E, hE⟩ : ∃ E, ckAll (Q.map (·.1)) = E := ⟨_, rfl⟩
            rw [hE] at hck
            obtain ⟨W2, rfl⟩ : ∃ W2, W2 = wr := ⟨_, rfl⟩
            have HE := Lib.hid hE
            have HD := Lib.hid hdd
            have HQS := Lib.hid hQs
            have HBADK : Hid (E ≠ 0 → ∀ u, Below w.heap.size w u → TakeAllR l w (.returned (.tuple #[.slice none 0 0, .int .i64 E])) u) := Lib.hid (fun hk u hu => HBAD.out u E hk hck hu)
            have HGOOD : Hid (E = 0 → ∀ u, Below W2.heap.size W2 u → TakeAllR l w (.returned (.tuple #[.slice la i lc, .int .i64 0])) u) := Lib.hid (fun hk u hu => ⟨HS.out.below.trans (hu.mono HS.out.below.size), Or.inr ⟨by rw [hck, hk], ps, _, htk, (HS.out.ds.fr (Fr.of_below (fun _ => False) hu) (fun _ e => e.elim)).down (by omega), rfl⟩⟩)
            have HBB : Hid (∀ u, Below W2.heap.size W2 u → Below w.heap.size w u) := Lib.hid (fun u hu => HS.out.below.trans (hu.mono HS.out.below.size))
            have HI1 : ∀ cs : List Value, cs.length = 10 → Hid ((Tryd.prog.info? 28).map (·.size) = some cs.length) := fun cs h => Lib.hid (by rw [h]; kernel_rfl)
            clear htk hck hsm hsm2 hdd hQ hQm hQs hE HS HBAD HG HN
            go_wp2
            go_loopw [9] (fun iv wr => ∃ k : Nat, k ≤ i ∧ iv = .int .i64 (k : Int) ∧ Hid (ckAll ((Q.map (·.1)).drop k) = E ∧ Below W2.heap.size W2 wr)) (fun iv _ => i - (intOf iv).toNat)
            case atStart => exact ⟨0, Nat.zero_le _, rfl, Lib.hid ⟨HE.out, Below.refl _ _⟩⟩
            case round =>
              clear HE
              obtain ⟨k, hk, rfl, hH⟩ := hrel
              obtain ⟨hgo, hb⟩ := hH.out
              by_cases hkt : k < i
              · have hkt' : (k : Int) < (i : Int) := by omega
                have hp := List.getElem?_eq_getElem (show k < Q.length by omega)
                generalize Q[k] = p at hp
                have hmem := List.mem_of_getElem? hp
                obtain ⟨hz, hl, hs⟩ := HD.out.bytes p hmem
                have hsm := HQS.out p hmem
                obtain ⟨pa, pc, hpv⟩ := hz.1
                obtain ⟨g, off, cap', e, hgl, hc⟩ := HD.out.cells (fun e => by subst e; simp at hp)
                injection e with ea e2 ec
                subst ea
                subst ec
                clear e2
                have hr := rangeAt_below (hc k p hp) hb hgl
                rw [hpv] at hr hz
                have HR : Hid (wr.rangeAt g (off + k * 10) [.int .i64 p.1.act, .string p.1.user, .string p.1.box, .string p.1.dest, .int .i64 p.1.uid, .int .i64 p.1.how, .int .u8 (p.1.flags.toNat : Int), .int .i64 p.1.shard, .int .i64 p.1.epoch, .slice pa p.1.bytes.length pc]) := Lib.hid hr
                rw [drop_at9 (show (Q.map (·.1))[k]? = some p.1 by rw [List.getElem?_map, hp]; rfl), ckAll] at hgo
                have HGO := Lib.hid hgo
                have hC := refCheckD p.1 (.slice pa p.1.bytes.length pc) wr (hz.below hb) hl hs (by omega) (by omega) (HTT.out _ (HBB.out _ hb))
                unfold diV diC at hC
                have HCK := Lib.hid hC
                have HBW := Lib.hid hb
                have HI3 := HI1 [.int .i64 p.1.act, .string p.1.user, .string p.1.box, .string p.1.dest, .int .i64 p.1.uid, .int .i64 p.1.how, .int .u8 (p.1.flags.toNat : Int), .int .i64 p.1.shard, .int .i64 p.1.epoch, .slice pa p.1.bytes.length pc] rfl
                clear hgo hb hp hz hpv hr hH hl hs hmem hsm hC hc hgl
                go_wp2_with (first
                  | (refine wpList_load_mid rfl 28 _ rfl g (off + k * 10) rfl _ _ HR.out Tryd.underlying28 rfl HI3.out ?_))
                refine HCK.out.mono ?_
                rintro e w2 ⟨rfl, hb2⟩
                have HB2 := Lib.hid (HBW.out.trans (hb2.mono HBW.out.size))
                clear hb2 HCK HI3 HR
                by_cases hk0 : ckDeed p.1 = 0
                · have hgo := HGO.out
                  rw [if_pos hk0] at hgo
                  have HG2 := Lib.hid hgo
                  rw [hk0]
                  clear hgo hk0 HGO
                  go_wp2
                  go_roundw
                  case rel => exact ⟨k + 1, by omega, by go_num, Lib.hid ⟨HG2.out, HB2.out⟩⟩
                  case measure => simp [intOf]; omega
                · have hgo := HGO.out
                  rw [if_neg hk0] at hgo
                  have hk1 : (ckDeed p.1 == 0) = false := by rw [beq_eq_false_iff_ne]; exact hk0
                  have hk2 : (ckDeed p.1 != 0) = true := by rw [bne_iff_ne]; exact hk0
                  rw [hgo] at hk0 hk1 hk2
                  have HEE := Lib.hid (HBADK.out hk0 w2 (HBB.out _ HB2.out))
                  rw [hgo]
                  clear hgo HGO hk0
                  go_wp2
                  go_ret2
                  exact HEE.out
              · have hkt' : ¬ (k : Int) < (i : Int) := by omega
                rw [List.drop_of_length_le (by rw [List.length_map]; omega), ckAll] at hgo
                have HEE := Lib.hid (HGOOD.out hgo.symm wr hb)
                clear hgo hb hH
                go_wp2
                go_ret2
                exact HEE.out
end Go.Proofs.YtjljbnilckkjnaaDoor
