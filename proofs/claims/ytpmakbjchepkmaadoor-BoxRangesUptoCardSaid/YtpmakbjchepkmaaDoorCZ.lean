/- Box: the document's Set walked, behind what its Parts tell. -/
import Derived.Test.YtpmakbjchepkmaaDoorCY
import Derived.Deep.QuietTactic
import Derived.BigQuiet
import Derived.Deep.CutRange
import Derived.IntWalk
namespace Go.Proofs.YtpmakbjchepkmaaDoor
open Go Go.RowKit

/-- What a Set tells: its place and error, and its ranges. -/
def SetT (w : World) (x : Int × Int) (l : List Rg) (e : Ending) (w' : World) : Prop := ∃ v, e = .returned (.tuple #[v, .int .i64 x.1, .int .i64 x.2]) ∧ PrsN w' v l ∧ Below w.heap.size w w'
/-- What the document's Set tells of ranges. -/
def refL (s : ByteArray) (most : Int) : List Rg := if (refE s most).2 = 0 then mergesTo most (partsF s (s.size + 1) 0 []).1 (partsF s (s.size + 1) 0 []).1.length else []
def RSetR (w : World) (x : Int × Int) (G : List Rg) (e : Ending) (w' : World) : Prop := (x = (0, 2) ∧ SetT w (0, 2) [] e w') ∨ (x = (0, 0) ∧ SetT w (0, 0) G e w')
theorem RSetR.bad {w w' : World} {x : Int × Int} {G : List Rg} (hx : x = (0, 2)) (hb : Below w.heap.size w w') : RSetR w x G (.returned (.tuple #[.slice none 0 0, .int .i64 0, .int .i64 2])) w' := Or.inl ⟨hx, _, rfl, PrsN.nil _, hb⟩
theorem RSetR.good {w w' : World} {x : Int × Int} {G : List Rg} {v : Value} (hx : x = (0, 0)) (hv : PrsN w' v G) (hb : Below w.heap.size w w') : RSetR w x G (.returned (.tuple #[v, .int .i64 0, .int .i64 0])) w' := Or.inr ⟨hx, _, rfl, hv, hb⟩
def errL (most : Int) (l : List (Int × Int)) : Int × Int := if l.any negP = true ∧ most = 0 then (0, 2) else (0, 0)

/-- A round of the merging loop: what it reads and writes. -/
structure L3 (wo wx : World) (gq j : Nat) (u v x y : Int) (rv : Value) (R : List Rg) : Prop where
  q0 : wx.cell? ⟨gq, j * 2, none⟩ = some (.int .i64 u)
  q1 : wx.cell? ⟨gq, j * 2 + 1, none⟩ = some (.int .i64 v)
  pb : Pb wx wo.heap.size (x, y)
  own : OwnsP (wo.heap.size + 1) wx rv R
  bw : Below wo.heap.size wo wx
  lt : gq < wo.heap.size
theorem L3.drew {wo wx : World} {gq j : Nat} {u v x y : Int} {rv : Value} {R : List Rg} (h : L3 wo wx gq j u v x y rv R) (n : Nat) : L3 wo (wx.drewN n) gq j u v x y rv R :=
  ⟨h.q0, h.q1, h.pb, h.own.below (bdrew _ _ _), h.bw.trans (bdrew _ _ _), h.lt⟩
theorem L3.set0 {wo wx : World} {gq j : Nat} {u v x y : Int} {rv : Value} {R : List Rg} (h : L3 wo wx gq j u v x y rv R) (z : Int) : L3 wo (wx.setCell ⟨wo.heap.size, 0, none⟩ (.int .i64 z)) gq j u v z y rv R :=
  ⟨(World.cell?_setCell_other _ _ _ _ (by intro e; injection e with e _; have := h.lt; omega)).trans h.q0, (World.cell?_setCell_other _ _ _ _ (by intro e; injection e with e _; have := h.lt; omega)).trans h.q1, h.pb.set0 z, own_setD h.own (by omega) 0 _, h.bw.setCell (p := ⟨wo.heap.size, 0, none⟩) (Nat.le_refl _) _, h.lt⟩
theorem L3.set1 {wo wx : World} {gq j : Nat} {u v x y : Int} {rv : Value} {R : List Rg} (h : L3 wo wx gq j u v x y rv R) (z : Int) : L3 wo (wx.setCell ⟨wo.heap.size, 1, none⟩ (.int .i64 z)) gq j u v x z rv R :=
  ⟨(World.cell?_setCell_other _ _ _ _ (by intro e; injection e with e _; have := h.lt; omega)).trans h.q0, (World.cell?_setCell_other _ _ _ _ (by intro e; injection e with e _; have := h.lt; omega)).trans h.q1, h.pb.set1 z, own_setD h.own (by omega) 1 _, h.bw.setCell (p := ⟨wo.heap.size, 1, none⟩) (Nat.le_refl _) _, h.lt⟩

set_option maxRecDepth 100000 in
set_option maxHeartbeats 16000000 in
theorem refSet_good (w : World) (s : ByteArray) (most : Int) (hT : Tabs w) (hs : s.size ≤ 4294967296) (h0 : ¬ (most < 0 ∨ 4294967295 < most)) (he : (partsF s (s.size + 1) 0 []).2.2 = 0) (hl : (partsF s (s.size + 1) 0 []).1.length ≤ 32) :
    Calls Tryd.prog 6 #[.string s, .int .i64 most] w (RSetR w (errL most (partsF s (s.size + 1) 0 []).1) (mergesTo most (partsF s (s.size + 1) 0 []).1 (partsF s (s.size + 1) 0 []).1.length)) := by
  have hm1 : ¬ most < 0 := by omega
  have hm2 : ¬ 4294967295 < most := by omega
  have HL := Lib.hid (letters_any s w hT (by omega))
  have HP := Lib.hid (fun W v (hv : Lts W v s) => parts_any W v s hv hs)
  have hfine := parts_fine s (s.size + 1) 0 [] (fun p hp => by cases hp)
  clear h0 hT
  obtain ⟨P, hP⟩ : ∃ P, partsF s (s.size + 1) 0 [] = P := ⟨_, rfl⟩
  rw [hP] at he hl HP hfine ⊢
  clear hP
  obtain ⟨L, j0, e⟩ := P
  have he : e = 0 := he
  subst he
  simp only at hl hfine ⊢
  have HF := Lib.hid hfine
  clear hfine
  go_enter Tryd.func6, Tryd.ntmps6
  go_wp2_with fail
  refine HL.out.mono ?_
  rintro e1 w1 ⟨v1, rfl, ho, b1⟩
  have HP1 := Lib.hid (HP.out w1 v1 (Lts.of ho))
  have B1 := Lib.hid b1
  clear HL HP ho b1
  go_wp2_with fail
  refine HP1.out.mono ?_
  rintro e2 w2 ⟨v2, rfl, b2, h2, _⟩
  have B2 := Lib.hid (B1.out.trans (b2.mono B1.out.size))
  clear b2 HP1 B1
  have hown : OwnsP w1.heap.size w2 v2 L := h2 rfl
  have HPR := Lib.hid (prsN_own hown)
  obtain ⟨va, vc, hv2, _⟩ := owns_shape hown
  subst hv2
  clear h2 hown
  rw [show ((0 : Nat) : Int) = 0 from rfl]
  have hlen2 : ¬ (32 : Int) < (L.length : Int) := by omega
  obtain ⟨W3, hW3⟩ : ∃ W3, W3 = w2.alloc (.cells #[] 30) := ⟨_, rfl⟩
  have HO3 := Lib.hid (show OwnsP w2.heap.size W3 (.slice (some ⟨w2.heap.size, 0, none⟩) 0 0) [] by rw [hW3]; exact ownsP_lit _ w2 (Nat.le_refl _))
  have HB3 := Lib.hid (show Below w2.heap.size w2 W3 by rw [hW3]; exact (Below.refl _ w2).alloc (Nat.le_refl _) _)
  have HW3 := Lib.hid hW3
  clear hW3
  go_wp2_with (first | rw [← HW3.out])
  clear HW3
  go_loopw [10, 11] (fun ov iv wr => ∃ (k : Nat) (oa : Option Addr) (oc : Nat), k ≤ L.length ∧ iv = .int .i64 (k : Int) ∧ ov = .slice oa (mergesTo most L k).length oc ∧ Hid (errL most L = errL most (L.drop k) ∧ OwnsP w2.heap.size wr (.slice oa (mergesTo most L k).length oc) (mergesTo most L k) ∧ Below w2.heap.size w2 wr)) (fun _ iv _ => L.length - (intOf iv).toNat)
  case atStart => exact ⟨0, _, _, Nat.zero_le _, rfl, rfl, Lib.hid ⟨rfl, HO3.out, HB3.out⟩⟩
  case round =>
    clear HO3 HB3
    obtain ⟨k, oa, oc, hk, rfl, rfl, hH⟩ := hrel
    by_cases hlt : k < L.length
    · obtain ⟨p, hpk⟩ : ∃ p, L[k]? = some p := ⟨_, List.getElem?_eq_getElem hlt⟩
      obtain ⟨_, _, e1, h1⟩ := HPR.out.below hH.out.2.2
      cases e1
      obtain ⟨gp, rfl, hgp, d0, d1⟩ := h1 k p hpk
      have hfp := HF.out p (List.mem_of_getElem? hpk)
      have hdrop := drop_cons hpk
      have hnx := merges_next (most := most) hpk
      have hmb := merges_bd (most := most) ⟨by omega, by omega⟩ L HF.out k
      have hmb2 := merges_bd (most := most) ⟨by omega, by omega⟩ L HF.out (k + 1)
      rw [hdrop] at hH
      obtain ⟨a, b⟩ := p
      simp only at d0 d1
      have HNX := Lib.hid hnx
      have HMB := Lib.hid hmb
      have HMB2 := Lib.hid hmb2
      have HPK := Lib.hid hpk
      have hlt' : (k : Int) < (L.length : Int) := by omega
      clear h1 hdrop hnx hmb hmb2 hpk
      by_cases hneg : negP (a, b) = true ∧ most = 0
      · obtain ⟨hn, rfl⟩ := hneg
        have hbad := (show errL 0 L = (0, 2) by rw [hH.out.1]; unfold errL; rw [if_pos ⟨by simp [hn], rfl⟩])
        have HBAD := Lib.hid hbad
        have HBW := Lib.hid (B2.out.trans (hH.out.2.2.mono B2.out.size))
        have hsp : a < 0 ∨ (¬ a < 0 ∧ b < 0) := by
          unfold negP at hn
          simp at hn
          omega
        clear hn hbad hfp hH
        rcases hsp with h | ⟨h, h'⟩
        all_goals
          go_wp2
          exact bodyPost_ret (v := .tuple #[.slice none 0 0, .int .i64 0, .int .i64 2]) (by simp [results, Tryd.results6, go_sem]) rfl (RSetR.bad HBAD.out (HBW.out.alloc (by have := HBW.out.size; omega) _))
      · have HNE : Hid (errL most L = errL most (L.drop (k + 1))) := Lib.hid (by
          rw [hH.out.1]
          unfold errL
          by_cases hz : most = 0
          · have hn : negP (a, b) = false := by
              cases h : negP (a, b) with
              | false => rfl
              | true => exact absurd ⟨h, hz⟩ hneg
            rw [List.any_cons, hn, Bool.false_or]
          · rw [if_neg (fun h => hz h.2), if_neg (fun h => hz h.2)])
        have hnn : most = 0 → ¬ a < 0 ∧ ¬ b < 0 := fun hz => by
          have hn : ¬ negP (a, b) = true := fun h => hneg ⟨h, hz⟩
          unfold negP at hn
          simp at hn
          omega
        clear hneg
        generalize hM : mergesTo most L k = M at *
        generalize hG : mergesTo most L (k + 1) = G at *
        have HOUT := Lib.hid hH.out.2.1
        have HBR := Lib.hid hH.out.2.2
        have hMl : M.length ≤ 32 := by have := HMB.out.2; omega
        have hMB := Lib.hid HMB.out.1
        have hFa : (-1 ≤ a ∧ a ≤ 4294967295) ∧ (-1 ≤ b ∧ b ≤ 4294967295) := hfp
        have HGE := Lib.hid hG
        clear hH hfp HMB hM hG
        obtain ⟨W4, hW4⟩ : ∃ W4, W4 = wr.alloc (.cells #[.int .i64 a, .int .i64 b] 30) := ⟨_, rfl⟩
        have HP4 := Lib.hid (show Pb W4 wr.heap.size (a, b) by rw [hW4]; exact Pb.new wr a b)
        have HB4 := Lib.hid (show Below wr.heap.size wr W4 by rw [hW4]; exact (Below.refl _ wr).alloc (Nat.le_refl _) _)
        have HW4 := Lib.hid hW4
        clear hW4
        go_upto_region 13 with (first | rw [← HW4.out])
        clear HW4 d0 d1
        go_cut [60] from 39 to 178 (fun c wx => c = .bool false ∧ wx = W4)
        case first =>
          have c0 := HP4.out.c0
          have c1 := HP4.out.c1
          simp only at c0 c1
          by_cases hz : most = 0
          · obtain ⟨ha, hb⟩ := hnn hz
            subst hz
            go_wp2
            go_meet
            case rel => exact ⟨rfl, rfl⟩
          · have hzb : (most == 0) = false := by simpa using hz
            clear hz hnn
            go_wp2
            go_meet
            case rel => exact ⟨rfl, rfl⟩
        case rest =>
          obtain ⟨rfl, rfl⟩ := hcut
          have hzW := HP4.out.lt
          go_wp2_with fail
          obtain ⟨wo, rfl⟩ : ∃ wo : World, wo = wr := ⟨_, rfl⟩
          go_loopw [13] (fun jv wx => ∃ (j x y : Int), jv = .int .i64 j ∧ 0 ≤ j ∧ j ≤ 2 ∧ Hid (Pb wx wo.heap.size (x, y) ∧ (x = if 0 < j then starW most a else a) ∧ (y = if 1 < j then starW most b else b) ∧ Below wo.heap.size wo wx)) (fun jv _ => 2 - (intOf jv).toNat)
          case atStart => exact ⟨0, a, b, rfl, by omega, by omega, Lib.hid ⟨HP4.out, rfl, rfl, HB4.out⟩⟩
          case round =>
            obtain ⟨j, x, y, rfl, hj0, hj2, hJ⟩ := hrel
            have c0 := hJ.out.1.c0
            have c1 := hJ.out.1.c1
            have f0 := hJ.out.1.f 0
            have f1 := hJ.out.1.f 1
            simp only at c0 c1
            have hjj : j = 0 ∨ j = 1 ∨ j = 2 := by omega
            rcases hjj with rfl | rfl | rfl
            · have hx : x = a := hJ.out.2.1.trans (if_neg (by omega))
              have hy : y = b := hJ.out.2.2.1.trans (if_neg (by omega))
              subst hx hy
              by_cases ha : x < 0
              · have HS := Lib.hid ((hJ.out.1.set0 most : Pb _ _ (most, y)))
                have HBB := Lib.hid (hJ.out.2.2.2.setCell (p := ⟨wo.heap.size, 0, none⟩) (Nat.le_refl _) (.int .i64 most))
                have HX : Hid (most = if (0 : Int) < 1 then starW most x else x) := Lib.hid (by rw [if_pos (by omega)]; unfold starW; rw [if_pos ha])
                clear hJ
                go_wp2
                go_roundw
                case rel => exact ⟨1, most, y, rfl, by omega, by omega, Lib.hid ⟨HS.out, HX.out, rfl, HBB.out⟩⟩
                case measure => simp [intOf]
              · have HX : Hid (x = if (0 : Int) < 1 then starW most x else x) := Lib.hid (by rw [if_pos (by omega)]; unfold starW; rw [if_neg ha])
                go_wp2
                go_roundw
                case rel => exact ⟨1, x, y, rfl, by omega, by omega, Lib.hid ⟨hJ.out.1, HX.out, rfl, hJ.out.2.2.2⟩⟩
                case measure => simp [intOf]
            · have hx := hJ.out.2.1
              have hy : y = b := hJ.out.2.2.1.trans (if_neg (by omega))
              subst hy
              have HX := Lib.hid hx
              clear hx
              by_cases ha : y < 0
              · have HS := Lib.hid ((hJ.out.1.set1 most : Pb _ _ (x, most)))
                have HBB := Lib.hid (hJ.out.2.2.2.setCell (p := ⟨wo.heap.size, 1, none⟩) (Nat.le_refl _) (.int .i64 most))
                have HY : Hid (most = if (1 : Int) < 2 then starW most y else y) := Lib.hid (by rw [if_pos (by omega)]; unfold starW; rw [if_pos ha])
                clear hJ
                go_wp2
                go_roundw
                case rel => exact ⟨2, x, most, rfl, by omega, by omega, Lib.hid ⟨HS.out, HX.out, HY.out, HBB.out⟩⟩
                case measure => simp [intOf]
              · have HY : Hid (y = if (1 : Int) < 2 then starW most y else y) := Lib.hid (by rw [if_pos (by omega)]; unfold starW; rw [if_neg ha])
                go_wp2
                go_roundw
                case rel => exact ⟨2, x, y, rfl, by omega, by omega, Lib.hid ⟨hJ.out.1, HX.out, HY.out, hJ.out.2.2.2⟩⟩
                case measure => simp [intOf]
            · have hx : x = starW most a := hJ.out.2.1.trans (if_pos (by omega))
              have hy : y = starW most b := hJ.out.2.2.1.trans (if_pos (by omega))
              have HXY := Lib.hid (And.intro hx hy)
              clear hx hy
              have hxb : 0 ≤ x ∧ x ≤ 4294967295 := by rw [HXY.out.1]; unfold starW; split <;> omega
              have hyb : 0 ≤ y ∧ y ≤ 4294967295 := by rw [HXY.out.2]; unfold starW; split <;> omega
              go_upto_if 76 with fail
              go_cut [] from 39 to 178 (fun wx => Hid (Pb wx wo.heap.size (mapP most (a, b)) ∧ Below wo.heap.size wo wx))
              case first =>
                by_cases hsw : y < x
                · have HS := Lib.hid (((hJ.out.1.set0 y).set1 x : Pb _ _ (y, x)))
                  have HBB := Lib.hid ((hJ.out.2.2.2.setCell (p := ⟨wo.heap.size, 0, none⟩) (Nat.le_refl _) (.int .i64 y)).setCell (p := ⟨wo.heap.size, 1, none⟩) (Nat.le_refl _) (.int .i64 x))
                  have HE : Hid (mapP most (a, b) = (y, x)) := Lib.hid (by unfold mapP; simp only; rw [← HXY.out.1, ← HXY.out.2]; congr 1 <;> omega)
                  clear hJ
                  go_wp2
                  go_meet
                  case rel => exact Lib.hid ⟨HE.out ▸ HS.out, HBB.out⟩
                · have HE : Hid (mapP most (a, b) = (x, y)) := Lib.hid (by unfold mapP; simp only; rw [← HXY.out.1, ← HXY.out.2]; congr 1 <;> omega)
                  go_wp2
                  go_meet
                  case rel => exact Lib.hid ⟨HE.out ▸ hJ.out.1, hJ.out.2.2.2⟩
              case rest =>
                obtain ⟨hpb, hbo⟩ := hcut.out
                have HPO := Lib.hid (prsN_own HOUT.out)
                have hbd := map_bd (most := most) ⟨by omega, by omega⟩ (show Fine (a, b) from hFa)
                generalize hP0 : mapP most (a, b) = P0 at *
                have hzc := hpb.lt
                have HPB := Lib.hid hpb
                have HBO := Lib.hid hbo
                have HBD := Lib.hid hbd
                clear hP0 hcut hJ c0 c1 f0 f1 HXY hxb hyb hpb hbo hbd HP4 HB4
                obtain ⟨W5, hW5⟩ : ∃ W5, W5 = wc.alloc (.cells #[] 30) := ⟨_, rfl⟩
                have HO5 := Lib.hid (show OwnsP (wo.heap.size + 1) W5 (.slice (some ⟨wc.heap.size, 0, none⟩) 0 0) [] by rw [hW5]; exact ownsP_lit _ wc (by omega))
                have hB5 : Below wc.heap.size wc W5 := by rw [hW5]; exact (Below.refl _ wc).alloc (Nat.le_refl _) _
                have HB5 := Lib.hid (HBO.out.trans (hB5.mono HBO.out.size))
                have HP5 := Lib.hid (HPB.out.below hB5 hzc)
                have HW5 := Lib.hid hW5
                clear hB5 hW5 HPB HBO
                go_wp2_with (first | rw [← HW5.out])
                clear HW5
                go_loopw [14, 15] (fun rv kv wx => ∃ (j : Nat) (ra : Option Addr) (rc : Nat) (R : List Rg) (x y : Int), rv = .slice ra R.length rc ∧ kv = .int .i64 (j : Int) ∧ j ≤ M.length ∧ R.length ≤ j ∧ Hid (AbsR M P0 j R (x, y) ∧ Bd (x, y) ∧ Pb wx wo.heap.size (x, y) ∧ OwnsP (wo.heap.size + 1) wx (.slice ra R.length rc) R ∧ Below wo.heap.size wo wx)) (fun _ kv _ => M.length - (intOf kv).toNat)
                case atStart => exact ⟨0, _, 0, [], P0.1, P0.2, rfl, rfl, Nat.zero_le _, Nat.le_refl _, Lib.hid ⟨AbsR.start M P0, HBD.out, HP5.out, HO5.out, HB5.out⟩⟩
                case round =>
                  clear HO5 HB5 HP5 HBD hzc
                  obtain ⟨j, ra, rc, R, x, y, rfl, rfl, hj, hRj, hJ⟩ := hrel
                  by_cases hlt3 : j < M.length
                  · obtain ⟨⟨u, v⟩, hq⟩ : ∃ p, M[j]? = some p := ⟨_, List.getElem?_eq_getElem hlt3⟩
                    obtain ⟨hA, hBxy, hPb, hOR, hBw⟩ := hJ.out
                    have hbq : (0 ≤ u ∧ u ≤ 4294967295) ∧ (0 ≤ v ∧ v ≤ 4294967295) := hMB.out _ (List.mem_of_getElem? hq)
                    have hbp : (0 ≤ x ∧ x ≤ 4294967295) ∧ (0 ≤ y ∧ y ≤ 4294967295) := hBxy
                    obtain ⟨_, _, e3, h3⟩ := HPO.out.below hBw
                    cases e3
                    obtain ⟨gq, rfl, hgq, q0, q1⟩ := h3 j _ hq
                    simp only at q0 q1
                    have c0 := hPb.c0
                    have c1 := hPb.c1
                    have f0 := hPb.f 0
                    have f1 := hPb.f 1
                    simp only at c0 c1
                    have hlt3' : (j : Int) < (M.length : Int) := by omega
                    have w1' : IntKind.i64.wrap (v + 1) = v + 1 := IntWalk.i64_in _ (by omega)
                    have w2' : IntKind.i64.wrap (y + 1) = y + 1 := IntWalk.i64_in _ (by omega)
                    have HA := Lib.hid hA
                    have HPb := Lib.hid hPb
                    have HOR := Lib.hid hOR
                    have HBw := Lib.hid hBw
                    have HQ := Lib.hid hq
                    have hzg := hPb.lt
                    clear hA hPb hOR hBw hBxy h3 hq hJ
                    by_cases hc : v + 1 < x ∨ y + 1 < u
                    · have HN := Lib.hid (HA.out.on HQ.out hc)
                      have hsp : (decide (v + 1 < x) = true) ∨ (decide (v + 1 < x) = false ∧ decide (y + 1 < u) = true) := by
                        by_cases h : v + 1 < x
                        · exact Or.inl (decide_eq_true h)
                        · exact Or.inr ⟨decide_eq_false h, decide_eq_true (by omega)⟩
                      clear hc
                      rcases hsp with h | ⟨h, h'⟩
                      all_goals
                        go_wp2_with fail
                        go_quiet (fail)
                        have HOR2 := Lib.hid (HOR.out.below (bdrew _ wr nq))
                        have HBw2 := Lib.hid (HBw.out.trans (bdrew _ wr nq))
                        have HPb2 := Lib.hid (HPb.out.below (bdrew _ wr nq) hzg)
                        have q0' : (wr.drewN nq).cell? ⟨gq, j * 2, none⟩ = some (.int .i64 u) := q0
                        have q1' : (wr.drewN nq).cell? ⟨gq, j * 2 + 1, none⟩ = some (.int .i64 v) := q1
                        have hsz' : (wr.drewN nq).heap.size = wr.heap.size := rfl
                        generalize wr.drewN nq = wd at *
                        obtain ⟨na, nc, w6, hr, ho, hg, _⟩ := appP wd (u, v) HOR2.out (by omega) (by omega)
                        have hll : (R ++ [(u, v)]).length = R.length + 1 := by simp
                        have HB6 := Lib.hid (HBw2.out.grown hg (by omega) (fun k hk => by have := (World.ownsRow.lt HOR2.out k hk).1; omega))
                        have HP6 : Hid (Pb w6 wo.heap.size (x, y)) := Lib.hid ((hg.block _ HPb2.out.lt (fun e => by have := (World.ownsRow.lt HOR2.out _ e.symm).1; omega)).trans HPb2.out)
                        have HAP := Lib.hid hr
                        have HO6 := Lib.hid ho
                        rw [hll] at HAP HO6
                        clear hr ho hg q0 q1 c0 c1 f0 f1 w1' w2' hsz'
                        go_wp2_with (at_builtin; refine wpList_append_run _ rfl _ _ 22 22 rfl _ _ rfl rfl _ w6 HAP.out ?_)
                        go_roundw
                        case rel => exact ⟨j + 1, na, nc, R ++ [(u, v)], x, y, by rw [hll], by go_num, by omega, by omega, Lib.hid ⟨HN.out, hbp, HP6.out, by rw [hll]; exact HO6.out, HB6.out⟩⟩
                        case measure => simp [intOf]; omega
                    · have HN := Lib.hid (fun (x' y' : Int) (hx : x' = min x u) (hy : y' = max y v) => HA.out.in HQ.out hc hx hy)
                      have HL3 := Lib.hid (show L3 wo wr gq j u v x y (.slice ra R.length rc) R from ⟨q0, q1, HPb.out, HOR.out, HBw.out, by have := HOUT.out; rcases this.2 with ⟨e, _⟩ | ⟨g', _, _, e, hb, hgg, _⟩ <;> cases e; exact (Array.getElem?_eq_some_iff.1 hgg).1⟩)
                      have hd1 : decide (v + 1 < x) = false := decide_eq_false (by omega)
                      have hd2 : decide (y + 1 < u) = false := decide_eq_false (by omega)
                      clear hc
                      go_wp2_with fail
                      go_quiet (fail)
                      have HL4 := Lib.hid (HL3.out.drew nq)
                      clear HL3 q0 q1 c0 c1 f0 f1 w1' w2' hd1 hd2 HPb HOR HBw
                      generalize wr.drewN nq = wd at *
                      have q0 := HL4.out.q0
                      have q1 := HL4.out.q1
                      have c0 := HL4.out.pb.c0
                      have c1 := HL4.out.pb.c1
                      have f0 := HL4.out.pb.f 0
                      simp only at c0 c1
                      by_cases hu : u < x
                      · have hu' : decide (u < x) = true := decide_eq_true hu
                        go_wp2_with fail
                        go_quiet (fail)
                        have HL5 := Lib.hid ((HL4.out.drew nq).set0 u)
                        have q0' : (wd.drewN nq).cell? ⟨gq, j * 2, none⟩ = some (.int .i64 u) := q0
                        have f0' : (wd.drewN nq).frozen? ⟨wo.heap.size, 0, none⟩ = false := f0
                        have c0' : (wd.drewN nq).cell? ⟨wo.heap.size, 0, none⟩ = some (.int .i64 x) := c0
                        clear HL4 q0 q1 c0 c1 f0 hu'
                        generalize wd.drewN nq = we at *
                        go_wp2_with fail
                        clear q0' f0' c0'
                        generalize we.setCell ⟨wo.heap.size, 0, none⟩ (.int .i64 u) = wf at *
                        have q0 := HL5.out.q0
                        have q1 := HL5.out.q1
                        have c0 := HL5.out.pb.c0
                        have c1 := HL5.out.pb.c1
                        simp only at c0 c1
                        by_cases hv : y < v
                        · have hv' : decide (y < v) = true := decide_eq_true hv
                          go_quiet (fail)
                          have HL6 := Lib.hid ((HL5.out.drew nq).set1 v)
                          have q1' : (wf.drewN nq).cell? ⟨gq, j * 2 + 1, none⟩ = some (.int .i64 v) := q1
                          have f1' : (wf.drewN nq).frozen? ⟨wo.heap.size, 1, none⟩ = false := HL5.out.pb.f 1
                          have c1' : (wf.drewN nq).cell? ⟨wo.heap.size, 1, none⟩ = some (.int .i64 y) := c1
                          clear HL5 q0 q1 c0 c1 hv'
                          generalize wf.drewN nq = wh at *
                          have HN2 := Lib.hid (HN.out u v (by omega) (by omega))
                          go_wp2_with fail
                          go_roundw
                          case rel => exact ⟨j + 1, ra, rc, R, u, v, rfl, by go_num, by omega, by omega, Lib.hid ⟨HN2.out, (by unfold Bd; simp only; omega), HL6.out.pb, HL6.out.own, HL6.out.bw⟩⟩
                          case measure => simp [intOf]; omega
                        · have hv' : decide (y < v) = false := decide_eq_false hv
                          go_quiet (fail)
                          have HL6 := Lib.hid (HL5.out.drew nq)
                          clear HL5 q0 q1 c0 c1 hv'
                          generalize wf.drewN nq = wh at *
                          have HN2 := Lib.hid (HN.out u y (by omega) (by omega))
                          go_wp2_with fail
                          go_roundw
                          case rel => exact ⟨j + 1, ra, rc, R, u, y, rfl, by go_num, by omega, by omega, Lib.hid ⟨HN2.out, (by unfold Bd; simp only; omega), HL6.out.pb, HL6.out.own, HL6.out.bw⟩⟩
                          case measure => simp [intOf]; omega
                      · have hu' : decide (u < x) = false := decide_eq_false hu
                        go_wp2_with fail
                        go_quiet (fail)
                        have HL5 := Lib.hid (HL4.out.drew nq)
                        clear HL4 q0 q1 c0 c1 f0 hu'
                        generalize wd.drewN nq = wf at *
                        go_wp2_with fail
                        have q0 := HL5.out.q0
                        have q1 := HL5.out.q1
                        have c0 := HL5.out.pb.c0
                        have c1 := HL5.out.pb.c1
                        simp only at c0 c1
                        by_cases hv : y < v
                        · have hv' : decide (y < v) = true := decide_eq_true hv
                          go_quiet (fail)
                          have HL6 := Lib.hid ((HL5.out.drew nq).set1 v)
                          have q1' : (wf.drewN nq).cell? ⟨gq, j * 2 + 1, none⟩ = some (.int .i64 v) := q1
                          have f1' : (wf.drewN nq).frozen? ⟨wo.heap.size, 1, none⟩ = false := HL5.out.pb.f 1
                          have c1' : (wf.drewN nq).cell? ⟨wo.heap.size, 1, none⟩ = some (.int .i64 y) := c1
                          clear HL5 q0 q1 c0 c1 hv'
                          generalize wf.drewN nq = wh at *
                          have HN2 := Lib.hid (HN.out x v (by omega) (by omega))
                          go_wp2_with fail
                          go_roundw
                          case rel => exact ⟨j + 1, ra, rc, R, x, v, rfl, by go_num, by omega, by omega, Lib.hid ⟨HN2.out, (by unfold Bd; simp only; omega), HL6.out.pb, HL6.out.own, HL6.out.bw⟩⟩
                          case measure => simp [intOf]; omega
                        · have hv' : decide (y < v) = false := decide_eq_false hv
                          go_quiet (fail)
                          have HL6 := Lib.hid (HL5.out.drew nq)
                          clear HL5 q0 q1 c0 c1 hv'
                          generalize wf.drewN nq = wh at *
                          have HN2 := Lib.hid (HN.out x y (by omega) (by omega))
                          go_wp2_with fail
                          go_roundw
                          case rel => exact ⟨j + 1, ra, rc, R, x, y, rfl, by go_num, by omega, by omega, Lib.hid ⟨HN2.out, (by unfold Bd; simp only; omega), HL6.out.pb, HL6.out.own, HL6.out.bw⟩⟩
                          case measure => simp [intOf]; omega
                  · have hjM : j = M.length := by omega
                    subst hjM
                    have HG := Lib.hid (show G = insR (x, y) R by rw [HNX.out]; unfold mergeR; rw [hJ.out.1.fin])
                    have HPR2 := Lib.hid (prsN_own hJ.out.2.2.2.1)
                    have HPb := Lib.hid hJ.out.2.2.1
                    have HBw := Lib.hid hJ.out.2.2.2.2
                    have hzg := hJ.out.2.2.1.lt
                    clear hJ
                    have hGl : G.length ≤ 33 := by have := HMB2.out.2; omega
                    go_wp2_with fail
                    obtain ⟨wq, rfl⟩ : ∃ wq : World, wq = wr := ⟨_, rfl⟩
                    go_loopw [10, 16, 17] (fun ov dv kv wx => ∃ (j : Nat) (d : Bool) (na : Option Addr) (nc : Nat) (O : List Rg), ov = .slice na O.length nc ∧ dv = .bool d ∧ kv = .int .i64 (j : Int) ∧ j ≤ R.length ∧ Hid (InsR G (x, y) R j d O ∧ OwnsP wq.heap.size wx (.slice na O.length nc) O ∧ Below wq.heap.size wq wx)) (fun _ _ kv _ => R.length - (intOf kv).toNat)
                    case atStart => exact ⟨0, false, none, 0, [], rfl, rfl, rfl, Nat.zero_le _, Lib.hid ⟨InsR.start HG.out, World.ownsRow_nil _ _ _ _, Below.refl _ _⟩⟩
                    case round =>
                      obtain ⟨j, d, na, nc, O, rfl, rfl, rfl, hj4, hI⟩ := hrel
                      have hOl : O.length ≤ 33 := by have := hI.out.1.len; omega
                      by_cases hlt4 : j < R.length
                      · obtain ⟨⟨u, v⟩, hq⟩ : ∃ p, R[j]? = some p := ⟨_, List.getElem?_eq_getElem hlt4⟩
                        obtain ⟨_, _, e4, h4⟩ := HPR2.out.below hI.out.2.2
                        cases e4
                        obtain ⟨gq, rfl, hgq, q0, q1⟩ := h4 j _ hq
                        have hPw := HPb.out.below hI.out.2.2 hzg
                        simp only at q0 q1
                        have c0 := hPw.c0
                        have c1 := hPw.c1
                        simp only at c0 c1
                        have hlt4' : (j : Int) < (R.length : Int) := by omega
                        have HQ := Lib.hid hq
                        have HI := Lib.hid hI.out.1
                        have HOW := Lib.hid hI.out.2.1
                        have HBQ := Lib.hid hI.out.2.2
                        clear h4 hq hPw hI
                        cases d with
                        | true =>
                          have HN := Lib.hid (HI.out.on HQ.out)
                          go_wp2_with fail
                          go_quiet (fail)
                          have q0' : (wr.drewN nq).cell? ⟨gq, j * 2, none⟩ = some (.int .i64 u) := q0
                          have q1' : (wr.drewN nq).cell? ⟨gq, j * 2 + 1, none⟩ = some (.int .i64 v) := q1
                          have c0' : (wr.drewN nq).cell? ⟨wo.heap.size, 0, none⟩ = some (.int .i64 x) := c0
                          have c1' : (wr.drewN nq).cell? ⟨wo.heap.size, 1, none⟩ = some (.int .i64 y) := c1
                          have HOW2 := Lib.hid (HOW.out.below (bdrew _ wr nq))
                          have HBQ2 := Lib.hid (HBQ.out.trans (bdrew _ wr nq))
                          have hgq' : gq < (wr.drewN nq).heap.size := hgq
                          clear q0 q1 c0 c1 HOW HBQ hgq
                          generalize wr.drewN nq = wd at *
                          obtain ⟨ma, mc, w6, hr, ho, hg, _⟩ := appP wd (u, v) HOW2.out HBQ2.out.size (by omega)
                          have hll : (O ++ [(u, v)]).length = O.length + 1 := by simp
                          have HB6 := Lib.hid (HBQ2.out.grown hg HBQ2.out.size (fun k hk => (World.ownsRow.lt HOW2.out k hk).1))
                          have HAP := Lib.hid hr
                          have HO6 := Lib.hid ho
                          rw [hll] at HAP HO6
                          clear hr ho hg c0' c1'
                          go_wp2_with (at_builtin; refine wpList_append_run _ rfl _ _ 22 22 rfl _ _ rfl rfl _ w6 HAP.out ?_)
                          go_roundw
                          case rel => exact ⟨j + 1, true, ma, mc, O ++ [(u, v)], by rw [hll], rfl, by go_num, by omega, Lib.hid ⟨HN.out, by rw [hll]; exact HO6.out, HB6.out⟩⟩
                          case measure => simp [intOf]; omega
                        | false =>
                          by_cases hc : x < u
                          · have HN := Lib.hid (HI.out.before HQ.out hc)
                            have hc' : decide (x < u) = true := decide_eq_true hc
                            go_wp2_with fail
                            go_quiet (fail)
                            have q0' : (wr.drewN nq).cell? ⟨gq, j * 2, none⟩ = some (.int .i64 u) := q0
                            have q1' : (wr.drewN nq).cell? ⟨gq, j * 2 + 1, none⟩ = some (.int .i64 v) := q1
                            have c0' : (wr.drewN nq).cell? ⟨wo.heap.size, 0, none⟩ = some (.int .i64 x) := c0
                            have c1' : (wr.drewN nq).cell? ⟨wo.heap.size, 1, none⟩ = some (.int .i64 y) := c1
                            have HOW2 := Lib.hid (HOW.out.below (bdrew _ wr nq))
                            have HBQ2 := Lib.hid (HBQ.out.trans (bdrew _ wr nq))
                            have hgq' : gq < (wr.drewN nq).heap.size := hgq
                            clear q0 q1 c0 c1 HOW HBQ hgq
                            generalize wr.drewN nq = wd at *
                            clear hc'
                            obtain ⟨ma, mc, w6, hr, ho, hg, hnb⟩ := appP wd (x, y) HOW2.out HBQ2.out.size (by omega)
                            have hll : (O ++ [(x, y)]).length = O.length + 1 := by simp
                            have HB6 := Lib.hid (HBQ2.out.grown hg HBQ2.out.size (fun k hk => (World.ownsRow.lt HOW2.out k hk).1))
                            have HAP := Lib.hid hr
                            have HO6 := Lib.hid ho
                            have r0' : w6.cell? ⟨gq, j * 2, none⟩ = some (.int .i64 u) := by
                              obtain ⟨_, _, e5, h5⟩ := HPR2.out.below HB6.out
                              cases e5
                              obtain ⟨g5, e6, _, a0, _⟩ := h5 j _ HQ.out
                              cases e6
                              exact a0
                            have r1' : w6.cell? ⟨gq, j * 2 + 1, none⟩ = some (.int .i64 v) := by
                              obtain ⟨_, _, e5, h5⟩ := HPR2.out.below HB6.out
                              cases e5
                              obtain ⟨g5, e6, _, _, a1⟩ := h5 j _ HQ.out
                              cases e6
                              exact a1
                            obtain ⟨la, lc, w7, hr2, ho2, hg2, _⟩ := appP w6 (u, v) HO6.out HB6.out.size (by rw [hll]; omega)
                            have hll2 : (O ++ [(x, y)] ++ [(u, v)]).length = O.length + 1 + 1 := by simp
                            have HB7 := Lib.hid (HB6.out.grown hg2 HB6.out.size (fun k hk => (World.ownsRow.lt HO6.out k hk).1))
                            have HAP2 := Lib.hid hr2
                            have HO7 := Lib.hid ho2
                            rw [hll] at HAP
                            rw [hll, hll2] at HAP2
                            rw [hll2] at HO7
                            clear hr ho hg hr2 ho2 hg2 hnb
                            go_upto_region 39 with (at_builtin; refine wpList_append_run _ rfl _ _ 22 22 rfl _ _ rfl rfl _ w6 HAP.out ?_)
                            clear q0' q1' c0' c1'
                            go_wp2_with (at_builtin; refine wpList_append_run _ rfl _ _ 22 22 rfl _ _ rfl rfl _ w7 HAP2.out ?_)
                            go_roundw
                            case rel => exact ⟨j + 1, true, la, lc, O ++ [(x, y)] ++ [(u, v)], by rw [hll2], rfl, by go_num, by omega, Lib.hid ⟨HN.out, by rw [hll2]; exact HO7.out, HB7.out⟩⟩
                            case measure => simp [intOf]; omega
                          · have HN := Lib.hid (HI.out.behind HQ.out hc)
                            have hc' : decide (x < u) = false := decide_eq_false hc
                            go_wp2_with fail
                            go_quiet (fail)
                            have q0' : (wr.drewN nq).cell? ⟨gq, j * 2, none⟩ = some (.int .i64 u) := q0
                            have q1' : (wr.drewN nq).cell? ⟨gq, j * 2 + 1, none⟩ = some (.int .i64 v) := q1
                            have c0' : (wr.drewN nq).cell? ⟨wo.heap.size, 0, none⟩ = some (.int .i64 x) := c0
                            have c1' : (wr.drewN nq).cell? ⟨wo.heap.size, 1, none⟩ = some (.int .i64 y) := c1
                            have HOW2 := Lib.hid (HOW.out.below (bdrew _ wr nq))
                            have HBQ2 := Lib.hid (HBQ.out.trans (bdrew _ wr nq))
                            have hgq' : gq < (wr.drewN nq).heap.size := hgq
                            clear q0 q1 c0 c1 HOW HBQ hgq
                            generalize wr.drewN nq = wd at *
                            clear hc'
                            obtain ⟨ma, mc, w6, hr, ho, hg, _⟩ := appP wd (u, v) HOW2.out HBQ2.out.size (by omega)
                            have hll : (O ++ [(u, v)]).length = O.length + 1 := by simp
                            have HB6 := Lib.hid (HBQ2.out.grown hg HBQ2.out.size (fun k hk => (World.ownsRow.lt HOW2.out k hk).1))
                            have HAP := Lib.hid hr
                            have HO6 := Lib.hid ho
                            rw [hll] at HAP HO6
                            clear hr ho hg c0' c1'
                            go_wp2_with (at_builtin; refine wpList_append_run _ rfl _ _ 22 22 rfl _ _ rfl rfl _ w6 HAP.out ?_)
                            go_roundw
                            case rel => exact ⟨j + 1, false, ma, mc, O ++ [(u, v)], by rw [hll], rfl, by go_num, by omega, Lib.hid ⟨HN.out, by rw [hll]; exact HO6.out, HB6.out⟩⟩
                            case measure => simp [intOf]; omega
                      · have hjR : j = R.length := by omega
                        subst hjR
                        cases d with
                        | true =>
                          have hgo := hI.out.1.done
                          subst hgo
                          have HOW := Lib.hid (World.ownsRow.mono hI.out.2.1 (show w2.heap.size ≤ wq.heap.size from Nat.le_trans HBR.out.size HBw.out.size))
                          have HBF := Lib.hid (HBR.out.trans ((HBw.out.trans (hI.out.2.2.mono HBw.out.size)).mono HBR.out.size))
                          clear hI
                          go_wp2
                          go_roundw
                          case rel => exact ⟨k + 1, na, nc, by omega, by go_num, by rw [HGE.out], Lib.hid ⟨HNE.out, by rw [HGE.out]; exact HOW.out, HBF.out⟩⟩
                          case measure => simp [intOf]; omega
                        | false =>
                          have hgo := hI.out.1.last
                          have hPw := HPb.out.below hI.out.2.2 hzg
                          have c0 := hPw.c0
                          have c1 := hPw.c1
                          simp only at c0 c1
                          obtain ⟨ma, mc, w6, hr, ho, hg, _⟩ := appP wr (x, y) hI.out.2.1 hI.out.2.2.size (by omega)
                          have hll : (O ++ [(x, y)]).length = O.length + 1 := by simp
                          have HB6 := Lib.hid (hI.out.2.2.grown hg hI.out.2.2.size (fun k hk => (World.ownsRow.lt hI.out.2.1 k hk).1))
                          have HAP := Lib.hid hr
                          have HOW := Lib.hid (World.ownsRow.mono ho (show w2.heap.size ≤ wq.heap.size from Nat.le_trans HBR.out.size HBw.out.size))
                          have HBF := Lib.hid (HBR.out.trans ((HBw.out.trans (HB6.out.mono HBw.out.size)).mono HBR.out.size))
                          rw [← hgo] at HOW HAP
                          have hgl : G.length = O.length + 1 := by rw [hgo]; simp
                          have HGL := Lib.hid hgl
                          clear hr ho hg hI hPw hgo hll hgl
                          go_wp2_with (at_builtin; refine wpList_append_run _ rfl _ _ 22 22 rfl _ _ rfl rfl _ w6 HAP.out ?_)
                          go_roundw
                          case rel => exact ⟨k + 1, ma, mc, by omega, by go_num, by rw [HGE.out], Lib.hid ⟨HNE.out, by rw [HGE.out]; exact HOW.out, HBF.out⟩⟩
                          case measure => simp [intOf]; omega
    · have hk2 : k = L.length := by omega
      subst hk2
      have hx : errL most L = (0, 0) := by rw [hH.out.1, List.drop_length]; unfold errL; simp
      have HX := Lib.hid hx
      have HPV := Lib.hid (prsN_own hH.out.2.1)
      have HBW := Lib.hid (B2.out.trans (hH.out.2.2.mono B2.out.size))
      clear hH hx
      go_wp2
      exact bodyPost_ret (v := .tuple #[.slice oa (mergesTo most L L.length).length oc, .int .i64 0, .int .i64 0]) (by simp [results, Tryd.results6, go_sem]) rfl (RSetR.good HX.out HPV.out HBW.out)
end Go.Proofs.YtpmakbjchepkmaaDoor
