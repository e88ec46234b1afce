/- Deed: the document's CheckUser. -/
import Derived.Test.YtjljbnilckkjnaaDoorGR1
import Derived.Test.YtjljbnilckkjnaaDoorGM3
import Derived.Test.YtjljbnilckkjnaaDoorB4
import Derived.Test.YtjljbnilckkjnaaDoorB3
import Derived.Deep.DeepCutAuto
namespace Go.Proofs.YtjljbnilckkjnaaDoor
open Go Go.RowKit

theorem leS_nil {name : ByteArray} (h : rightX name = true) : leS name ⟨#[]⟩ = false := by
  have hs : 1 ≤ name.size := by
    unfold rightX at h
    simp only [Bool.and_eq_true, decide_eq_true_eq] at h
    exact h.1.1
  have hl := tl_len name
  unfold leS
  rw [show (⟨#[]⟩ : ByteArray).toList = [] from by decide +kernel]
  cases hn : name.toList with
  | nil => rw [hn] at hl; simp at hl; omega
  | cons c t => simp [Op.bytesLess]
/-- What a round of the document's CheckUser leans on. -/
structure RndK (w wb y : World) (V g o k : Nat) (name : ByteArray) (valid : Int) (sv lv : Value) (b : Bx) (prev : ByteArray) (R LS X : Bool) (CK SZ : Int) : Prop where
  x0 : ∀ u, Below y.heap.size y u → u.cell? ⟨V, 0, none⟩ = some (.string b.name)
  x1 : ∀ u, Below y.heap.size y u → u.cell? ⟨V, 1, none⟩ = some (.int .i64 b.valid)
  x3 : ∀ u, Below y.heap.size y u → u.cell? ⟨V, 3, none⟩ = some lv
  row : ∀ u, Below y.heap.size y u → u.heap[V]? = some (.cells #[.string b.name, .int .i64 b.valid, .int .i64 b.next, lv] 52 (0, 0))
  c1 : ∀ u, Below y.heap.size y u → u.cell? ⟨w.heap.size, 1, none⟩ = some (.int .i64 valid)
  c2 : ∀ u, Below y.heap.size y u → u.cell? ⟨w.heap.size, 2, none⟩ = some sv
  e0 : 0 < k → ∀ u, Below y.heap.size y u → u.cell? ⟨g, o + (k - 1) * 4, none⟩ = some (.string prev)
  out : ∀ u, Below y.heap.size y u → Below wb.heap.size wb u
  rb : ∀ u, Below y.heap.size y u → Calls Tryd.prog 15 #[.string b.name] u fun e w' => e = .returned (.bool R) ∧ Below y.heap.size y w'
  ck : ∀ u, Below y.heap.size y u → Calls Tryd.prog 61 #[.agg #[.string b.name, .int .i64 b.valid, .int .i64 b.next, lv]] u fun e w' => e = .returned (.int .i64 CK) ∧ Below y.heap.size y w'
  sz : ∀ u, Below y.heap.size y u → Calls Tryd.prog 62 #[.agg #[.string b.name, .int .i64 b.valid, .int .i64 b.next, lv]] u fun e w' => e = .returned (.int .i64 SZ) ∧ Below y.heap.size y w'
  ls : LS = (Op.bytesLess b.name.toList prev.toList || b.name.toList == prev.toList)
  xr : R = false → X = true
  xz : R = true → k = 0 → X = false
  xl : R = true → 0 < k → X = LS
theorem any_skip {P : Program} {ops : Array Oper} {Q : Exit → Act → World → Prop} {md : Region.Mode} (i : Nat) (d : Option Tmp) {oi : Oper} {fuel : Nat} {listed : Array Bool} {a : Act} {w : World} (hi : ops[i]? = some oi) (hd : oi.dst = d)
    (hs : Region.noSelect ops = true) (hf : Region.free md ops listed i = true) (hr : (Region.ready md ops listed).contains i = true)
    (hQ : ∀ c a w, Q (.panic c) (a.put d undef) w → Q (.panic c) a w) (hg : Region.wanted oi (yielded ops a.tmps) = false)
    (h : wpAny P md ops Q fuel (listed.setIfInBounds i true) (a.put d undef) w) : wpAny P md ops Q (fuel + 1) listed a w := by
  subst hd
  exact wpAny_take hi hs hf hr hQ (Or.inr ⟨hg, rfl⟩) h
theorem ld_str (u : World) (V : Nat) (s : ByteArray) (h : u.cell? ⟨V, 0, none⟩ = some (.string s)) : (Instr.loadAt 9 (.pointer (some ⟨V, 0, none⟩))).run Tryd.prog u = .ok (.string s) u := by
  go_simp
set_option maxHeartbeats 8000000 in
set_option maxRecDepth 100000 in
theorem refCheckUser (name : ByteArray) (valid : Int) (sv : Value) (bs : List Bx) (w : World) (h : Boxes w sv bs) (hlen : bs.length ≤ 4294967295) (hs : name.size ≤ 9223372036854775807) (hbn : ∀ b ∈ bs, b.name.size ≤ 4398046511104) (hT : Tabs w) :
    Calls Tryd.prog 30 #[.agg #[.string name, .int .i64 valid, sv]] w fun e w' => e = .returned (.int .i64 (ckUser ⟨name, valid, bs.map Bx.dat⟩)) ∧ Below w.heap.size w w' := by
  obtain ⟨sa, sc, rfl, g, off, hg, hc⟩ := h.opened
  have hlets := h.lets
  obtain ⟨wb, hwb⟩ : ∃ wb, wb = w.alloc (.cells #[.string name, .int .i64 valid, .slice sa bs.length sc] 43) := ⟨_, rfl⟩
  have hb0 : Below w.heap.size w wb := by rw [hwb]; exact (Below.refl _ w).alloc (Nat.le_refl _) _
  have hrow0 : wb.heap[w.heap.size]? = some (.cells #[.string name, .int .i64 valid, .slice sa bs.length sc] 43 (0, 0)) := by rw [hwb]; exact heap_alloc_new w _
  have hNlt := (Array.getElem?_eq_some_iff.1 hrow0).1
  have HR := Lib.hid (bel_bring (Below.refl _ wb) (refRightUser name wb hs))
  have HC : Hid (∀ u, Below wb.heap.size wb u → u.cell? ⟨w.heap.size, 1, none⟩ = some (.int .i64 valid) ∧ u.cell? ⟨w.heap.size, 2, none⟩ = some (.slice sa bs.length sc)) := Lib.hid (fun u hu => by
    have h1 := below_row hrow0 hu hNlt
    exact ⟨cell_of_row _ _ _ _ _ _ h1, cell_of_row _ _ _ _ _ _ h1⟩)
  have HIN : Hid (∀ u, Below wb.heap.size wb u → Below w.heap.size w u) := Lib.hid (fun u hu => hb0.trans (hu.mono hb0.size))
  have HTT : Hid (∀ u, Below wb.heap.size wb u → Tabs u) := Lib.hid (fun u hu => (hT.below hb0 (Nat.le_refl _)).below hu (Nat.le_refl _))
  have k0 : wb.cell? ⟨w.heap.size, 0, none⟩ = some (.string name) := cell_of_row _ _ _ _ _ _ hrow0
  have HW := Lib.hid (show w.alloc (.cells #[.string name, .int .i64 valid, .slice sa bs.length sc] 43) = wb from hwb.symm)
  have HN := Lib.hid hNlt
  obtain ⟨E, hE⟩ : ∃ E, ckUser ⟨name, valid, bs.map Bx.dat⟩ = E := ⟨_, rfl⟩
  rw [hE]
  unfold ckUser at hE
  dsimp only at hE
  rw [List.length_map] at hE
  generalize rightU name = R at *
  have HE := Lib.hid hE
  have HGG := Lib.hid hg
  have HOO := Lib.hid hc
  have HLL := Lib.hid hlets
  have HBN := Lib.hid hbn
  clear hwb hb0 hrow0 hNlt hE hg hc hlets h hs hbn hT
  go_enter Tryd.func30, Tryd.ntmps30
  go_wp2_with (first | rw [HW.out])
  refine HR.out.mono ?_
  rintro e w1 ⟨rfl, hb1⟩
  have HB1 := Lib.hid hb1
  clear HR HW k0
  cases R with
  | false =>
    have HX : Hid (E = 4) := Lib.hid (by rw [← HE.out, if_pos rfl])
    have HF := Lib.hid (HIN.out _ hb1)
    clear hb1 HE
    go_wp2
    go_ret
    exact ⟨ret_int1 HX.out.symm, HF.out⟩
  | true =>
  have HE1 := Lib.hid (show _ from by have := HE.out; rw [if_neg (by simp)] at this; exact this)
  obtain ⟨c1, c2⟩ := HC.out w1 hb1
  clear hb1 HE
  by_cases hv1 : valid < 1
  · have HX : Hid (E = 2) := Lib.hid (by rw [← HE1.out, if_pos hv1])
    have HF := Lib.hid (HIN.out _ HB1.out)
    clear HE1
    go_wp2
    go_ret
    exact ⟨ret_int1 HX.out.symm, HF.out⟩
  by_cases hv2 : 4294967295 < valid
  · have HX : Hid (E = 2) := Lib.hid (by rw [← HE1.out, if_neg hv1, if_pos hv2])
    have HF := Lib.hid (HIN.out _ HB1.out)
    clear HE1
    go_wp2
    go_ret
    exact ⟨ret_int1 HX.out.symm, HF.out⟩
  have HE2 := Lib.hid (show _ from by have := HE1.out; rw [if_neg hv1, if_neg hv2] at this; exact this)
  clear HE1
  by_cases hn0 : bs.length = 0
  · have HX : Hid (E = 8) := Lib.hid (by rw [← HE2.out, if_pos hn0])
    have HF := Lib.hid (HIN.out _ HB1.out)
    have hn1 : (bs.length : Int) < 1 := by omega
    clear HE2 hn0
    go_wp2
    go_ret
    exact ⟨ret_int1 HX.out.symm, HF.out⟩
  have hn1 : ¬ (bs.length : Int) < 1 := by omega
  by_cases hn6 : 6 < bs.length
  · have HX : Hid (E = 8) := Lib.hid (by rw [← HE2.out, if_neg hn0, if_pos hn6])
    have HF := Lib.hid (HIN.out _ HB1.out)
    have hn7 : (6 : Int) < (bs.length : Int) := by omega
    clear HE2
    go_wp2
    go_ret
    exact ⟨ret_int1 HX.out.symm, HF.out⟩
  have hn7 : ¬ (6 : Int) < (bs.length : Int) := by omega
  have HE3 := Lib.hid (show _ from by have := HE2.out; rw [if_neg hn0, if_neg hn6] at this; exact this)
  clear HE2
  go_wp2_with fail
  clear c1 c2 hn1 hn7 hn0 hn6
  go_loopw [3, 4, 5, 6] (fun fv nv zv iv wr => ∃ (k : Nat) (ah : ByteArray) (f : Bool) (n z : Int), k ≤ bs.length ∧ iv = .int .i64 (k : Int) ∧ fv = .bool f ∧ nv = .int .i64 n ∧ zv = .int .i64 z ∧ Hid (ckBxs valid ((bs.map Bx.dat).drop k) ah f n z = E ∧ Below wb.heap.size wb wr ∧ (k = 0 → ah = ⟨#[]⟩) ∧ (∀ p, 0 < k → bs[k - 1]? = some p → p.name = ah))) (fun _ _ _ iv _ => bs.length - (intOf iv).toNat)
  case atStart => exact ⟨0, ⟨#[]⟩, false, 0, 0, Nat.zero_le _, rfl, rfl, rfl, rfl, Lib.hid ⟨HE3.out, HB1.out, fun _ => rfl, fun p h => absurd h (by omega)⟩⟩
  case round =>
    clear HE3 HB1 hv1 hv2
    obtain ⟨k, ah, f, n, z, hk, rfl, rfl, rfl, rfl, hH⟩ := hrel
    obtain ⟨hgo, hb, hah0, hah1⟩ := hH.out
    obtain ⟨c1, c2⟩ := HC.out wr hb
    by_cases hlt : k < bs.length
    · have hlt' : (k : Int) < (bs.length : Int) := by omega
      have hp := List.getElem?_eq_getElem hlt
      generalize bs[k] = b at hp
      have hne : bs ≠ [] := fun e => by subst e; simp at hlt
      obtain ⟨rfl, hgl⟩ := HGG.out hne
      have hin := HIN.out wr hb
      obtain ⟨q0, q1, q2, q3⟩ := HOO.out k b hp
      obtain ⟨hl, hll⟩ := HLL.out b (List.mem_of_getElem? hp)
      obtain ⟨la, lc, hlv, _⟩ := hl.shape
      have d0 := (hin.cell (p := ⟨g, off + k * 4, none⟩) hgl).trans q0
      have d1 := (hin.cell (p := ⟨g, off + k * 4 + 1, none⟩) hgl).trans q1
      have d2 := (hin.cell (p := ⟨g, off + k * 4 + 2, none⟩) hgl).trans q2
      have d3 := (hin.cell (p := ⟨g, off + k * 4 + 3, none⟩) hgl).trans q3
      rw [hlv] at d3 hl
      obtain ⟨y, hy⟩ : ∃ y, y = wr.alloc (.cells #[.string b.name, .int .i64 b.valid, .int .i64 b.next, .slice la b.ls.length lc] 52) := ⟨_, rfl⟩
      have hby : Below wr.heap.size wr y := by rw [hy]; exact (Below.refl _ wr).alloc (Nat.le_refl _) _
      have hrx : y.heap[wr.heap.size]? = some (.cells #[.string b.name, .int .i64 b.valid, .int .i64 b.next, .slice la b.ls.length lc] 52 (0, 0)) := by rw [hy]; exact heap_alloc_new wr _
      have hvlt := (Array.getElem?_eq_some_iff.1 hrx).1
      have hout : ∀ u, Below y.heap.size y u → Below wb.heap.size wb u := fun u hu => hb.trans ((hby.trans (hu.mono hby.size)).mono hb.size)
      have hR : ∀ u, Below y.heap.size y u → u.heap[wr.heap.size]? = some (.cells #[.string b.name, .int .i64 b.valid, .int .i64 b.next, .slice la b.ls.length lc] 52 (0, 0)) := fun u hu => below_row hrx hu hvlt
      obtain ⟨X, hX⟩ : ∃ X, (!rightX b.name || (decide (0 < k) && leS b.name ah)) = X := ⟨_, rfl⟩
      have K : RndK w wb y wr.heap.size g off k name valid (.slice (some ⟨g, off, none⟩) bs.length sc) (.slice la b.ls.length lc) b ah (rightX b.name) (leS b.name ah) X (chk b.valid b.next (b.ls.map (·.1))) (szF 0 (b.ls.map (·.1))) := by
        constructor
        · exact fun u hu => cell_of_row _ _ _ _ _ _ (hR u hu)
        · exact fun u hu => cell_of_row _ _ _ _ _ _ (hR u hu)
        · exact fun u hu => cell_of_row _ _ _ _ _ _ (hR u hu)
        · exact hR
        · exact fun u hu => (HC.out u (hout u hu)).1
        · exact fun u hu => (HC.out u (hout u hu)).2
        · intro hk0 u hu
          have hp1 := List.getElem?_eq_getElem (show k - 1 < bs.length by omega)
          obtain ⟨r0, _⟩ := HOO.out (k - 1) _ hp1
          rw [← hah1 _ hk0 hp1]
          exact ((HIN.out u (hout u hu)).cell (p := ⟨g, off + (k - 1) * 4, none⟩) hgl).trans r0
        · exact hout
        · exact fun u hu => bel_bring hu (refRightBox b.name u (HTT.out u (hout u hu)) (HBN.out b (List.mem_of_getElem? hp)))
        · exact fun u hu => bel_bring hu (refCheck b.name b.valid b.next _ b.ls u (hl.below (HIN.out u (hout u hu))) (by omega))
        · exact fun u hu => bel_bring hu (refSize b.name b.valid b.next _ b.ls u (hl.below (HIN.out u (hout u hu))) (by omega))
        · rfl
        · intro h; rw [← hX, h]; rfl
        · intro h h0; rw [← hX, h, h0]; rfl
        · intro h h0; rw [← hX, h, decide_eq_true h0]; simp
      rw [drop_at9 (show (bs.map Bx.dat)[k]? = some b.dat by rw [List.getElem?_map, hp]; rfl), ckBxs] at hgo
      have hK1 : b.dat.name = b.name := rfl
      have hK2 : b.dat.valid = b.valid := rfl
      have hK3 : b.dat.next = b.next := rfl
      have hK4 : b.dat.ls = b.ls.map (·.1) := rfl
      rw [hK1, hK2, hK3, hK4, List.length_map] at hgo
      have hXt : X = true → (4 : Int) = E := fun hx => by
        have hc4 : ckBox b.name b.valid b.next (b.ls.map (·.1)) ah valid = 4 := by
          unfold ckBox
          by_cases h1 : rightX b.name = false
          · rw [if_pos h1]
          · rw [if_neg h1]
            have h2 : rightX b.name = true := by simpa using h1
            rw [← hX, h2] at hx
            simp only [Bool.not_true, Bool.false_or, Bool.and_eq_true] at hx
            rw [if_pos hx.2]
        rw [hc4, if_pos (by decide)] at hgo
        exact hgo
      have hXf : X = false → ckBox b.name b.valid b.next (b.ls.map (·.1)) ah valid = if chk b.valid b.next (b.ls.map (·.1)) ≠ 0 then chk b.valid b.next (b.ls.map (·.1)) else if valid < b.valid then 2 else 0 := fun hx => by
        rw [← hX] at hx
        simp only [Bool.or_eq_false_iff, Bool.not_eq_false', Bool.and_eq_false_iff] at hx
        obtain ⟨h2, h3⟩ := hx
        unfold ckBox
        rw [if_neg (by rw [h2]; simp)]
        have hl0 : leS b.name ah = false := by
          rcases h3 with h3 | h3
          · have h0 : k = 0 := by have := of_decide_eq_false h3; omega
            rw [hah0 h0]
            exact leS_nil h2
          · exact h3
        rw [if_neg (by rw [hl0]; simp)]
      have HXT := Lib.hid hXt
      have HXF := Lib.hid hXf
      generalize rightX b.name = R at K
      generalize leS b.name ah = LS at K
      generalize ckBox b.name b.valid b.next (b.ls.map (·.1)) ah valid = KB at hgo HXF
      generalize chk b.valid b.next (b.ls.map (·.1)) = CK at K HXF
      generalize szF 0 (b.ls.map (·.1)) = SZ at K hgo
      have HGO := Lib.hid hgo
      have HPB := Lib.hid hp
      have HY := Lib.hid (show wr.alloc (.cells #[.string b.name, .int .i64 b.valid, .int .i64 b.next, .slice la b.ls.length lc] 52) = y from hy.symm)
      have HBY := Lib.hid (Below.refl y.heap.size y)
      clear hgo hb hah0 hah1 hp hne hgl hin q0 q1 q2 q3 hl hll hy hby hrx hvlt hout hR hX hK1 hK2 hK3 hK4 hXt hXf hH hlv
      go_upto_region 14 with (first | rw [HY.out])
      clear c1 c2 d0 d1 d2 d3
      go_cut [62] (fun s u => s = .bool X ∧ Below y.heap.size y u)
      case first =>
        have hbw := HBY.out
        cases R with
        | false =>
          have HX := Lib.hid (K.xr rfl)
          refine wp_region_any (by kernel_rfl) ?_
          change wpAny _ _ _ _ _ _ _ (World.drew _)
          have hbd := hbw.drew
          refine any_take 0 (some 43) (.pointer (some ⟨wr.heap.size, 0, none⟩)) rfl rfl (by kernel_rfl) (by kernel_rfl) (by kernel_rfl) (fun _ _ _ h => h) (by first | rfl | kernel_rfl) (fun w => by first | rfl | go_simp) ?_
          simp only [Act.put, List.setIfInBounds_toArray, List.set_cons_zero, List.set_cons_succ]
          refine any_one 1 (by kernel_rfl) rfl rfl (fun Kk hK => wp_runs (some 44) rfl (ex_load 9 (.tmp 43) rfl _ _ rfl (ld_str y.drew wr.heap.size b.name (K.x0 _ hbd))) (hK _ _ ?_))
          simp only [Act.put, List.setIfInBounds_toArray, List.set_cons_zero, List.set_cons_succ]
          refine any_one 2 (by kernel_rfl) rfl rfl (fun Kk hK => wp_calls 15 _ (some 45) rfl (ex_call1 15 (.tmp 44) _ rfl _ rfl (fun _ _ => rfl)) _ (K.rb _ hbd) (fun v w2 hR => hK _ _ ?_) (fun c w2 hR => (by cases hR.1)) (fun w2 hR => (by cases hR.1)))
          obtain ⟨e, hB2⟩ := hR
          injection e with e
          subst e
          simp only [Act.put, List.setIfInBounds_toArray, List.set_cons_zero, List.set_cons_succ]
          refine any_take 3 (some 46) (.bool true) rfl rfl (by kernel_rfl) (by kernel_rfl) (by kernel_rfl) (fun _ _ _ h => h) (by first | rfl | kernel_rfl) (fun w => by first | rfl | go_simp) ?_
          simp only [Act.put, List.setIfInBounds_toArray, List.set_cons_zero, List.set_cons_succ]
          refine any_take 4 (some 47) (.bool true) rfl rfl (by kernel_rfl) (by kernel_rfl) (by kernel_rfl) (fun _ _ _ h => h) (by first | rfl | kernel_rfl) (fun w => by first | rfl | go_simp) ?_
          simp only [Act.put, List.setIfInBounds_toArray, List.set_cons_zero, List.set_cons_succ]
          refine any_skip 5 (some 48) rfl rfl (by kernel_rfl) (by kernel_rfl) (by kernel_rfl) (fun _ _ _ h => h) (by first | rfl | kernel_rfl) ?_
          simp only [Act.put, List.setIfInBounds_toArray, List.set_cons_zero, List.set_cons_succ]
          refine any_skip 6 (some 49) rfl rfl (by kernel_rfl) (by kernel_rfl) (by kernel_rfl) (fun _ _ _ h => h) (by first | rfl | kernel_rfl) ?_
          simp only [Act.put, List.setIfInBounds_toArray, List.set_cons_zero, List.set_cons_succ]
          refine any_skip 7 (some 50) rfl rfl (by kernel_rfl) (by kernel_rfl) (by kernel_rfl) (fun _ _ _ h => h) (by first | rfl | kernel_rfl) ?_
          simp only [Act.put, List.setIfInBounds_toArray, List.set_cons_zero, List.set_cons_succ]
          refine any_skip 8 (some 51) rfl rfl (by kernel_rfl) (by kernel_rfl) (by kernel_rfl) (fun _ _ _ h => h) (by first | rfl | kernel_rfl) ?_
          simp only [Act.put, List.setIfInBounds_toArray, List.set_cons_zero, List.set_cons_succ]
          refine any_skip 9 (some 52) rfl rfl (by kernel_rfl) (by kernel_rfl) (by kernel_rfl) (fun _ _ _ h => h) (by first | rfl | kernel_rfl) ?_
          simp only [Act.put, List.setIfInBounds_toArray, List.set_cons_zero, List.set_cons_succ]
          refine any_skip 10 (some 53) rfl rfl (by kernel_rfl) (by kernel_rfl) (by kernel_rfl) (fun _ _ _ h => h) (by first | rfl | kernel_rfl) ?_
          simp only [Act.put, List.setIfInBounds_toArray, List.set_cons_zero, List.set_cons_succ]
          refine any_skip 11 (some 54) rfl rfl (by kernel_rfl) (by kernel_rfl) (by kernel_rfl) (fun _ _ _ h => h) (by first | rfl | kernel_rfl) ?_
          simp only [Act.put, List.setIfInBounds_toArray, List.set_cons_zero, List.set_cons_succ]
          refine any_skip 12 (some 55) rfl rfl (by kernel_rfl) (by kernel_rfl) (by kernel_rfl) (fun _ _ _ h => h) (by first | rfl | kernel_rfl) ?_
          simp only [Act.put, List.setIfInBounds_toArray, List.set_cons_zero, List.set_cons_succ]
          refine any_skip 13 (some 56) rfl rfl (by kernel_rfl) (by kernel_rfl) (by kernel_rfl) (fun _ _ _ h => h) (by first | rfl | kernel_rfl) ?_
          simp only [Act.put, List.setIfInBounds_toArray, List.set_cons_zero, List.set_cons_succ]
          refine any_skip 14 (some 57) rfl rfl (by kernel_rfl) (by kernel_rfl) (by kernel_rfl) (fun _ _ _ h => h) (by first | rfl | kernel_rfl) ?_
          simp only [Act.put, List.setIfInBounds_toArray, List.set_cons_zero, List.set_cons_succ]
          refine any_skip 15 (some 58) rfl rfl (by kernel_rfl) (by kernel_rfl) (by kernel_rfl) (fun _ _ _ h => h) (by first | rfl | kernel_rfl) ?_
          simp only [Act.put, List.setIfInBounds_toArray, List.set_cons_zero, List.set_cons_succ]
          refine any_skip 16 (some 59) rfl rfl (by kernel_rfl) (by kernel_rfl) (by kernel_rfl) (fun _ _ _ h => h) (by first | rfl | kernel_rfl) ?_
          simp only [Act.put, List.setIfInBounds_toArray, List.set_cons_zero, List.set_cons_succ]
          refine any_skip 17 (some 60) rfl rfl (by kernel_rfl) (by kernel_rfl) (by kernel_rfl) (fun _ _ _ h => h) (by first | rfl | kernel_rfl) ?_
          simp only [Act.put, List.setIfInBounds_toArray, List.set_cons_zero, List.set_cons_succ]
          refine any_skip 18 (some 61) rfl rfl (by kernel_rfl) (by kernel_rfl) (by kernel_rfl) (fun _ _ _ h => h) (by first | rfl | kernel_rfl) ?_
          simp only [Act.put, List.setIfInBounds_toArray, List.set_cons_zero, List.set_cons_succ]
          refine any_take 19 (some 62) (.bool true) rfl rfl (by kernel_rfl) (by kernel_rfl) (by kernel_rfl) (fun _ _ _ h => h) (by first | rfl | kernel_rfl) (fun w => by first | rfl | go_simp) ?_
          simp only [Act.put, List.setIfInBounds_toArray, List.set_cons_zero, List.set_cons_succ]
          refine wpAny_done (by kernel_rfl) ?_ _
          go_wp2_with fail
          go_meet
          exact ⟨by rw [HX.out], hB2⟩
        | true =>
          by_cases hk0 : k = 0
          · have HX := Lib.hid (K.xz rfl hk0)
            subst hk0
            refine wp_region_any (by kernel_rfl) ?_
            change wpAny _ _ _ _ _ _ _ (World.drew _)
            have hbd := hbw.drew
            refine any_take 0 (some 43) (.pointer (some ⟨wr.heap.size, 0, none⟩)) rfl rfl (by kernel_rfl) (by kernel_rfl) (by kernel_rfl) (fun _ _ _ h => h) (by first | rfl | kernel_rfl) (fun w => by first | rfl | go_simp) ?_
            simp only [Act.put, List.setIfInBounds_toArray, List.set_cons_zero, List.set_cons_succ]
            refine any_one 1 (by kernel_rfl) rfl rfl (fun Kk hK => wp_runs (some 44) rfl (ex_load 9 (.tmp 43) rfl _ _ rfl (ld_str y.drew wr.heap.size b.name (K.x0 _ hbd))) (hK _ _ ?_))
            simp only [Act.put, List.setIfInBounds_toArray, List.set_cons_zero, List.set_cons_succ]
            refine any_one 2 (by kernel_rfl) rfl rfl (fun Kk hK => wp_calls 15 _ (some 45) rfl (ex_call1 15 (.tmp 44) _ rfl _ rfl (fun _ _ => rfl)) _ (K.rb _ hbd) (fun v w2 hR => hK _ _ ?_) (fun c w2 hR => (by cases hR.1)) (fun w2 hR => (by cases hR.1)))
            obtain ⟨e, hB2⟩ := hR
            injection e with e
            subst e
            simp only [Act.put, List.setIfInBounds_toArray, List.set_cons_zero, List.set_cons_succ]
            refine any_take 3 (some 46) (.bool false) rfl rfl (by kernel_rfl) (by kernel_rfl) (by kernel_rfl) (fun _ _ _ h => h) (by first | rfl | kernel_rfl) (fun w => by first | rfl | go_simp) ?_
            simp only [Act.put, List.setIfInBounds_toArray, List.set_cons_zero, List.set_cons_succ]
            refine any_take 4 (some 47) (.bool false) rfl rfl (by kernel_rfl) (by kernel_rfl) (by kernel_rfl) (fun _ _ _ h => h) (by first | rfl | kernel_rfl) (fun w => by first | rfl | go_simp) ?_
            simp only [Act.put, List.setIfInBounds_toArray, List.set_cons_zero, List.set_cons_succ]
            refine any_take 5 (some 48) (.int .i64 ((0 : Nat) : Int)) rfl rfl (by kernel_rfl) (by kernel_rfl) (by kernel_rfl) (fun _ _ _ h => h) (by first | rfl | kernel_rfl) (fun w => by first | rfl | go_simp) ?_
            simp only [Act.put, List.setIfInBounds_toArray, List.set_cons_zero, List.set_cons_succ]
            refine any_take 6 (some 49) (.bool false) rfl rfl (by kernel_rfl) (by kernel_rfl) (by kernel_rfl) (fun _ _ _ h => h) (by first | rfl | kernel_rfl) (fun w => by first | rfl | go_simp) ?_
            simp only [Act.put, List.setIfInBounds_toArray, List.set_cons_zero, List.set_cons_succ]
            refine any_take 7 (some 50) (.bool false) rfl rfl (by kernel_rfl) (by kernel_rfl) (by kernel_rfl) (fun _ _ _ h => h) (by first | rfl | kernel_rfl) (fun w => by first | rfl | go_simp) ?_
            simp only [Act.put, List.setIfInBounds_toArray, List.set_cons_zero, List.set_cons_succ]
            refine any_skip 8 (some 51) rfl rfl (by kernel_rfl) (by kernel_rfl) (by kernel_rfl) (fun _ _ _ h => h) (by first | rfl | kernel_rfl) ?_
            simp only [Act.put, List.setIfInBounds_toArray, List.set_cons_zero, List.set_cons_succ]
            refine any_skip 9 (some 52) rfl rfl (by kernel_rfl) (by kernel_rfl) (by kernel_rfl) (fun _ _ _ h => h) (by first | rfl | kernel_rfl) ?_
            simp only [Act.put, List.setIfInBounds_toArray, List.set_cons_zero, List.set_cons_succ]
            refine any_skip 10 (some 53) rfl rfl (by kernel_rfl) (by kernel_rfl) (by kernel_rfl) (fun _ _ _ h => h) (by first | rfl | kernel_rfl) ?_
            simp only [Act.put, List.setIfInBounds_toArray, List.set_cons_zero, List.set_cons_succ]
            refine any_skip 11 (some 54) rfl rfl (by kernel_rfl) (by kernel_rfl) (by kernel_rfl) (fun _ _ _ h => h) (by first | rfl | kernel_rfl) ?_
            simp only [Act.put, List.setIfInBounds_toArray, List.set_cons_zero, List.set_cons_succ]
            refine any_skip 12 (some 55) rfl rfl (by kernel_rfl) (by kernel_rfl) (by kernel_rfl) (fun _ _ _ h => h) (by first | rfl | kernel_rfl) ?_
            simp only [Act.put, List.setIfInBounds_toArray, List.set_cons_zero, List.set_cons_succ]
            refine any_skip 13 (some 56) rfl rfl (by kernel_rfl) (by kernel_rfl) (by kernel_rfl) (fun _ _ _ h => h) (by first | rfl | kernel_rfl) ?_
            simp only [Act.put, List.setIfInBounds_toArray, List.set_cons_zero, List.set_cons_succ]
            refine any_skip 14 (some 57) rfl rfl (by kernel_rfl) (by kernel_rfl) (by kernel_rfl) (fun _ _ _ h => h) (by first | rfl | kernel_rfl) ?_
            simp only [Act.put, List.setIfInBounds_toArray, List.set_cons_zero, List.set_cons_succ]
            refine any_skip 15 (some 58) rfl rfl (by kernel_rfl) (by kernel_rfl) (by kernel_rfl) (fun _ _ _ h => h) (by first | rfl | kernel_rfl) ?_
            simp only [Act.put, List.setIfInBounds_toArray, List.set_cons_zero, List.set_cons_succ]
            refine any_skip 16 (some 59) rfl rfl (by kernel_rfl) (by kernel_rfl) (by kernel_rfl) (fun _ _ _ h => h) (by first | rfl | kernel_rfl) ?_
            simp only [Act.put, List.setIfInBounds_toArray, List.set_cons_zero, List.set_cons_succ]
            refine any_skip 17 (some 60) rfl rfl (by kernel_rfl) (by kernel_rfl) (by kernel_rfl) (fun _ _ _ h => h) (by first | rfl | kernel_rfl) ?_
            simp only [Act.put, List.setIfInBounds_toArray, List.set_cons_zero, List.set_cons_succ]
            refine any_take 18 (some 61) (.bool false) rfl rfl (by kernel_rfl) (by kernel_rfl) (by kernel_rfl) (fun _ _ _ h => h) (by first | rfl | kernel_rfl) (fun w => by first | rfl | go_simp) ?_
            simp only [Act.put, List.setIfInBounds_toArray, List.set_cons_zero, List.set_cons_succ]
            refine any_take 19 (some 62) (.bool false) rfl rfl (by kernel_rfl) (by kernel_rfl) (by kernel_rfl) (fun _ _ _ h => h) (by first | rfl | kernel_rfl) (fun w => by first | rfl | go_simp) ?_
            simp only [Act.put, List.setIfInBounds_toArray, List.set_cons_zero, List.set_cons_succ]
            refine wpAny_done (by kernel_rfl) ?_ _
            go_wp2_with fail
            go_meet
            exact ⟨by rw [HX.out], hB2⟩
          · have HX := Lib.hid (K.xl rfl (by omega))
            have HLS := Lib.hid K.ls
            obtain ⟨k', rfl⟩ : ∃ k', k = k' + 1 := ⟨k - 1, by omega⟩
            have HE0 : Hid (∀ u, Below y.heap.size y u → u.cell? ⟨g, off + k' * 4, none⟩ = some (.string ah)) := Lib.hid (fun u hu => K.e0 (by omega) u hu)
            have hk1 : (0 : Int) < ((k' + 1 : Nat) : Int) := by omega
            have q1 : IntKind.i64.wrap (((k' + 1 : Nat) : Int) - 1) = (k' : Int) := by rw [IntWalk.i64_in _ (by omega)]; omega
            have q2 : IntKind.i64.wrap ((k' : Int) + 1 - 1) = (k' : Int) := by rw [IntWalk.i64_in _ (by omega)]; omega
            have q3 : IntKind.i64.wrap (k' : Int) = (k' : Int) := IntWalk.i64_in _ (by omega)
            have q4 : (k' : Int) < (bs.length : Int) := by omega
            have q5 : k' < bs.length := by omega
            go_region_held3 (fun u => Below y.heap.size y u ∧ u.cell? ⟨wr.heap.size, 0, none⟩ = some (.string b.name) ∧ u.cell? ⟨w.heap.size, 2, none⟩ = some (.slice (some ⟨g, off, none⟩) bs.length sc) ∧ u.cell? ⟨g, off + k' * 4, none⟩ = some (.string ah))
              (first | exact ⟨hbw, K.x0 _ hbw, K.c2 _ hbw, HE0.out _ hbw⟩ | exact ⟨hbw.drew, K.x0 _ hbw.drew, K.c2 _ hbw.drew, HE0.out _ hbw.drew⟩ | exact ⟨by assumption, K.x0 _ (by assumption), K.c2 _ (by assumption), HE0.out _ (by assumption)⟩)
              (first | (go_at_call 15; ((with_reducible refine (K.rb _ (by first | assumption | exact hbw.drew)).mono ?_); rintro e wn ⟨rfl, hBn⟩)))
            all_goals (go_wp2_with fail; go_meet; exact ⟨by rw [HX.out, HLS.out], by assumption⟩)
      obtain ⟨rfl, hb⟩ := hcut
      have HB5 := Lib.hid hb
      clear hb HBY
      cases X with
      | true =>
        have HX := Lib.hid (HXT.out rfl)
        have HF := Lib.hid (HIN.out _ (K.out _ HB5.out))
        go_wp2
        go_ret
        exact ⟨ret_int1 HX.out, HF.out⟩
      | false =>
      have HKB := Lib.hid (HXF.out rfl)
      clear HXT HXF
      have HROW5 := Lib.hid (K.row _ HB5.out)
      go_wp2_with (refine wpList_load_row rfl 52 _ rfl wr.heap.size rfl 52 _ (0, 0) _ HROW5.out Tryd.underlying52 rfl (by kernel_rfl) ?_)
      refine (K.ck _ HB5.out).mono ?_
      rintro e w6 ⟨rfl, hb⟩
      have HB6 := Lib.hid hb
      clear hb HB5 HROW5
      by_cases hck : CK = 0
      case neg =>
        have HX : Hid (CK = E) := Lib.hid (by
          have h1 := HKB.out
          rw [if_pos hck] at h1
          have h2 := HGO.out
          rw [h1, if_pos hck] at h2
          exact h2)
        have HF := Lib.hid (HIN.out _ (K.out _ HB6.out))
        have hk1 : (CK == 0) = false := by rw [beq_eq_false_iff_ne]; exact hck
        have hk2 : (CK != 0) = true := by rw [bne_iff_ne]; exact hck
        clear HKB HGO
        go_wp2
        go_ret
        exact ⟨ret_int1 HX.out, HF.out⟩
      subst hck
      have x1 := K.x1 _ HB6.out
      have c1 := K.c1 _ HB6.out
      by_cases hvv : valid < b.valid
      · have HX : Hid (2 = E) := Lib.hid (by
          have h1 := HKB.out
          rw [if_neg (by simp), if_pos hvv] at h1
          have h2 := HGO.out
          rw [h1, if_pos (by decide)] at h2
          exact h2)
        have HF := Lib.hid (HIN.out _ (K.out _ HB6.out))
        clear HKB HGO
        go_wp2
        go_ret
        exact ⟨ret_int1 HX.out, HF.out⟩
      have HG2 := Lib.hid (show _ from by
        have h1 := HKB.out
        rw [if_neg (by simp), if_neg hvv] at h1
        have h2 := HGO.out
        rw [h1, if_neg (by simp)] at h2
        exact h2)
      have x0 := K.x0 _ HB6.out
      have x3 := K.x3 _ HB6.out
      have HROW6 := Lib.hid (K.row _ HB6.out)
      have HPX : Hid (∀ p, 0 < k + 1 → bs[k + 1 - 1]? = some p → p.name = b.name) := Lib.hid (fun p _ hp => by
        rw [Nat.add_sub_cancel, HPB.out] at hp
        injection hp with hp
        rw [hp])
      clear HKB HGO HPB
      cases f with
      | true =>
        rw [Bool.true_or] at HG2
        go_wp2_with (refine wpList_load_row rfl 52 _ rfl wr.heap.size rfl 52 _ (0, 0) _ HROW6.out Tryd.underlying52 rfl (by kernel_rfl) ?_)
        refine (K.sz _ HB6.out).mono ?_
        rintro e w7 ⟨rfl, hb⟩
        have HB7 := Lib.hid (K.out _ hb)
        clear hb
        go_wp2
        go_roundw
        case rel => exact ⟨k + 1, b.name, true, _, _, by omega, by go_num, rfl, rfl, rfl, Lib.hid ⟨HG2.out, HB7.out, fun h => absurd h (by omega), HPX.out⟩⟩
        case measure => simp [intOf]; omega
      | false =>
        rw [Bool.false_or] at HG2
        cases hnm : (b.name.toList == [73, 78, 66, 79, 88]) with
        | true =>
          rw [hnm] at HG2
          go_wp2_with (refine wpList_load_row rfl 52 _ rfl wr.heap.size rfl 52 _ (0, 0) _ HROW6.out Tryd.underlying52 rfl (by kernel_rfl) ?_)
          refine (K.sz _ HB6.out).mono ?_
          rintro e w7 ⟨rfl, hb⟩
          have HB7 := Lib.hid (K.out _ hb)
          clear hb
          go_wp2
          go_roundw
          case rel => exact ⟨k + 1, b.name, true, _, _, by omega, by go_num, rfl, rfl, rfl, Lib.hid ⟨HG2.out, HB7.out, fun h => absurd h (by omega), HPX.out⟩⟩
          case measure => simp [intOf]; omega
        | false =>
          rw [hnm] at HG2
          go_wp2_with (refine wpList_load_row rfl 52 _ rfl wr.heap.size rfl 52 _ (0, 0) _ HROW6.out Tryd.underlying52 rfl (by kernel_rfl) ?_)
          refine (K.sz _ HB6.out).mono ?_
          rintro e w7 ⟨rfl, hb⟩
          have HB7 := Lib.hid (K.out _ hb)
          clear hb
          go_wp2
          go_roundw
          case rel => exact ⟨k + 1, b.name, false, _, _, by omega, by go_num, rfl, rfl, rfl, Lib.hid ⟨HG2.out, HB7.out, fun h => absurd h (by omega), HPX.out⟩⟩
          case measure => simp [intOf]; omega
    · have hlt' : ¬ (k : Int) < (bs.length : Int) := by omega
      rw [List.drop_of_length_le (by rw [List.length_map]; omega), ckBxs] at hgo
      have HF := Lib.hid (HIN.out _ hb)
      clear hb hah0 hah1 hH
      cases f with
      | false =>
        have HX : Hid (4 = E) := Lib.hid (by rw [← hgo, if_pos rfl])
        clear hgo
        go_wp2
        go_ret
        exact ⟨ret_int1 HX.out, HF.out⟩
      | true =>
        rw [if_neg (by simp)] at hgo
        by_cases h40 : 40 < n
        · have HX : Hid (8 = E) := Lib.hid (by rw [← hgo, if_pos h40])
          clear hgo
          go_wp2
          go_ret
          exact ⟨ret_int1 HX.out, HF.out⟩
        rw [if_neg h40] at hgo
        by_cases h12 : 1200 < z
        · have HX : Hid (8 = E) := Lib.hid (by rw [← hgo, if_pos h12])
          clear hgo
          go_wp2
          go_ret
          exact ⟨ret_int1 HX.out, HF.out⟩
        · have HX : Hid (0 = E) := Lib.hid (by rw [← hgo, if_neg h12])
          clear hgo
          go_wp2
          go_ret
          exact ⟨ret_int1 HX.out, HF.out⟩
end Go.Proofs.YtjljbnilckkjnaaDoor
