/- Deed: DeedUsers: what both sides tell, in one form. -/
import Derived.Test.YtjljbnilckkjnaaDoorGR8
import Derived.Test.YtjljbnilckkjnaaDoorGR5
import Derived.Test.YtjljbnilckkjnaaDoorGR2
import Derived.Test.YtjljbnilckkjnaaDoorGM3
namespace Go.Proofs.YtjljbnilckkjnaaDoor
open Go Go.RowKit

/-- A user's bytes, or none. -/
def putUL (U : UsD) : List UInt8 := if ckUser U = 0 then userL U else []
theorem byz_none (w : World) : Byz w (.slice none 0 0) [] := ⟨⟨none, 0, rfl⟩, fun h => absurd rfl h⟩
/-- PutUser, in one form. -/
def PutUX (U : UsD) (w : World) (e : Ending) (w' : World) : Prop := ∃ v, e = .returned (.tuple #[v, .int .i64 (ckUser U)]) ∧ Byz w' v (putUL U) ∧ Below w.heap.size w w'
theorem put_one {U : UsD} {w w' : World} {e : Ending} (h : PutUR U w e w') : PutUX U w e w' := by
  obtain ⟨hb, ⟨hk, rfl⟩ | ⟨hk, v, rfl, hr⟩⟩ := h
  · refine ⟨_, rfl, ?_, hb⟩
    unfold putUL
    rw [if_neg hk]
    exact byz_none _
  · refine ⟨v, by rw [hk], ?_, hb⟩
    unfold putUL
    rw [if_pos hk]
    exact hr.1.z
theorem putUL_len (U : UsD) : (putUL U).length ≤ 1700 := by
  unfold putUL
  by_cases h : ckUser U = 0
  · rw [if_pos h]; exact userL_1700 h
  · rw [if_neg h]; exact Nat.zero_le _
/-- The user that bytes tell; else none. -/
def usT (l : List UInt8) : UsD := match takeU l with
  | .ok u => if takeUE l = 0 then u else ⟨⟨#[]⟩, 0, []⟩
  | .error _ => ⟨⟨#[]⟩, 0, []⟩
theorem takeUE_error {l : List UInt8} {k : Int} (h : takeU l = .error k) : takeUE l ≠ 0 := by
  rw [takeUE_err h]
  rcases takeU_err h with rfl | rfl <;> decide
theorem usT_no {l : List UInt8} (h : takeUE l ≠ 0) : usT l = ⟨⟨#[]⟩, 0, []⟩ := by
  unfold usT
  cases ht : takeU l with
  | error k => rfl
  | ok u => simp only [if_neg h]
theorem usT_yes {l : List UInt8} {u : UsD} (h : takeUE l = 0) (ht : takeU l = .ok u) : usT l = u := by
  unfold usT
  rw [ht]
  simp only [if_pos h]
/-- TakeUser, in one form. -/
def TakeUX (l : List UInt8) (w : World) (e : Ending) (w' : World) : Prop := ∃ sv bs, e = .returned (.tuple #[.agg #[.string (usT l).name, .int .i64 (usT l).valid, sv], .int .i64 (takeUE l)]) ∧ Boxes w' sv bs ∧ bs.map Bx.dat = (usT l).bs ∧ bs.length ≤ 255 ∧ Below w.heap.size w w'
theorem take_one {l : List UInt8} {w w' : World} {e : Ending} (h : TakeUR l w e w') : TakeUX l w e w' := by
  obtain ⟨hb, ⟨hk, rfl⟩ | ⟨hk, u, bs, lv, ht, hm, hbs, rfl⟩⟩ := h
  · refine ⟨_, [], by rw [usT_no hk], boxes_nil _, by rw [usT_no hk]; rfl, Nat.zero_le _, hb⟩
  · have hu := usT_yes hk ht
    obtain ⟨f1, f2, f3⟩ := takeU_fit ht
    refine ⟨lv, bs, by rw [hu, hk], hbs.boxes (fun b hb => ?_), by rw [hu]; exact hm, ?_, hb⟩
    · have h5 : b.dat ∈ bs.map Bx.dat := List.mem_map_of_mem hb
      rw [hm] at h5
      have h6 := f3 _ h5
      have h7 : b.dat.ls.length = b.ls.length := by simp [Bx.dat]
      omega
    · have h8 : (bs.map Bx.dat).length = bs.length := List.length_map ..
      rw [hm] at h8
      omega

theorem below_b {N : Nat} {w w1 : World} {v : Value} {l : List UInt8} (h : Byz w v l) (hb : Below N w w1) (hN : w.heap.size ≤ N) : Byz w1 v l := h.below (hb.mono hN)
set_option maxHeartbeats 8000000 in
set_option maxRecDepth 100000 in
theorem walk_users (name : ByteArray) (valid : Int) (sv bv : Value) (bs : List Bx) (l : List UInt8) (w : World) (hd : Boxes w sv bs) (hlen : bs.length ≤ 4294967295) (hs : name.size ≤ 9223372036854775807) (hbn : ∀ b ∈ bs, b.name.size ≤ 4398046511104) (hb : Byz w bv l) (hl : l.length ≤ 9223372036854775807) (hT : Tabs w) :
    Calls Tryd.prog 8 #[.agg #[.string name, .int .i64 valid, sv], bv] w fun e w' => e = .returned (.bool true) ∧ Below w.heap.size w w' := by
  obtain ⟨sa, sc, rfl⟩ := hd.shape
  obtain ⟨ba, bc, rfl⟩ := hb.1
  obtain ⟨w0, hw0⟩ : ∃ w0, w0 = w.alloc (.cells #[.string name, .int .i64 valid, .slice sa bs.length sc] 43) := ⟨_, rfl⟩
  have hb0 : Below w.heap.size w w0 := by rw [hw0]; exact (Below.refl _ w).alloc (Nat.le_refl _) _
  have hrow : w0.heap[w.heap.size]? = some (.cells #[.string name, .int .i64 valid, .slice sa bs.length sc] 43 (0, 0)) := by rw [hw0]; exact heap_alloc_new w _
  have hNlt := (Array.getElem?_eq_some_iff.1 hrow).1
  have KT : ∀ u, Below w0.heap.size w0 u → Tabs u := fun u hu => (hT.below hb0 (Nat.le_refl _)).below hu (Nat.le_refl _)
  have KD : ∀ u, Below w0.heap.size w0 u → Boxes u (.slice sa bs.length sc) bs := fun u hu => (hd.below hb0).below hu
  have KB : ∀ u, Below w0.heap.size w0 u → Byz u (.slice ba l.length bc) l := fun u hu => (hb.below hb0).below hu
  have HC : Hid (∀ u, Below w0.heap.size w0 u → u.cell? ⟨w.heap.size, 0, none⟩ = some (.string name) ∧ u.cell? ⟨w.heap.size, 1, none⟩ = some (.int .i64 valid) ∧ u.cell? ⟨w.heap.size, 2, none⟩ = some (.slice sa bs.length sc)) := Lib.hid (fun u hu => by
    have h := below_row hrow hu hNlt
    exact ⟨cell_of_row _ _ _ _ _ _ h, cell_of_row _ _ _ _ _ _ h, cell_of_row _ _ _ _ _ _ h⟩)
  have HFIN : Hid (∀ u, Below w0.heap.size w0 u → Below w.heap.size w u) := Lib.hid (fun u hu => hb0.trans (hu.mono hb0.size))
  obtain ⟨U, hU⟩ : ∃ U : UsD, (⟨name, valid, bs.map Bx.dat⟩ : UsD) = U := ⟨_, rfl⟩
  have HP1 : Hid (∀ u, Below w0.heap.size w0 u → Calls Tryd.prog 25 #[.agg #[.string name, .int .i64 valid, .slice sa bs.length sc]] u (PutUX U u)) := Lib.hid (fun u hu => by
    have := putUser_any name valid _ bs u (KD u hu) hlen hs (KT u hu)
    rw [hU] at this
    exact this.mono fun _ _ h => put_one h)
  have HP2 : Hid (∀ u, Below w0.heap.size w0 u → Calls Tryd.prog 26 #[.agg #[.string name, .int .i64 valid, .slice sa bs.length sc]] u (PutUX U u)) := Lib.hid (fun u hu => by
    have := refPutUser name valid _ bs u (KD u hu) hlen hs hbn (KT u hu)
    rw [hU] at this
    exact this.mono fun _ _ h => put_one h)
  have HK1 : Hid (∀ u, Below w0.heap.size w0 u → Calls Tryd.prog 29 #[.agg #[.string name, .int .i64 valid, .slice sa bs.length sc]] u fun e w' => e = .returned (.int .i64 (ckUser U)) ∧ Below u.heap.size u w') := Lib.hid (fun u hu => by
    have := checkUser_any name valid _ bs u (KD u hu) hlen hs (KT u hu)
    rwa [hU] at this)
  have HK2 : Hid (∀ u, Below w0.heap.size w0 u → Calls Tryd.prog 30 #[.agg #[.string name, .int .i64 valid, .slice sa bs.length sc]] u fun e w' => e = .returned (.int .i64 (ckUser U)) ∧ Below u.heap.size u w') := Lib.hid (fun u hu => by
    have := refCheckUser name valid _ bs u (KD u hu) hlen hs hbn (KT u hu)
    rwa [hU] at this)
  have HT1 : Hid (∀ u, Below w0.heap.size w0 u → Calls Tryd.prog 27 #[.slice ba l.length bc] u (TakeUX l u)) := Lib.hid (fun u hu => (takeUser_any u _ l (KB u hu) hl (KT u hu)).mono fun _ _ h => take_one h)
  have HT2 : Hid (∀ u, Below w0.heap.size w0 u → Calls Tryd.prog 28 #[.slice ba l.length bc] u (TakeUX l u)) := Lib.hid (fun u hu => (refTakeUser u _ l (KB u hu) hl (KT u hu)).mono fun _ _ h => take_one h)
  have HLV : Hid (∀ u, Below w0.heap.size w0 u → Calls Tryd.prog 11 #[] u fun e w' => e = .returned (.bool true) ∧ Below u.heap.size u w') := Lib.hid (fun u hu => live_any u (KT u hu))
  have HW0 := Lib.hid (show w.alloc (.cells #[.string name, .int .i64 valid, .slice sa bs.length sc] 43) = w0 from hw0.symm)
  have HPL := Lib.hid (putUL_len U)
  obtain ⟨k0, k1, k2⟩ := HC.out w0 (Below.refl _ _)
  obtain ⟨L, hL⟩ : ∃ L, putUL U = L := ⟨_, rfl⟩
  obtain ⟨K, hK⟩ : ∃ K, ckUser U = K := ⟨_, rfl⟩
  obtain ⟨T, hTT⟩ : ∃ T, usT l = T := ⟨_, rfl⟩
  obtain ⟨E, hE⟩ : ∃ E, takeUE l = E := ⟨_, rfl⟩
  unfold PutUX TakeUX at *
  rw [hK, hL] at HP1 HP2
  rw [hK] at HK1 HK2
  rw [hTT, hE] at HT1 HT2
  rw [hL] at HPL
  clear hd hb hT hl hlen hs hb0 hrow hNlt KT KD KB hw0 hU hbn hL hK hTT hE
  go_enter Tryd.func8, Tryd.ntmps8
  go_wp2_with (first | rw [HW0.out])
  refine (HP1.out _ (Below.refl _ _)).mono ?_
  rintro e w1 ⟨v1, rfl, hz1, hb1⟩
  obtain ⟨ca, cc, rfl⟩ := hz1.1
  have HZ1 := Lib.hid hz1
  have HB1 := Lib.hid hb1
  clear k0 k1 k2 HW0 hz1 hb1 HP1
  obtain ⟨k0, k1, k2⟩ := HC.out w1 HB1.out
  go_wp2_with fail
  refine (HP2.out _ HB1.out).mono ?_
  rintro e w2 ⟨v2, rfl, hz2, hb2⟩
  obtain ⟨da, dc, rfl⟩ := hz2.1
  have HZ2 := Lib.hid hz2
  have HB2 := Lib.hid (HB1.out.trans (hb2.mono HB1.out.size))
  have HZ1' := Lib.hid (HZ1.out.below hb2)
  clear k0 k1 k2 hz2 hb2 HP2 HZ1 HB1
  go_wp2_with fail
  refine (HT1.out _ HB2.out).mono ?_
  rintro e w3 ⟨xv, xs, rfl, hx, hxm, hxl, hb3⟩
  obtain ⟨xa, xc, rfl⟩ := hx.shape
  obtain ⟨w4, hw4⟩ : ∃ w4, w4 = w3.alloc (.cells #[.string T.name, .int .i64 T.valid, .slice xa xs.length xc] 43) := ⟨_, rfl⟩
  have hb4 : Below w3.heap.size w3 w4 := by rw [hw4]; exact (Below.refl _ w3).alloc (Nat.le_refl _) _
  have hrow4 : w4.heap[w3.heap.size]? = some (.cells #[.string T.name, .int .i64 T.valid, .slice xa xs.length xc] 43 (0, 0)) := by rw [hw4]; exact heap_alloc_new w3 _
  have HROW4 := Lib.hid hrow4
  have HW4 := Lib.hid (show w3.alloc (.cells #[.string T.name, .int .i64 T.valid, .slice xa xs.length xc] 43) = w4 from hw4.symm)
  have hb24 := hb3.trans (hb4.mono hb3.size)
  have HB4 := Lib.hid (HB2.out.trans (hb24.mono HB2.out.size))
  have HZ1 := Lib.hid (HZ1'.out.below hb24)
  have HZ2' := Lib.hid (HZ2.out.below hb24)
  have HX := Lib.hid (hx.below hb4)
  have HXM := Lib.hid hxm
  clear hx hxm hb3 hw4 hb4 hrow4 hb24 HT1 HB2 HZ1' HZ2
  go_wp2_with (first | rw [HW4.out])
  refine (HT2.out _ HB4.out).mono ?_
  rintro e w5 ⟨yv, ys, rfl, hy, hym, hyl, hb5⟩
  obtain ⟨ya, yc, rfl⟩ := hy.shape
  obtain ⟨w6, hw6⟩ : ∃ w6, w6 = w5.alloc (.cells #[.string T.name, .int .i64 T.valid, .slice ya ys.length yc] 43) := ⟨_, rfl⟩
  have hb6 : Below w5.heap.size w5 w6 := by rw [hw6]; exact (Below.refl _ w5).alloc (Nat.le_refl _) _
  have hrow6 : w6.heap[w5.heap.size]? = some (.cells #[.string T.name, .int .i64 T.valid, .slice ya ys.length yc] 43 (0, 0)) := by rw [hw6]; exact heap_alloc_new w5 _
  have HW6 := Lib.hid (show w5.alloc (.cells #[.string T.name, .int .i64 T.valid, .slice ya ys.length yc] 43) = w6 from hw6.symm)
  have hb46 := hb5.trans (hb6.mono hb5.size)
  have hB6 := HB4.out.trans (hb46.mono HB4.out.size)
  have h34 : w3.heap.size < w4.heap.size := (Array.getElem?_eq_some_iff.1 HROW4.out).1
  have h56 : w5.heap.size < w6.heap.size := (Array.getElem?_eq_some_iff.1 hrow6).1
  have KX := HX.out.below hb46
  have KY := hy.below hb6
  have KZ1 := HZ1.out.below hb46
  have KZ2 := HZ2'.out.below hb46
  have hrowx := below_row HROW4.out hb46 h34
  have hB0 : ∀ u, Below w6.heap.size w6 u → Below w0.heap.size w0 u := fun u hu => hB6.trans (hu.mono hB6.size)
  have HALL : Hid (∀ u, Below w6.heap.size w6 u → (u.cell? ⟨w.heap.size, 0, none⟩ = some (.string name) ∧ u.cell? ⟨w.heap.size, 1, none⟩ = some (.int .i64 valid) ∧ u.cell? ⟨w.heap.size, 2, none⟩ = some (.slice sa bs.length sc)) ∧ (u.cell? ⟨w3.heap.size, 0, none⟩ = some (.string T.name) ∧ u.cell? ⟨w3.heap.size, 1, none⟩ = some (.int .i64 T.valid) ∧ u.cell? ⟨w3.heap.size, 2, none⟩ = some (.slice xa xs.length xc)) ∧ (u.cell? ⟨w5.heap.size, 0, none⟩ = some (.string T.name) ∧ u.cell? ⟨w5.heap.size, 1, none⟩ = some (.int .i64 T.valid) ∧ u.cell? ⟨w5.heap.size, 2, none⟩ = some (.slice ya ys.length yc)) ∧ (convert 26 9 (.slice ca L.length cc)).run Tryd.prog u = .ok (.string ⟨L.toArray⟩) u ∧ (convert 26 9 (.slice da L.length dc)).run Tryd.prog u = .ok (.string ⟨L.toArray⟩) u) := Lib.hid (fun u hu => by
    have hx := below_row hrowx hu (by have := hb46.size; omega)
    have hy := below_row hrow6 hu h56
    exact ⟨HC.out u (hB0 u hu), ⟨cell_of_row _ _ _ _ _ _ hx, cell_of_row _ _ _ _ _ _ hx, cell_of_row _ _ _ _ _ _ hx⟩, ⟨cell_of_row _ _ _ _ _ _ hy, cell_of_row _ _ _ _ _ _ hy, cell_of_row _ _ _ _ _ _ hy⟩, run_byz_string u _ _ 5 Tryd.underlying26 Tryd.underlying5 Tryd.underlying9 (KZ1.below hu), run_byz_string u _ _ 5 Tryd.underlying26 Tryd.underlying5 Tryd.underlying9 (KZ2.below hu)⟩)
  have H1 : Hid (∀ u, Below w6.heap.size w6 u → Calls Tryd.prog 29 #[.agg #[.string name, .int .i64 valid, .slice sa bs.length sc]] u fun e w' => e = .returned (.int .i64 K) ∧ Below w6.heap.size w6 w') := Lib.hid (fun u hu => bel_bring hu (HK1.out u (hB0 u hu)))
  have H2 : Hid (∀ u, Below w6.heap.size w6 u → Calls Tryd.prog 30 #[.agg #[.string name, .int .i64 valid, .slice sa bs.length sc]] u fun e w' => e = .returned (.int .i64 K) ∧ Below w6.heap.size w6 w') := Lib.hid (fun u hu => bel_bring hu (HK2.out u (hB0 u hu)))
  have H3 : Hid (∀ u, Below w6.heap.size w6 u → Calls Tryd.prog 11 #[] u fun e w' => e = .returned (.bool true) ∧ Below w6.heap.size w6 w') := Lib.hid (fun u hu => bel_bring hu (HLV.out u (hB0 u hu)))
  have H4 : Hid (∀ u, Below w6.heap.size w6 u → Calls Tryd.prog 31 #[.agg #[.string T.name, .int .i64 T.valid, .slice xa xs.length xc], .agg #[.string T.name, .int .i64 T.valid, .slice ya ys.length yc]] u fun e w' => e = .returned (.bool true) ∧ Below w6.heap.size w6 w') := Lib.hid (fun u hu => bel_bring hu (sameUser_yes T.name T.valid _ _ xs ys u (KX.below hu) (KY.below hu) (by rw [HXM.out, hym]) (by omega)))
  have HF : Hid (∀ u, Below w6.heap.size w6 u → Below w.heap.size w u) := Lib.hid (fun u hu => HFIN.out u (hB0 u hu))
  have hbw := Below.refl w6.heap.size w6
  clear hy hym hyl hxl hb5 hw6 hb6 hrow6 hb46 hB6 h34 h56 KX KY KZ1 KZ2 hrowx hB0 HT2 HB4 HZ1 HZ2' HX HXM HROW4 HW4 HC HFIN HK1 HK2 HLV HPL
  generalize w3.heap.size = X at *
  go_wp2_with (first | rw [HW6.out])
  clear HW6
  generalize w5.heap.size = Y at *
  go_region_held3 (fun u => Below w6.heap.size w6 u ∧ (u.cell? ⟨w.heap.size, 0, none⟩ = some (.string name) ∧ u.cell? ⟨w.heap.size, 1, none⟩ = some (.int .i64 valid) ∧ u.cell? ⟨w.heap.size, 2, none⟩ = some (.slice sa bs.length sc)) ∧ (u.cell? ⟨X, 0, none⟩ = some (.string T.name) ∧ u.cell? ⟨X, 1, none⟩ = some (.int .i64 T.valid) ∧ u.cell? ⟨X, 2, none⟩ = some (.slice xa xs.length xc)) ∧ (u.cell? ⟨Y, 0, none⟩ = some (.string T.name) ∧ u.cell? ⟨Y, 1, none⟩ = some (.int .i64 T.valid) ∧ u.cell? ⟨Y, 2, none⟩ = some (.slice ya ys.length yc)) ∧ (convert 26 9 (.slice ca L.length cc)).run Tryd.prog u = .ok (.string ⟨L.toArray⟩) u ∧ (convert 26 9 (.slice da L.length dc)).run Tryd.prog u = .ok (.string ⟨L.toArray⟩) u) (first | exact ⟨hbw, HALL.out _ hbw⟩ | exact ⟨hbw.drew, HALL.out _ hbw.drew⟩ | exact ⟨by assumption, HALL.out _ (by assumption)⟩)
    (first
      | (go_at_call 11; ((with_reducible refine (H3.out _ (by first | assumption | exact hbw.drew)).mono ?_); rintro e wn ⟨rfl, hBn⟩))
      | (go_at_call 29; ((with_reducible refine (H1.out _ (by first | assumption | exact hbw.drew)).mono ?_); rintro e wn ⟨rfl, hBn⟩))
      | (go_at_call 30; ((with_reducible refine (H2.out _ (by first | assumption | exact hbw.drew)).mono ?_); rintro e wn ⟨rfl, hBn⟩))
      | (go_at_call 31; ((with_reducible refine (H4.out _ (by first | assumption | exact hbw.drew)).mono ?_); rintro e wn ⟨rfl, hBn⟩)))
  all_goals
    have HZ := Lib.hid (HF.out _ (by assumption))
    go_wp2
    go_ret
    exact ⟨ret_bool (by simp), HZ.out⟩
end Go.Proofs.YtjljbnilckkjnaaDoor
