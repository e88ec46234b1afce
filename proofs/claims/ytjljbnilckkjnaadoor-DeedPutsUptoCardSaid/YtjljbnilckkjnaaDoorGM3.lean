/- Deed: DeedUserBack. -/
import Derived.Test.YtjljbnilckkjnaaDoorG31
import Derived.Test.YtjljbnilckkjnaaDoorGM2
namespace Go.Proofs.YtjljbnilckkjnaaDoor
open Go Go.RowKit

theorem loop_len (bs : ByteArray) (i : Nat) (r : List UInt8) : (ByteArray.toList.loop bs i r).length = r.length + (bs.size - i) := by
  unfold ByteArray.toList.loop
  split
  · rw [loop_len bs (i + 1)]
    simp only [List.length_cons]
    omega
  · rw [List.length_reverse]
    omega
  termination_by bs.size - i
theorem tl_len (bs : ByteArray) : bs.toList.length = bs.size := by
  unfold ByteArray.toList
  rw [loop_len]
  simp
theorem user_small {u : UsD} (h : ckUser u = 0) : u.Small := by
  obtain ⟨h1, h2, h3, h4⟩ := ckUser_fit h
  refine ⟨by omega, by omega, by omega, fun b hb => ?_⟩
  obtain ⟨g1, g2, g3, g4, g5⟩ := h4 b hb
  exact ⟨by omega, by omega, by omega, by omega, fun x hx => by obtain ⟨e1, e2, e3⟩ := g5 x hx; exact ⟨⟨e1, by omega⟩, by omega⟩⟩
theorem user_take {u : UsD} (h : ckUser u = 0) : takeU (userL u) = .ok u ∧ takeUE (userL u) = 0 := by
  have e := takeU_lay u (user_small h)
  exact ⟨e, by rw [takeUE_ok e]; exact h⟩
theorem take_user {l : List UInt8} {u : UsD} (h : takeUE l = 0) (hu : takeU l = .ok u) : ckUser u = 0 ∧ userL u = l := by
  have := takeUE_ok hu
  rw [h] at this
  exact ⟨this.symm, (takeU_back hu).1.symm⟩
def sumB (ls : List Letr) : Nat := (ls.map (·.bytes.length)).sum
theorem szF_sum : ∀ (ls : List Letr) (n : Nat), n + sumB ls ≤ 4000000000000 → szF (n : Int) ls = ((n + sumB ls : Nat) : Int)
  | [], n, _ => by simp [szF, sumB]
  | x :: t, n, h => by
    have e : sumB (x :: t) = x.bytes.length + sumB t := by simp [sumB]
    rw [e] at h ⊢
    have e2 : szF (n : Int) (x :: t) = szF (wrap64 ((n : Int) + (x.bytes.length : Int))) t := rfl
    rw [e2, IntWalk.wrap64_in _ (by omega), ← Int.natCast_add, szF_sum t (n + x.bytes.length) (by omega)]
    congr 1
    omega
theorem sumB_le : ∀ (ls : List Letr), (∀ x ∈ ls, x.bytes.length ≤ 600) → sumB ls ≤ ls.length * 600
  | [], _ => by simp [sumB]
  | x :: t, h => by
    have e : sumB (x :: t) = x.bytes.length + sumB t := by simp [sumB]
    have h1 := h x (List.mem_cons_self ..)
    have h2 := sumB_le t (fun y hy => h y (List.mem_cons_of_mem _ hy))
    rw [e, List.length_cons, Nat.add_mul]
    omega
/-- How many letters there are, and how many bytes they have. -/
def sumN (bs : List BxD) : Nat := (bs.map (·.ls.length)).sum
def sumZ (bs : List BxD) : Nat := (bs.map (sumB ·.ls)).sum
def sumM (bs : List BxD) : Nat := (bs.map (·.name.size)).sum
theorem ckBxs_sum (top : Int) : ∀ (bs : List BxD) (ah : ByteArray) (f : Bool) (n z : Nat), n + bs.length * 32 ≤ 100000 → z + bs.length * 20000 ≤ 10000000 → ckBxs top bs ah f (n : Int) (z : Int) = 0 →
    (f = true ∨ ∃ b ∈ bs, (b.name.toList == [73, 78, 66, 79, 88]) = true) ∧ n + sumN bs ≤ 40 ∧ z + sumZ bs ≤ 1200
  | [], ah, f, n, z, _, _, h => by
    unfold ckBxs at h
    cases f with
    | false => rw [if_pos rfl] at h; omega
    | true =>
      rw [if_neg (by simp)] at h
      by_cases h1 : (40 : Int) < (n : Int)
      · rw [if_pos h1] at h; omega
      rw [if_neg h1] at h
      by_cases h2 : (1200 : Int) < (z : Int)
      · rw [if_pos h2] at h; omega
      exact ⟨Or.inl rfl, by simp [sumN]; omega, by simp [sumZ]; omega⟩
  | b :: t, ah, f, n, z, hn, hz, h => by
    unfold ckBxs at h
    by_cases hk : ckBox b.name b.valid b.next b.ls ah top ≠ 0
    · rw [if_pos hk] at h; exact absurd h hk
    rw [if_neg hk] at h
    obtain ⟨_, _, _, g4, g5⟩ := ckBox_fit (Decidable.not_not.1 hk)
    dsimp only at g4 g5
    have hs := sumB_le b.ls (fun x hx => (g5 x hx).2.2)
    rw [List.length_cons, Nat.add_mul] at hn hz
    have hsz := szF_sum b.ls 0 (by omega)
    rw [Int.natCast_zero, Nat.zero_add] at hsz
    rw [hsz, IntWalk.wrap64_in _ (by omega), IntWalk.wrap64_in _ (by omega), ← Int.natCast_add, ← Int.natCast_add] at h
    obtain ⟨r1, r2, r3⟩ := ckBxs_sum top t _ _ _ _ (by omega) (by omega) h
    have e1 : sumN (b :: t) = b.ls.length + sumN t := by simp [sumN]
    have e2 : sumZ (b :: t) = sumB b.ls + sumZ t := by simp [sumZ]
    refine ⟨?_, by rw [e1]; omega, by rw [e2]; omega⟩
    rcases r1 with r1 | ⟨x, hx, hx2⟩
    · cases f with
      | true => exact Or.inl rfl
      | false => rw [Bool.false_or] at r1; exact Or.inr ⟨b, List.mem_cons_self .., r1⟩
    · exact Or.inr ⟨x, List.mem_cons_of_mem _ hx, hx2⟩
theorem lets_len : ∀ ls : List Letr, (ls.flatMap letL).length = ls.length * 7 + sumB ls
  | [] => by simp [sumB]
  | x :: t => by
    have e : sumB (x :: t) = x.bytes.length + sumB t := by simp [sumB]
    rw [List.flatMap_cons, List.length_append, lets_len t, List.length_cons, e, Nat.add_mul]
    unfold letL
    simp only [List.length_append, numL_len, bodyL_len]
    omega
theorem boxes_len : ∀ bs : List BxD, (bs.flatMap bxL).length = bs.length * 10 + sumM bs + sumN bs * 7 + sumZ bs
  | [] => by simp [sumM, sumN, sumZ]
  | b :: t => by
    have e1 : sumN (b :: t) = b.ls.length + sumN t := by simp [sumN]
    have e2 : sumZ (b :: t) = sumB b.ls + sumZ t := by simp [sumZ]
    have e3 : sumM (b :: t) = b.name.size + sumM t := by simp [sumM]
    rw [List.flatMap_cons, List.length_append, boxes_len t, List.length_cons, e1, e2, e3, Nat.add_mul, Nat.add_mul]
    unfold bxL boxL
    simp only [List.length_append, numL_len, textL_len, lets_len]
    omega
theorem sumM_le : ∀ bs : List BxD, (∀ b ∈ bs, b.name.size ≤ 24) → sumM bs ≤ bs.length * 24
  | [], _ => by simp [sumM]
  | b :: t, h => by
    have e3 : sumM (b :: t) = b.name.size + sumM t := by simp [sumM]
    have h1 := h b (List.mem_cons_self ..)
    have h2 := sumM_le t (fun y hy => h y (List.mem_cons_of_mem _ hy))
    rw [e3, List.length_cons, Nat.add_mul]
    omega
theorem sumM_in : ∀ bs : List BxD, (∀ b ∈ bs, b.name.size ≤ 24) → (∃ b ∈ bs, (b.name.toList == [73, 78, 66, 79, 88]) = true) → sumM bs + 19 ≤ bs.length * 24
  | [], _, ⟨b, hb, _⟩ => by cases hb
  | b :: t, h, ⟨x, hx, hx2⟩ => by
    have e3 : sumM (b :: t) = b.name.size + sumM t := by simp [sumM]
    have h1 := h b (List.mem_cons_self ..)
    have h2 : ∀ y ∈ t, y.name.size ≤ 24 := fun y hy => h y (List.mem_cons_of_mem _ hy)
    rw [e3, List.length_cons, Nat.add_mul]
    rcases List.mem_cons.1 hx with rfl | hx
    · have h3 := sumM_le t h2
      have h4 : x.name.toList = [73, 78, 66, 79, 88] := by simpa using hx2
      have h5 : x.name.size = 5 := by
        have h6 : x.name.toList.length = 5 := by rw [h4]; rfl
        rw [← h6, tl_len]
      omega
    · have h3 := sumM_in t h2 ⟨x, hx, hx2⟩
      omega
theorem userL_1700 {u : UsD} (h : ckUser u = 0) : (userL u).length ≤ 1700 := by
  obtain ⟨h1, h2, h3, h4⟩ := ckUser_fit h
  unfold ckUser at h
  by_cases hr : rightU u.name = false
  · rw [if_pos hr] at h; omega
  rw [if_neg hr, if_neg (by omega), if_neg (by omega), if_neg (by omega), if_neg (by omega)] at h
  obtain ⟨r1, r2, r3⟩ := ckBxs_sum u.valid u.bs ⟨#[]⟩ false 0 0 (by omega) (by omega) h
  rcases r1 with r1 | r1
  · cases r1
  have h5 := sumM_in u.bs (fun b hb => (h4 b hb).name) r1
  unfold userL
  simp only [List.length_append, numL_len, textL_len, boxes_len]
  omega
theorem boxes_nil (w : World) : Boxes w (.slice none 0 0) [] := ⟨⟨none, 0, rfl⟩, fun h => absurd rfl h, fun p hp => by cases hp⟩
theorem zero_user : ckUser ⟨⟨#[]⟩, 0, ([] : List Bx).map Bx.dat⟩ = 4 := by kernel_rfl

set_option maxHeartbeats 8000000 in
set_option maxRecDepth 100000 in
theorem walk_userback (name : ByteArray) (valid : Int) (sv bv : Value) (bs : List Bx) (l : List UInt8) (w : World) (hd : Boxes w sv bs) (hlen : bs.length ≤ 4294967295) (hs : name.size ≤ 9223372036854775807) (hb : Byz w bv l) (hl : l.length ≤ 9223372036854775807) (hT : Tabs w) :
    Calls Tryd.prog 9 #[.agg #[.string name, .int .i64 valid, sv], bv] w fun e w' => e = .returned (.bool true) ∧ Below w.heap.size w w' := by
  obtain ⟨sa, sc, rfl⟩ := hd.shape
  obtain ⟨ba, bc, rfl⟩ := hb.1
  obtain ⟨w0, hw0⟩ : ∃ w0, w0 = w.alloc (.cells #[.string name, .int .i64 valid, .slice sa bs.length sc] 43) := ⟨_, rfl⟩
  have hb0 : Below w.heap.size w w0 := by rw [hw0]; exact (Below.refl _ w).alloc (Nat.le_refl _) _
  have hrow : w0.heap[w.heap.size]? = some (.cells #[.string name, .int .i64 valid, .slice sa bs.length sc] 43 (0, 0)) := by rw [hw0]; exact heap_alloc_new w _
  have hNlt := (Array.getElem?_eq_some_iff.1 hrow).1
  have KT : ∀ u, Below w0.heap.size w0 u → Tabs u := fun u hu => (hT.below hb0 (Nat.le_refl _)).below hu (Nat.le_refl _)
  have HT := Lib.hid KT
  have HD : Hid (∀ u, Below w0.heap.size w0 u → Boxes u (.slice sa bs.length sc) bs) := Lib.hid (fun u hu => (hd.below hb0).below hu)
  have HB : Hid (∀ u, Below w0.heap.size w0 u → Byz u (.slice ba l.length bc) l) := Lib.hid (fun u hu => (hb.below hb0).below hu)
  have HC : Hid (∀ u, Below w0.heap.size w0 u → u.cell? ⟨w.heap.size, 0, none⟩ = some (.string name) ∧ u.cell? ⟨w.heap.size, 1, none⟩ = some (.int .i64 valid) ∧ u.cell? ⟨w.heap.size, 2, none⟩ = some (.slice sa bs.length sc)) := Lib.hid (fun u hu => by
    have h := below_row hrow hu hNlt
    exact ⟨cell_of_row _ _ _ _ _ _ h, cell_of_row _ _ _ _ _ _ h, cell_of_row _ _ _ _ _ _ h⟩)
  have HFIN : Hid (∀ u, Below w0.heap.size w0 u → Below w.heap.size w u) := Lib.hid (fun u hu => hb0.trans (hu.mono hb0.size))
  have HC1 := Lib.hid (putUser_any name valid _ bs w0 (hd.below hb0) hlen hs (KT w0 (Below.refl _ _)))
  have HTB : Hid (∀ u, Below w0.heap.size w0 u → Calls Tryd.prog 27 #[.slice ba l.length bc] u (TakeUR l u)) := Lib.hid (fun u hu => takeUser_any u _ l (HB.out u hu) hl (KT u hu))
  have HLEN := Lib.hid hlen
  have HW0 := Lib.hid (show w.alloc (.cells #[.string name, .int .i64 valid, .slice sa bs.length sc] 43) = w0 from hw0.symm)
  obtain ⟨k0, k1, k2⟩ := HC.out w0 (Below.refl _ _)
  obtain ⟨U, hU⟩ : ∃ U : UsD, (⟨name, valid, bs.map Bx.dat⟩ : UsD) = U := ⟨_, rfl⟩
  rw [hU] at HC1
  have HU := Lib.hid hU
  clear hd hb hT hl hlen hs hb0 hrow hNlt KT hw0 hU
  go_enter Tryd.func9, Tryd.ntmps9
  go_wp2_with (first | rw [HW0.out])
  refine HC1.out.mono ?_
  rintro e w1 ⟨hb1, hor⟩
  clear HC1 k0 k1 k2 HW0
  rcases hor with ⟨hk, rfl⟩ | ⟨hk, v1, rfl, hr⟩
  case' inl =>
    have HZ := Lib.hid hb1
    have e0 : (ckUser U == 0) = false := by rw [beq_eq_false_iff_ne]; exact hk
    generalize ckUser U = K at *
    clear hb1 hk HD HLEN HU HC
    go_wp2_with fail
  case' inr =>
    obtain ⟨h1, h2⟩ := user_take hk
    have h17 := userL_1700 hk
    obtain ⟨L, hL⟩ : ∃ L, userL U = L := ⟨_, rfl⟩
    rw [hL] at hr h1 h2 h17
    have HB1 := Lib.hid hb1
    have HC2 := Lib.hid (takeUser_any w1 v1 L hr.1.z (by omega) (HT.out w1 hb1))
    have H1 := Lib.hid h1
    have H2 := Lib.hid h2
    have H17 : ¬ (1700 : Int) < (L.length : Int) := by omega
    obtain ⟨va, vc, rfl, _⟩ := hr.1.shape
    clear hk hb1 hr h1 h2 hL h17
    go_wp2_with fail
    refine HC2.out.mono ?_
    rintro e w2 ⟨hb2, ⟨hx, _⟩ | ⟨_, u2, cs, lv, ht, hm, hds, rfl⟩⟩
    · exact absurd H2.out hx
    have hB2 := HB1.out.trans (hb2.mono HB1.out.size)
    rw [H1.out] at ht
    injection ht with ht
    subst ht
    have hU := HU.out
    subst hU
    simp only at hm
    obtain ⟨la, lc, rfl, _⟩ := owns_shape hds.own
    obtain ⟨w3, hw3⟩ : ∃ w3, w3 = w2.alloc (.cells #[.string name, .int .i64 valid, .slice la cs.length lc] 43) := ⟨_, rfl⟩
    have hb3 : Below w2.heap.size w2 w3 := by rw [hw3]; exact (Below.refl _ w2).alloc (Nat.le_refl _) _
    have hrow3 : w3.heap[w2.heap.size]? = some (.cells #[.string name, .int .i64 valid, .slice la cs.length lc] 43 (0, 0)) := by rw [hw3]; exact heap_alloc_new w2 _
    have hB3 := hB2.trans (hb3.mono hB2.size)
    have hfit := (takeU_fit H1.out).2.2
    have hqd : Boxes w3 (.slice la cs.length lc) cs := (hds.boxes (fun b hb => by
      have h5 : b.dat ∈ cs.map Bx.dat := List.mem_map_of_mem hb
      rw [hm] at h5
      have h6 := hfit _ h5
      have h7 : b.dat.ls.length = b.ls.length := by simp [Bx.dat]
      omega)).below hb3
    have hsame := sameUser_yes name valid _ _ bs cs w3 (HD.out w3 hB3) hqd hm.symm HLEN.out
    have HS := Lib.hid hsame
    obtain ⟨k0, k1, k2⟩ := HC.out w3 hB3
    have m0 : w3.cell? ⟨w2.heap.size, 0, none⟩ = some (.string name) := cell_of_row _ _ _ _ _ _ hrow3
    have m1 : w3.cell? ⟨w2.heap.size, 1, none⟩ = some (.int .i64 valid) := cell_of_row _ _ _ _ _ _ hrow3
    have m2 : w3.cell? ⟨w2.heap.size, 2, none⟩ = some (.slice la cs.length lc) := cell_of_row _ _ _ _ _ _ hrow3
    have HB3 := Lib.hid hB3
    have HW3 := Lib.hid (show w2.alloc (.cells #[.string name, .int .i64 valid, .slice la cs.length lc] 43) = w3 from hw3.symm)
    clear hb2 hB2 hm hds hqd hsame H1 H2 HC2 HB1 HD HLEN HU HC hfit hrow3 hb3 hB3 hw3
    go_wp2_with (first | rw [HW3.out])
    refine HS.out.mono ?_
    rintro e w4 ⟨rfl, hb4⟩
    have HZ := Lib.hid (HB3.out.trans (hb4.mono HB3.out.size))
    clear hb4 HS HB3 k0 k1 k2 m0 m1 m2 HW3
    go_wp2_with fail
  all_goals
    refine (HTB.out _ HZ.out).mono ?_
    rintro e w5 ⟨hb5, hor⟩
    have hB5 := HZ.out.trans (hb5.mono HZ.out.size)
    rcases hor with ⟨hk, rfl⟩ | ⟨hk, u5, cs5, lv5, ht, hm, hds, rfl⟩
    · obtain ⟨w6, hw6⟩ : ∃ w6, w6 = w5.alloc (.cells #[.string ⟨#[]⟩, .int .i64 0, .slice none 0 0] 43) := ⟨_, rfl⟩
      have hb6 : Below w5.heap.size w5 w6 := by rw [hw6]; exact (Below.refl _ w5).alloc (Nat.le_refl _) _
      have hrow6 : w6.heap[w5.heap.size]? = some (.cells #[.string ⟨#[]⟩, .int .i64 0, .slice none 0 0] 43 (0, 0)) := by rw [hw6]; exact heap_alloc_new w5 _
      have hB6 := hB5.trans (hb6.mono hB5.size)
      have HC5 := Lib.hid (putUser_any ⟨#[]⟩ 0 _ [] w6 (boxes_nil w6) (by decide) (by decide) (HT.out w6 hB6))
      have HB6 := Lib.hid hB6
      have hk' : (takeUE l == 0) = false := by rw [beq_eq_false_iff_ne]; exact hk
      have hk2 : (takeUE l != 0) = true := by rw [bne_iff_ne]; exact hk
      have hk3 : takeUE l ≠ 0 := hk
      have m0 : w6.cell? ⟨w5.heap.size, 0, none⟩ = some (.string ⟨#[]⟩) := cell_of_row _ _ _ _ _ _ hrow6
      have m1 : w6.cell? ⟨w5.heap.size, 1, none⟩ = some (.int .i64 0) := cell_of_row _ _ _ _ _ _ hrow6
      have m2 : w6.cell? ⟨w5.heap.size, 2, none⟩ = some (.slice none 0 0) := cell_of_row _ _ _ _ _ _ hrow6
      have HW6 := Lib.hid (show w5.alloc (.cells #[.string ⟨#[]⟩, .int .i64 0, .slice none 0 0] 43) = w6 from hw6.symm)
      generalize takeUE l = K5 at *
      clear hb5 hB5 hk HTB HZ hw6 hb6 hrow6 hB6
      clear m0 m1 m2
      go_wp2_with fail
      rw [HW6.out]
      refine HC5.out.mono ?_
      rintro e w7 ⟨hb7, ⟨_, rfl⟩ | ⟨hx, _⟩⟩
      · have HB7 := Lib.hid (HB6.out.trans (hb7.mono HB6.out.size))
        have HLV := Lib.hid (live_any w7 (HT.out w7 HB7.out))
        rw [zero_user]
        clear hb7 HC5 HW6
        go_wp2_with fail
        refine HLV.out.mono ?_
        rintro e w8 ⟨rfl, hb8⟩
        have HB8 := Lib.hid (HB7.out.trans (hb8.mono HB7.out.size))
        clear hb8 HLV
        go_wp2
        go_ret
        exact ⟨rfl, HFIN.out _ HB8.out⟩
      · rw [zero_user] at hx
        exact absurd hx (by decide)
    · obtain ⟨p1, p2⟩ := take_user hk ht
      obtain ⟨la, lc, rfl, _⟩ := owns_shape hds.own
      obtain ⟨w6, hw6⟩ : ∃ w6, w6 = w5.alloc (.cells #[.string u5.name, .int .i64 u5.valid, .slice la cs5.length lc] 43) := ⟨_, rfl⟩
      have hb6 : Below w5.heap.size w5 w6 := by rw [hw6]; exact (Below.refl _ w5).alloc (Nat.le_refl _) _
      have hrow6 : w6.heap[w5.heap.size]? = some (.cells #[.string u5.name, .int .i64 u5.valid, .slice la cs5.length lc] 43 (0, 0)) := by rw [hw6]; exact heap_alloc_new w5 _
      have hB6 := hB5.trans (hb6.mono hB5.size)
      obtain ⟨f1, f2, f3⟩ := takeU_fit ht
      have hcl : cs5.length = u5.bs.length := by rw [← hm, List.length_map]
      have hqd : Boxes w6 (.slice la cs5.length lc) cs5 := (hds.boxes (fun b hb => by
        have h5 : b.dat ∈ cs5.map Bx.dat := List.mem_map_of_mem hb
        rw [hm] at h5
        have h6 := f3 _ h5
        have h7 : b.dat.ls.length = b.ls.length := by simp [Bx.dat]
        omega)).below hb6
      have hC := putUser_any u5.name u5.valid _ cs5 w6 hqd (by omega) (by omega) (HT.out w6 hB6)
      rw [hm] at hC
      have HC5 := Lib.hid hC
      have HB6 := Lib.hid hB6
      have P1 := Lib.hid p1
      have P2 := Lib.hid p2
      have m0 : w6.cell? ⟨w5.heap.size, 0, none⟩ = some (.string u5.name) := cell_of_row _ _ _ _ _ _ hrow6
      have m1 : w6.cell? ⟨w5.heap.size, 1, none⟩ = some (.int .i64 u5.valid) := cell_of_row _ _ _ _ _ _ hrow6
      have m2 : w6.cell? ⟨w5.heap.size, 2, none⟩ = some (.slice la cs5.length lc) := cell_of_row _ _ _ _ _ _ hrow6
      have HW6 := Lib.hid (show w5.alloc (.cells #[.string u5.name, .int .i64 u5.valid, .slice la cs5.length lc] 43) = w6 from hw6.symm)
      clear hb5 hB5 hk ht hm hds hqd hC p1 p2 HTB HZ hw6 hb6 hrow6 hB6 f1 f2 f3 hcl
      go_wp2_with (first | rw [HW6.out])
      refine HC5.out.mono ?_
      rintro e w7 ⟨hb7, ⟨hx, _⟩ | ⟨_, v7, rfl, hr7⟩⟩
      · exact absurd P1.out hx
      have hr7' : Row w6.heap.size w7 v7 l := by have := hr7; rwa [show (⟨u5.name, u5.valid, u5.bs⟩ : UsD) = u5 from rfl, P2.out] at this
      have hB7 := HB6.out.trans (hb7.mono HB6.out.size)
      have HB7 := Lib.hid hB7
      have HR7 := Lib.hid hr7'.1.z
      have HLV := Lib.hid (live_any w7 (HT.out w7 hB7))
      obtain ⟨va, vc, rfl, _⟩ := hr7'.1.shape
      clear hb7 hB7 hr7 hr7' HC5 P1 P2 HB6 m0 m1 m2 HW6
      go_wp2_with fail
      refine HLV.out.mono ?_
      rintro e w8 ⟨rfl, hb8⟩
      have hB8 := HB7.out.trans (hb8.mono HB7.out.size)
      have v1 := run_byz_string w8 _ _ 5 Tryd.underlying26 Tryd.underlying5 Tryd.underlying9 (HR7.out.below hb8)
      have v2 := run_byz_string w8 _ _ 5 Tryd.underlying26 Tryd.underlying5 Tryd.underlying9 (HB.out w8 hB8)
      have HB8 := Lib.hid hB8
      clear hb8 hB8 HLV HB7 HR7
      go_wp2
      go_ret
      exact ⟨ret_bool (by simp), HFIN.out _ HB8.out⟩
end Go.Proofs.YtjljbnilckkjnaaDoor
