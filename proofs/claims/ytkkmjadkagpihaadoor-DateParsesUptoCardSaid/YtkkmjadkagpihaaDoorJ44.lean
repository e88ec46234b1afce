/- Date: letters against bytes; the document's fits, match, best and moment told over bytes; Parse where no pattern is matched whole. -/
import Derived.Test.YtkkmjadkagpihaaDoorJ22
import Derived.Test.YtkkmjadkagpihaaDoorJ36
import Derived.Test.YtkkmjadkagpihaaDoorJP2
import Derived.Test.YtkkmjadkagpihaaDoorJ39
import Derived.Test.YtkkmjadkagpihaaDoorJ42
namespace Go.Proofs.YtkkmjadkagpihaaDoor
open Go Go.RowKit

set_option maxRecDepth 100000 in
theorem refMoment_yes (y m d sec z : Int) (w : World) (hr : rt y m d = true) (hs0 : 0 ≤ sec) (hs1 : sec < 86400) (hz1 : -1439 ≤ z) (hz2 : z ≤ 1439) :
    Calls Tryd.prog 51 #[dayV y m d, .int .i64 sec, .int .i64 z] w fun e w' => e = .returned (momV (num y m d * 86400 + sec - 60 * z, z, 0, 0)) ∧ Below w.heap.size w w' := by
  have hin := num_in hr
  have HD := Lib.hid (fun w => refDays_yes y m d w hr)
  clear hr
  obtain ⟨n, hn⟩ : ∃ n, num y m d = n := ⟨_, rfl⟩
  rw [hn] at hin HD ⊢
  obtain ⟨sc, hsc⟩ : ∃ sc, 86400 * n + sec - 60 * z = sc := ⟨_, rfl⟩
  have hok : okT sc z = true := by rw [okT_iff]; omega
  have HT := Lib.hid (fun w => refThere_yes sc z w hok)
  have hw1 : IntKind.i64.wrap (86400 * n) = 86400 * n := IntWalk.i64_in _ (by omega)
  have hw2 : IntKind.i64.wrap (86400 * n + sec) = 86400 * n + sec := IntWalk.i64_in _ (by omega)
  have hw3 : IntKind.i64.wrap (60 * z) = 60 * z := IntWalk.i64_in _ (by omega)
  have hw4 : IntKind.i64.wrap (86400 * n + sec - 60 * z) = sc := by rw [hsc]; exact IntWalk.i64_in _ (by omega)
  have hfin : n * 86400 + sec - 60 * z = sc := by omega
  rw [hfin]
  clear hok hn
  unfold momV
  unfold dayV at HD ⊢
  unfold timeV at HT ⊢
  obtain ⟨W0, hW⟩ : ∃ W0, (w.alloc (.cells #[.int .i64 y, .int .i64 m, .int .i64 d] 23)).alloc (.cells #[.int .i64 0, .int .i64 0] 35) = W0 := ⟨_, rfl⟩
  have hB : Below w.heap.size w W0 := by rw [← hW]; exact bal (bal (Below.refl _ _) _) _
  have hz : w.heap.size + 1 < W0.heap.size := by rw [← hW]; simp
  have hr0 : W0.heap[w.heap.size + 1]? = some (.cells #[.int .i64 0, .int .i64 0] 35 (0, 0)) := by
    rw [← hW]; have := heap_alloc_new (w.alloc (.cells #[.int .i64 y, .int .i64 m, .int .i64 d] 23)) (.cells #[.int .i64 0, .int .i64 0] 35)
    simpa using this
  have K : ∀ wx, Below W0.heap.size W0 wx → wx.heap[w.heap.size + 1]? = some (.cells #[.int .i64 0, .int .i64 0] 35 (0, 0)) := fun wx hb => (hb.block _ hz).trans hr0
  have HW := Lib.hid hW
  have HB := Lib.hid hB
  have HK := Lib.hid K
  clear hB hz K hr0 hW
  go_enter Tryd.func51, Tryd.ntmps51
  go_wp2_with fail
  rw [HW.out]
  refine (HD.out _).mono ?_
  rintro e w1 ⟨rfl, hb1⟩
  go_wp2_with fail
  refine (HT.out _).mono ?_
  rintro e w2 ⟨rfl, hb2⟩
  have hb1a : Below W0.heap.size W0 (w1.alloc (.cells #[.int .i64 sc, .int .i64 z] 35)) := bal hb1 _
  have hb3 := hb1a.trans (hb2.mono hb1a.size)
  have hrow := HK.out w2 hb3
  have k0 : w2.cell? ⟨w.heap.size + 1, 0, none⟩ = some (.int .i64 0) := cell_of_row _ _ _ _ _ _ hrow
  have k1 : w2.cell? ⟨w.heap.size + 1, 1, none⟩ = some (.int .i64 0) := cell_of_row _ _ _ _ _ _ hrow
  have f0 : w2.frozen? ⟨w.heap.size + 1, 0, none⟩ = false := frozen_of_row _ _ _ _ _ hrow
  have f1 : w2.frozen? ⟨w.heap.size + 1, 1, none⟩ = false := frozen_of_row _ _ _ _ _ hrow
  have q0 : w2.cell? ⟨w1.heap.size, 0, none⟩ = some (.int .i64 sc) := (hb2.cell (by rw [World.size_alloc]; exact Nat.lt_succ_self _)).trans (World.cell?_alloc_mark _ _ _ _ _)
  have q1 : w2.cell? ⟨w1.heap.size, 1, none⟩ = some (.int .i64 z) := (hb2.cell (by rw [World.size_alloc]; exact Nat.lt_succ_self _)).trans (World.cell?_alloc_mark _ _ _ _ _)
  have hb4 := HB.out.trans (hb3.mono HB.out.size)
  clear hrow hb1 hb1a hb2 hb3
  go_wp2
  exact bodyPost_ret (v := .tuple #[.agg #[.int .i64 sc, .int .i64 z], .int .i64 0, .int .i64 0]) (by simp [results, Tryd.results51, go_sem, k0, k1]) rfl ⟨rfl, (hb4.setCell (Nat.le_succ _) _).setCell (Nat.le_succ _) _⟩

set_option maxRecDepth 100000 in
theorem refMoment_no (y m d sec z : Int) (w : World) (hr : rt y m d = false) (hs0 : 0 ≤ sec) (hs1 : sec < 86400) (hz1 : -1439 ≤ z) (hz2 : z ≤ 1439) :
    Calls Tryd.prog 51 #[dayV y m d, .int .i64 sec, .int .i64 z] w fun e w' => e = .returned (momV (0, 0, 0, 2)) ∧ Below w.heap.size w w' := by
  have HD := Lib.hid (fun w => refDays_no y m d w hr)
  clear hr
  obtain ⟨sc, hsc⟩ : ∃ sc, sec - 60 * z = sc := ⟨_, rfl⟩
  have hok : okT sc z = true := by rw [okT_iff]; omega
  have HT := Lib.hid (fun w => refThere_yes sc z w hok)
  have hw2 : IntKind.i64.wrap sec = sec := IntWalk.i64_in _ (by omega)
  have hw3 : IntKind.i64.wrap (60 * z) = 60 * z := IntWalk.i64_in _ (by omega)
  have hw4 : IntKind.i64.wrap (sec - 60 * z) = sc := by rw [hsc]; exact IntWalk.i64_in _ (by omega)
  clear hok
  unfold momV
  unfold dayV at HD ⊢
  unfold timeV at HT ⊢
  obtain ⟨W0, hW⟩ : ∃ W0, (w.alloc (.cells #[.int .i64 y, .int .i64 m, .int .i64 d] 23)).alloc (.cells #[.int .i64 0, .int .i64 0] 35) = W0 := ⟨_, rfl⟩
  have hB : Below w.heap.size w W0 := by rw [← hW]; exact bal (bal (Below.refl _ _) _) _
  have hz : w.heap.size + 1 < W0.heap.size := by rw [← hW]; simp
  have hr0 : W0.heap[w.heap.size + 1]? = some (.cells #[.int .i64 0, .int .i64 0] 35 (0, 0)) := by
    rw [← hW]; have := heap_alloc_new (w.alloc (.cells #[.int .i64 y, .int .i64 m, .int .i64 d] 23)) (.cells #[.int .i64 0, .int .i64 0] 35)
    simpa using this
  have K : ∀ wx, Below W0.heap.size W0 wx → wx.heap[w.heap.size + 1]? = some (.cells #[.int .i64 0, .int .i64 0] 35 (0, 0)) := fun wx hb => (hb.block _ hz).trans hr0
  have HW := Lib.hid hW
  have HB := Lib.hid hB
  have HK := Lib.hid K
  clear hB hz K hr0 hW
  go_enter Tryd.func51, Tryd.ntmps51
  go_wp2_with fail
  rw [HW.out]
  refine (HD.out _).mono ?_
  rintro e w1 ⟨rfl, hb1⟩
  go_wp2_with fail
  refine (HT.out _).mono ?_
  rintro e w2 ⟨rfl, hb2⟩
  have hb1a : Below W0.heap.size W0 (w1.alloc (.cells #[.int .i64 sc, .int .i64 z] 35)) := bal hb1 _
  have hb3 := hb1a.trans (hb2.mono hb1a.size)
  have hrow := HK.out w2 hb3
  have k0 : w2.cell? ⟨w.heap.size + 1, 0, none⟩ = some (.int .i64 0) := cell_of_row _ _ _ _ _ _ hrow
  have k1 : w2.cell? ⟨w.heap.size + 1, 1, none⟩ = some (.int .i64 0) := cell_of_row _ _ _ _ _ _ hrow
  have f0 : w2.frozen? ⟨w.heap.size + 1, 0, none⟩ = false := frozen_of_row _ _ _ _ _ hrow
  have f1 : w2.frozen? ⟨w.heap.size + 1, 1, none⟩ = false := frozen_of_row _ _ _ _ _ hrow
  have q0 : w2.cell? ⟨w1.heap.size, 0, none⟩ = some (.int .i64 sc) := (hb2.cell (by rw [World.size_alloc]; exact Nat.lt_succ_self _)).trans (World.cell?_alloc_mark _ _ _ _ _)
  have q1 : w2.cell? ⟨w1.heap.size, 1, none⟩ = some (.int .i64 z) := (hb2.cell (by rw [World.size_alloc]; exact Nat.lt_succ_self _)).trans (World.cell?_alloc_mark _ _ _ _ _)
  have hb4 := HB.out.trans (hb3.mono HB.out.size)
  clear hrow hb1 hb1a hb2 hb3
  go_wp2
  exact bodyPost_ret (v := .tuple #[.agg #[.int .i64 0, .int .i64 0], .int .i64 0, .int .i64 2]) (by simp [results, Tryd.results51, go_sem, k0, k1]) rfl ⟨rfl, (hb4.setCell (Nat.le_succ _) _).setCell (Nat.le_succ _) _⟩
end Go.Proofs.YtkkmjadkagpihaaDoor
namespace Go.Proofs.YtkkmjadkagpihaaDoor
open Go Go.RowKit

/-- How many bytes ahead are below 128. -/
def nAF : List UInt8 → Nat
  | [] => 0
  | c :: r => if c.toNat < 128 then nAF r + 1 else 0
theorem nA_le : ∀ bs : List UInt8, nAF bs ≤ bs.length
  | [] => Nat.le_refl _
  | c :: r => by unfold nAF; have := nA_le r; split <;> simp <;> omega
theorem nA_lo : ∀ (bs : List UInt8) (j : Nat), j < nAF bs → (nb bs j).toNat < 128
  | [], j, h => absurd h (Nat.not_lt_zero j)
  | c :: r, j, h => by
    unfold nAF at h
    split at h
    · next hc =>
      match j with
      | 0 => exact hc
      | j + 1 => exact nA_lo r j (by omega)
    · exact absurd h (Nat.not_lt_zero j)
theorem nA_hi : ∀ bs : List UInt8, nAF bs < bs.length → 128 ≤ (nb bs (nAF bs)).toNat
  | [], h => absurd h (Nat.not_lt_zero _)
  | c :: r, h => by
    unfold nAF at h ⊢
    split
    · next hc =>
      rw [if_pos hc] at h
      exact nA_hi r (by simp at h; omega)
    · next hc => show 128 ≤ c.toNat; omega
def lettE (t : ByteArray) (x : Nat × Nat × Nat) : ByteArray := t.extract x.1 (x.1 + x.2.2)
theorem nb_ix {t : ByteArray} {p : Nat} (h : p < t.size) : t[p]'h = nb t.data.toList p := by
  rw [← get_at t p h]
  exact nb_get (by rw [← size_toList]; exact h)
theorem lets_pre (t : ByteArray) : ∀ k, k ≤ nAF t.data.toList → lets t 0 = (List.range k).map (fun j => (j, (nb t.data.toList j).toNat, 1)) ++ lets t k
  | 0, _ => rfl
  | k + 1, h => by
    have hl := nA_le t.data.toList
    rw [← size_toList] at hl
    have hk : k < t.size := by omega
    have hd := dec_ascii t k hk (by rw [nb_ix hk]; exact nA_lo _ k (by omega))
    rw [lets_pre t k (by omega), lets_cons t k hk, hd, List.range_succ, List.map_append, List.append_assoc, nb_ix hk]
    rfl
theorem lett_one (t : ByteArray) (j : Nat) (h : j < t.data.toList.length) : t.extract j (j + 1) = ⟨#[nb t.data.toList j]⟩ := by
  apply ext_eq
  rw [Lib.extract_data, show j + 1 - j = 0 + 1 by omega, take_one h, List.take_zero]
theorem ltrs_pre (t : ByteArray) (k : Nat) (h : k ≤ nAF t.data.toList) : ltrs t = (List.range k).map (fun j => (⟨#[nb t.data.toList j]⟩ : ByteArray)) ++ (lets t k).map (lettE t) := by
  have hl := nA_le t.data.toList
  show (lets t 0).map (lettE t) = _
  rw [lets_pre t k h, List.map_append, List.map_map]
  congr 1
  apply List.map_congr_left
  intro j hj
  exact lett_one t j (by have := List.mem_range.1 hj; omega)

/-- What stands at a place up to the first letter of a great byte. -/
inductive Ltr1 (bs : List UInt8) (X : ByteArray) (i : Nat) : Prop
  | one (h : X = ⟨#[nb bs i]⟩) : Ltr1 bs X i
  | many (h : X.size ≠ 1) (k : 128 ≤ (nb bs i).toNat) (r : List UInt8) (e : X.data.toList = nb bs i :: r) (hz : X.size ≤ 4) : Ltr1 bs X i
theorem get_map_left {α β : Type} (a : List α) (f : α → β) (b : List β) (i : Nat) (h : i < a.length) (h2 : i < (a.map f ++ b).length) : (a.map f ++ b)[i] = f a[i] := by
  rw [List.getElem_append_left (by rw [List.length_map]; exact h), List.getElem_map]
structure LtrF (t : ByteArray) (bs : List UInt8) (L : List ByteArray) (n : Nat) : Prop where
  le : n ≤ bs.length
  pre : ∀ k, k < n → ∃ h : k < L.length, L[k] = ⟨#[nb bs k]⟩
  low : ∀ k, k < n → (nb bs k).toNat < 128
  end1 : n = bs.length → L.length = n
  end2 : n < bs.length → n < L.length ∧ 128 ≤ (nb bs n).toNat
  at_ : ∀ i (h : i < L.length), i ≤ n → i < bs.length ∧ Ltr1 bs L[i] i
theorem ltrs_fact (t : ByteArray) : LtrF t t.data.toList (ltrs t) (nAF t.data.toList) := by
  obtain ⟨n, hn⟩ : ∃ n, nAF t.data.toList = n := ⟨_, rfl⟩
  have hl := nA_le t.data.toList
  have hE := ltrs_pre t n (by omega)
  have hlo := nA_lo t.data.toList
  have hhi := nA_hi t.data.toList
  rw [hn] at hl hlo hhi ⊢
  have hsz := size_toList t
  have hpre : ∀ k, k < n → ∃ h : k < (ltrs t).length, (ltrs t)[k] = ⟨#[nb t.data.toList k]⟩ := by
    intro k hk
    have hkl : k < (ltrs t).length := by rw [hE, List.length_append, List.length_map, List.length_range]; omega
    refine ⟨hkl, ?_⟩
    have h2 : k < ((List.range n).map (fun j => (⟨#[nb t.data.toList j]⟩ : ByteArray)) ++ (lets t n).map (lettE t)).length := by rw [← hE]; exact hkl
    have e1 : (ltrs t)[k] = ((List.range n).map (fun j => (⟨#[nb t.data.toList j]⟩ : ByteArray)) ++ (lets t n).map (lettE t))[k] := by congr 1
    rw [e1, get_map_left _ _ _ _ (by rw [List.length_range]; exact hk), List.getElem_range]
  have hlast : n < t.data.toList.length → ∃ h : n < (ltrs t).length, Ltr1 t.data.toList (ltrs t)[n] n := by
    intro hb
    have hb' : n < t.size := by omega
    obtain ⟨d1, d2, d3⟩ := dec_le t n hb'
    obtain ⟨sz, hs⟩ : ∃ sz, (Utf8.decode t n).2 = sz := ⟨_, rfl⟩
    rw [hs] at d1 d2 d3
    have hc := lets_cons t n hb'
    have hnl : n < (ltrs t).length := by rw [hE, hc, List.length_append, List.length_map, List.length_range, List.length_map, List.length_cons]; omega
    refine ⟨hnl, ?_⟩
    have e1 : (ltrs t)[n] = t.extract n (n + sz) := by
      have h2 : n < ((List.range n).map (fun j => (⟨#[nb t.data.toList j]⟩ : ByteArray)) ++ (lets t n).map (lettE t)).length := by rw [← hE]; exact hnl
      have e0 : (ltrs t)[n] = ((List.range n).map (fun j => (⟨#[nb t.data.toList j]⟩ : ByteArray)) ++ (lets t n).map (lettE t))[n] := by congr 1
      rw [e0, List.getElem_append_right (by rw [List.length_map, List.length_range]; exact Nat.le_refl n)]
      simp only [hc, List.map_cons, List.length_map, List.length_range, Nat.sub_self, List.getElem_cons_zero]
      show t.extract n (n + (Utf8.decode t n).2) = _
      rw [hs]
    rw [e1]
    have hsize : (t.extract n (n + sz)).size = sz := by rw [ByteArray.size_extract]; omega
    by_cases h1 : sz = 1
    · rw [h1]; exact Ltr1.one (lett_one t n hb)
    · refine Ltr1.many (by rw [hsize]; exact h1) (hhi hb) (((t.data.toList.drop (n + 1)).take (sz - 1))) ?_ (by rw [hsize]; exact d2)
      rw [Lib.extract_data, show n + sz - n = (sz - 1) + 1 by omega, take_one hb]
  refine ⟨hl, hpre, hlo, fun e => ?_, fun hb => ⟨(hlast hb).1, hhi hb⟩, fun i h hi => ?_⟩
  · rw [hE, lets_nil t n (by omega), List.map_nil, List.append_nil, List.length_map, List.length_range]
  · by_cases e : i < n
    · exact ⟨by omega, Ltr1.one (hpre i e).2⟩
    · have ei : i = n := by omega
      subst ei
      have hb : i < t.data.toList.length := by
        by_cases hb : i < t.data.toList.length
        · exact hb
        · exfalso
          have : (ltrs t).length = i := by rw [hE, lets_nil t i (by omega), List.map_nil, List.append_nil, List.length_map, List.length_range]
          omega
      exact ⟨hb, (hlast hb).2⟩

theorem hit_high (words : List UInt8) (n : Nat) (hw : ∀ k, k < n → ∀ y, y ∈ low (nthL words k) → y.toNat < 128) (X : List UInt8) (y : UInt8) (hy : y ∈ X) (h : 128 ≤ y.toNat) : hitR words n X = false := by
  apply hit_false
  rintro k hk ⟨_, h2⟩
  have : y ∈ low (nthL words k) := by
    have h3 : y ∈ (low (nthL words k)).take X.length := by rw [h2]; exact hy
    exact List.mem_of_mem_take h3
  have := hw k hk y this
  omega
theorem mon_lo : ∀ k, k < 12 → ∀ y, y ∈ low (nthL monthsL k) → y.toNat < 128 := by decide +kernel
theorem wee_lo : ∀ k, k < 7 → ∀ y, y ∈ low (nthL weeksL k) → y.toNat < 128 := by decide +kernel
theorem lowB_ge (c : UInt8) (h : 128 ≤ c.toNat) : lowB c = c := by unfold lowB; rw [if_neg (by omega)]
theorem bck_le (bs : List UInt8) (i : Nat) : bckF bs i ≤ i := by
  unfold bckF
  split
  · split <;> omega
  · omega
theorem mem_last {bs : List UInt8} {f i : Nat} (hf : f ≤ i) (hi : i < bs.length) : (bs.drop f).take (i + 1 - f) = (bs.drop f).take (i - f) ++ [nb bs i] := by
  rw [show i + 1 - f = i - f + 1 by omega, take_snoc (by omega), show f + (i - f) = i by omega]
def signs : List UInt8 := [57, 50, 53, 51, 77, 87, 71, 109, 84, 85, 44, 32, 58, 43, 45]
theorem fit_high {bs : List UInt8} {i : Nat} (hi : i < bs.length) (h : 128 ≤ (nb bs i).toNat) (s : UInt8) (hs : s ∈ signs) : fitB bs i s = false := by
  have hd : ∀ k, k ≤ 10 → digB (nb bs i) k = false := fun k hk => decide_eq_false (by omega)
  have hne : ∀ c : UInt8, c.toNat < 128 → nb bs i ≠ c := fun c hc e => by rw [e] at h; omega
  have hlw := lowB_ge _ h
  have hm : ∀ words n, (∀ k, k < n → ∀ y, y ∈ low (nthL words k) → y.toNat < 128) → hitR words n (low ((bs.drop (bckF bs i)).take (i + 1 - bckF bs i))) = false := fun words n hw => by
    rw [mem_last (bck_le bs i) hi, low_append]
    exact hit_high words n hw _ (lowB (nb bs i)) (by simp [low]) (by rw [hlw]; exact h)
  simp only [signs, List.mem_cons, List.not_mem_nil, or_false] at hs
  rcases hs with rfl | rfl | rfl | rfl | rfl | rfl | rfl | rfl | rfl | rfl | rfl | rfl | rfl | rfl | rfl
  · exact hd 10 (by omega)
  · exact hd 3 (by omega)
  · exact hd 6 (by omega)
  · show (if nb bs (i - 1) = 50 then digB (nb bs i) 4 else digB (nb bs i) 10) = false
    split
    · exact hd 4 (by omega)
    · exact hd 10 (by omega)
  · exact hm monthsL 12 mon_lo
  · exact hm weeksL 7 wee_lo
  · show decide (lowB (nb bs i) = 103) = false
    rw [hlw]; exact decide_eq_false (hne 103 (by decide))
  · show decide (lowB (nb bs i) = 109) = false
    rw [hlw]; exact decide_eq_false (hne 109 (by decide))
  · show decide (lowB (nb bs i) = 116) = false
    rw [hlw]; exact decide_eq_false (hne 116 (by decide))
  · show decide (lowB (nb bs i) = 117) = false
    rw [hlw]; exact decide_eq_false (hne 117 (by decide))
  · exact decide_eq_false (hne 44 (by decide))
  · exact decide_eq_false (hne 32 (by decide))
  · exact decide_eq_false (hne 58 (by decide))
  · exact decide_eq_false (hne 43 (by decide))
  · exact decide_eq_false (hne 45 (by decide))
end Go.Proofs.YtkkmjadkagpihaaDoor
namespace Go.Proofs.YtkkmjadkagpihaaDoor
open Go Go.RowKit

theorem bck_bck (bs : List UInt8) (i : Nat) (hi : i ≤ bs.length) : Bck bs i (bckF bs i) := by
  unfold bckF
  by_cases h1 : 1 ≤ i ∧ isA (nb bs (i - 1))
  · rw [if_pos h1]
    by_cases h2 : 2 ≤ i ∧ isA (nb bs (i - 2))
    · rw [if_pos h2]
      refine ⟨by omega, by omega, fun k hk a b => ?_, Or.inl (by omega)⟩
      rw [← nb_lt hk]
      rcases (show k = i - 1 ∨ k = i - 2 by omega) with rfl | rfl
      · exact h1.2
      · exact h2.2
    · rw [if_neg h2]
      refine ⟨by omega, by omega, fun k hk a b => ?_, ?_⟩
      · rw [← nb_lt hk, show k = i - 1 by omega]; exact h1.2
      · by_cases h3 : i = 1
        · exact Or.inr (Or.inl (by omega))
        · refine Or.inr (Or.inr ⟨by omega, ?_⟩)
          rw [← nb_lt (by omega), show i - 1 - 1 = i - 2 by omega]
          exact fun e => h2 ⟨by omega, e⟩
  · rw [if_neg h1]
    refine ⟨by omega, by omega, fun k hk a b => by omega, ?_⟩
    by_cases h3 : i = 0
    · exact Or.inr (Or.inl h3)
    · refine Or.inr (Or.inr ⟨by omega, ?_⟩)
      rw [← nb_lt (by omega)]
      exact fun e => h1 ⟨by omega, e⟩
theorem catL_pre {L : List ByteArray} {bs : List UInt8} {i f : Nat} (hP : Pre L bs i) (hf : f ≤ i) : catL L f i = low ((bs.drop f).take (i - f)) := by
  obtain ⟨d, rfl⟩ : ∃ d, i = f + d := ⟨i - f, by omega⟩
  clear hf
  induction d with
  | zero => rw [Nat.add_zero, catL_nil, Nat.sub_self, List.take_zero]; rfl
  | succ d ih =>
    have hP' : Pre L bs (f + d) := ⟨by have := hP.1; omega, fun k hk => hP.2 k (by omega)⟩
    obtain ⟨h1, h2, h3⟩ := hP.2 (f + d) (by omega)
    rw [show f + (d + 1) = f + d + 1 by omega, catL_snoc L f (f + d) (by omega) h1, ih hP', h3, show f + d + 1 - f = d + 1 by omega, show f + d - f = d by omega, take_snoc h2, low_append, nb_lt h2]
/-- What a letter of one byte or more tells of a word's sign. -/
theorem hit_cat {t : ByteArray} {bs : List UInt8} {L : List ByteArray} {n i : Nat} (F : LtrF t bs L n) (hi : i < L.length) (hin : i ≤ n) (hP : Pre L bs i) (words : List UInt8) (m : Nat) (hw : ∀ k, k < m → ∀ y, y ∈ low (nthL words k) → y.toNat < 128) :
    hitR words m (catL L (bckF bs i) (i + 1)) = hitR words m (low ((bs.drop (bckF bs i)).take (i + 1 - bckF bs i))) := by
  obtain ⟨hb, hl⟩ := F.at_ i hi hin
  rw [catL_snoc L _ i (bck_le bs i) hi, catL_pre hP (bck_le bs i), mem_last (bck_le bs i) hb, low_append]
  cases hl with
  | one h => rw [h]
  | many h k r e hz =>
    rw [hit_high words m hw (low ((bs.drop (bckF bs i)).take (i - bckF bs i)) ++ low L[i].data.toList) (lowB (nb bs i)) (by rw [e]; simp [low]) (by rw [lowB_ge _ k]; exact k),
      hit_high words m hw (low ((bs.drop (bckF bs i)).take (i - bckF bs i)) ++ low [nb bs i]) (lowB (nb bs i)) (by simp [low]) (by rw [lowB_ge _ k]; exact k)]
theorem low_sign {t : ByteArray} {bs : List UInt8} {L : List ByteArray} {n i : Nat} (F : LtrF t bs L n) (hi : i < L.length) (hin : i ≤ n) (c : UInt8) (hc : c.toNat < 128) : decide (low L[i].data.toList = [c]) = decide (lowB (nb bs i) = c) := by
  obtain ⟨hb, hl⟩ := F.at_ i hi hin
  cases hl with
  | one h => rw [h]; simp [low]
  | many h k r e hz =>
    rw [e, lowB_ge _ k]
    refine (decide_eq_false fun x => ?_).trans (decide_eq_false fun x => ?_).symm
    · have x1 := (List.cons.inj (show lowB (nb bs i) :: low r = [c] from x)).1
      rw [lowB_ge _ k] at x1
      rw [x1] at k; omega
    · rw [x] at k; omega
theorem own_sign {t : ByteArray} {bs : List UInt8} {L : List ByteArray} {n i : Nat} (F : LtrF t bs L n) (hi : i < L.length) (hin : i ≤ n) (c : UInt8) (hc : c.toNat < 128) : decide (L[i].data.toList = [c]) = decide (nb bs i = c) := by
  obtain ⟨hb, hl⟩ := F.at_ i hi hin
  cases hl with
  | one h => rw [h]; simp
  | many h k r e hz =>
    rw [e]
    refine (decide_eq_false fun x => ?_).trans (decide_eq_false fun x => ?_).symm
    · have x1 := (List.cons.inj x).1
      rw [x1] at k; omega
    · rw [x] at k; omega

theorem ret_of {w w' : World} {e : Ending} {a b : Bool} (h : e = .returned (.bool a) ∧ Below w.heap.size w w') (k : a = b) : e = .returned (.bool b) ∧ Below w.heap.size w w' := ⟨by rw [h.1, k], h.2⟩
theorem ret_eq {w w' : World} {e : Ending} {a b : Bool} (h : e = .returned (.bool a) ∧ w = w') (k : a = b) : e = .returned (.bool b) ∧ Below w.heap.size w w' := ⟨by rw [h.1, k], by rw [← h.2]; exact Below.refl _ _⟩
theorem fits_all (w : World) (v : Value) (t : ByteArray) (bs : List UInt8) (L : List ByteArray) (n : Nat) (F : LtrF t bs L n) (hv : Ltr w v L) (i : Nat) (hi : i < L.length) (hin : i ≤ n) (hil : i ≤ 1000) (s : UInt8) (hs : s ∈ signs) (h51 : s = 51 → 1 ≤ i) :
    Calls Tryd.prog 79 #[v, .int .i64 (i : Int), .int .u8 (s.toNat : Int)] w fun e w' => e = .returned (.bool (fitB bs i s)) ∧ Below w.heap.size w w' := by
  obtain ⟨hb, hl⟩ := F.at_ i hi hin
  have hP : Pre L bs i := ⟨by omega, fun k hk => by
    obtain ⟨h1, h2⟩ := F.pre k (by omega)
    exact ⟨h1, by omega, by rw [h2, nb_lt (by omega)]⟩⟩
  have hB := bck_bck bs i (by omega)
  have hz : L[i].size ≤ 4398046511104 := by
    cases hl with
    | one h => rw [h]; show (1 : Nat) ≤ _; omega
    | many h k r e hz => omega
  have hno : 128 ≤ (nb bs i).toNat → fitB bs i s = false := fun h => fit_high hb h s hs
  simp only [signs, List.mem_cons, List.not_mem_nil, or_false] at hs
  rcases hs with rfl | rfl | rfl | rfl | rfl | rfl | rfl | rfl | rfl | rfl | rfl | rfl | rfl | rfl | rfl
  · cases hl with
    | one h => exact (fits_57 w v L hv i hi _ h).mono fun _ _ q => ret_eq q (decide_eq_decide.2 (by constructor <;> intro x <;> omega))
    | many h k r e hz => exact (fitsM_57 w v L hv i hi h).mono fun _ _ q => ret_eq q (hno k).symm
  · cases hl with
    | one h => exact (fits_50 w v L hv i hi _ h).mono fun _ _ q => ret_eq q (decide_eq_decide.2 (by constructor <;> intro x <;> omega))
    | many h k r e hz => exact (fitsM_50 w v L hv i hi h).mono fun _ _ q => ret_eq q (hno k).symm
  · cases hl with
    | one h => exact (fits_53 w v L hv i hi _ h).mono fun _ _ q => ret_eq q (decide_eq_decide.2 (by constructor <;> intro x <;> omega))
    | many h k r e hz => exact (fitsM_53 w v L hv i hi h).mono fun _ _ q => ret_eq q (hno k).symm
  · cases hl with
    | one h =>
      obtain ⟨j, rfl⟩ : ∃ j, i = j + 1 := ⟨i - 1, by have := h51 rfl; omega⟩
      obtain ⟨g1, g2⟩ := F.pre j (by omega)
      refine (fits_51 w v L hv j hi (by omega) _ _ h g2 _ rfl).mono fun _ _ q => ret_eq q ?_
      show _ = (if nb bs (j + 1 - 1) = 50 then digB (nb bs (j + 1)) 4 else digB (nb bs (j + 1)) 10)
      rw [Nat.add_sub_cancel]
      by_cases h5 : nb bs j = 50
      · rw [if_pos h5]
        exact decide_eq_decide.2 ⟨fun x => x.2.2.elim (fun y => by omega) (fun y => absurd h5 y), fun x => ⟨by omega, by omega, Or.inl (by omega)⟩⟩
      · rw [if_neg h5]
        exact decide_eq_decide.2 ⟨fun x => by omega, fun x => ⟨by omega, by omega, Or.inr h5⟩⟩
    | many h k r e hz => exact (fitsM_51 w v L hv i hi h).mono fun _ _ q => ret_eq q (hno k).symm
  · exact (fits_77 w v L bs hv i _ hi hP hB hz hil _ (hit_cat F hi hin hP monthsL 12 mon_lo)).mono fun _ _ q => q
  · exact (fits_87 w v L bs hv i _ hi hP hB hz hil _ (hit_cat F hi hin hP weeksL 7 wee_lo)).mono fun _ _ q => q
  · exact (fits_71 w v L hv i hi hz _ (low_sign F hi hin 103 (by decide))).mono fun _ _ q => q
  · exact (fits_109 w v L hv i hi hz _ (low_sign F hi hin 109 (by decide))).mono fun _ _ q => q
  · exact (fits_84 w v L hv i hi hz _ (low_sign F hi hin 116 (by decide))).mono fun _ _ q => q
  · exact (fits_85 w v L hv i hi hz _ (low_sign F hi hin 117 (by decide))).mono fun _ _ q => q
  · exact (fits_44 w v L hv i hi _ (own_sign F hi hin 44 (by decide))).mono fun _ _ q => q
  · exact (fits_32 w v L hv i hi _ (own_sign F hi hin 32 (by decide))).mono fun _ _ q => q
  · exact (fits_58 w v L hv i hi _ (own_sign F hi hin 58 (by decide))).mono fun _ _ q => q
  · exact (fits_43 w v L hv i hi _ (own_sign F hi hin 43 (by decide))).mono fun _ _ q => q
  · exact (fits_45 w v L hv i hi _ (own_sign F hi hin 45 (by decide))).mono fun _ _ q => q

/-- A pattern of the document's signs. -/
structure Pat (P : List UInt8) : Prop where
  sg : ∀ i (h : i < P.length), P[i] ∈ signs ∧ (P[i] = 51 → 1 ≤ i)
  le : P.length ≤ 100
theorem mF_n {t : ByteArray} {bs : List UInt8} {L : List ByteArray} {n : Nat} (F : LtrF t bs L n) {P : List UInt8} (hP : Pat P) : mF bs P ≤ n := by
  have hA := mF_at bs P
  refine Nat.le_of_not_lt fun h => ?_
  have h1 := hA.fit n h
  have hb : n < bs.length := by have := hA.bl; omega
  have hp : n < P.length := by have := hA.pl; omega
  rw [nb_lt hp, fit_high hb (F.end2 hb).2 _ (hP.sg n hp).1] at h1
  exact Bool.noConfusion h1
theorem match_pat (w : World) (v : Value) (t : ByteArray) (bs : List UInt8) (L : List ByteArray) (n : Nat) (F : LtrF t bs L n) (hv : Ltr w v L) (P : List UInt8) (hP : Pat P) :
    Calls Tryd.prog 70 #[v, .string ⟨P.toArray⟩] w fun e w' => e = .returned (.int .i64 (mF bs P : Int)) ∧ Below w.heap.size w w' := by
  have hA := mF_at bs P
  have hn := mF_n F hP
  have hsz : (⟨P.toArray⟩ : ByteArray).size = P.length := by simp [ByteArray.size]
  have hle := hP.le
  have hnl : n ≤ L.length := by
    rcases (show n = bs.length ∨ n < bs.length by have := F.le; omega) with e | e
    · rw [F.end1 e]; exact Nat.le_refl _
    · exact Nat.le_of_lt (F.end2 e).1
  refine match_any w v L hv ⟨P.toArray⟩ (mF bs P) (by rw [hsz]; exact hA.pl) (by omega) (by omega) ?_
  intro i h hiL hip W hbW
  have hi' : i < P.length := by rw [← hsz]; exact h
  have e1 : (⟨P.toArray⟩ : ByteArray)[i] = P[i] := rfl
  rw [e1]
  refine (fits_all W v t bs L n F (hv.below hbW) i hiL (by omega) (by omega) P[i] (hP.sg i hi').1 (hP.sg i hi').2).mono fun _ _ q => ret_of q ?_
  rw [← nb_lt hi']
  by_cases e : i < mF bs P
  · rw [decide_eq_true e]; exact hA.fit i e
  · have ei : i = mF bs P := by omega
    rw [decide_eq_false e, ei]
    exact hA.stop (by omega) (by have := (F.at_ i hiL (by omega)).1; omega)
end Go.Proofs.YtkkmjadkagpihaaDoor
namespace Go.Proofs.YtkkmjadkagpihaaDoor
open Go Go.RowKit

def toB (P : List UInt8) : ByteArray := ⟨P.toArray⟩
theorem toB_size (P : List UInt8) : (toB P).size = P.length := by simp [toB, ByteArray.size]
theorem maxM_le (m : Nat → Nat) (p : Nat) : ∀ N, (∀ j, j < N → m j ≤ p) → maxM m N ≤ p
  | 0, _ => Nat.zero_le _
  | N + 1, h => Nat.max_le.2 ⟨maxM_le m p N (fun j hj => h j (by omega)), h N (by omega)⟩
theorem le_maxM (m : Nat → Nat) : ∀ N j, j < N → m j ≤ maxM m N
  | 0, j, h => absurd h (Nat.not_lt_zero j)
  | N + 1, j, h => by
    by_cases e : j = N
    · subst e; exact Nat.le_max_right _ _
    · exact Nat.le_trans (le_maxM m N j (by omega)) (Nat.le_max_left _ _)
theorem far_len {t : ByteArray} {bs : List UInt8} {L : List ByteArray} {n : Nat} (F : LtrF t bs L n) {p : Nat} (h : p ≤ n) : p = L.length ↔ p = bs.length := by
  have hle := F.le
  rcases (show n = bs.length ∨ n < bs.length by omega) with e | e
  · rw [F.end1 e, e]
  · have := (F.end2 e).1
    constructor <;> intro x <;> omega
theorem best_own (w : World) (v v2 : Value) (t : ByteArray) (bs : List UInt8) (L : List ByteArray) (n : Nat) (F : LtrF t bs L n) (hv : Ltr w v L) (PL : List (List UInt8)) (hPL : ∀ k (h : k < PL.length), Pat PL[k]) (hv2 : Ltr w v2 (PL.map toB)) (h100 : PL.length ≤ 100)
    (k0 : Nat) (hk0 : k0 < PL.length) (p : Nat) (hp : At bs PL[k0] p) (ho : ∀ j (h : j < PL.length), j ≠ k0 → mF bs PL[j] ≤ p ∧ mF bs PL[j] < (PL[j]).length) (I : Int) (hI : (if p = (PL[k0]).length ∧ p = bs.length then (k0 : Int) else -1) = I) :
    Calls Tryd.prog 45 #[v, v2] w fun e w' => e = .returned (.tuple #[.int .i64 I, .int .i64 (p : Int)]) ∧ Below w.heap.size w w' := by
  have hpn : p ≤ n := by rw [hp.uniq (mF_at bs PL[k0])]; exact mF_n F (hPL k0 hk0)
  have hlen : (PL.map toB).length = PL.length := List.length_map ..
  have hgd : ∀ k (h : k < PL.length), PL.getD k [] = PL[k] := fun k h => by rw [List.getD_eq_getElem?_getD, List.getElem?_eq_getElem h]; rfl
  refine (best_any w v v2 L (PL.map toB) hv hv2 (by omega) (by omega) (fun k => mF bs (PL.getD k [])) (fun k => ?_) (fun i h W hbW => ?_)).mono ?_
  · by_cases h : k < PL.length
    · show mF bs (PL.getD k []) ≤ 1000
      rw [hgd k h]
      have := (hPL k h).le
      have := (mF_at bs PL[k]).pl
      omega
    · show mF bs (PL.getD k []) ≤ 1000
      rw [List.getD_eq_getElem?_getD, List.getElem?_eq_none (by omega)]
      have := (mF_at bs []).pl
      show mF bs [] ≤ 1000
      simp at this; omega
  · have h' : i < PL.length := by omega
    show Calls _ _ #[v, .string (PL.map toB)[i]] W fun e w' => e = .returned (.int .i64 (mF bs (PL.getD i []) : Int)) ∧ _
    rw [List.getElem_map, hgd i h']
    exact match_pat W v t bs L n F (hv.below hbW) PL[i] (hPL i h')
  · rintro e w' ⟨I', F', rfl, hR, hb⟩
    have hm0 : mF bs (PL.getD k0 []) = p := by rw [hgd k0 hk0]; exact ((hp.uniq (mF_at bs PL[k0]))).symm
    have hno : ∀ j, j < PL.length → j ≠ k0 → ¬ Full L (PL.map toB) (fun k => mF bs (PL.getD k [])) j := by
      rintro j hj hne ⟨_, h2, h3⟩
      have h3' : mF bs (PL.getD j []) = ((PL.map toB)[j]).size := h3
      rw [List.getElem_map, toB_size, hgd j hj] at h3'
      have := (ho j hj hne).2
      omega
    have hself : Full L (PL.map toB) (fun k => mF bs (PL.getD k [])) k0 ↔ (p = (PL[k0]).length ∧ p = bs.length) := by
      constructor
      · rintro ⟨h1, h2, h3⟩
        have h1' : mF bs (PL.getD k0 []) = L.length := h1
        have h3' : mF bs (PL.getD k0 []) = ((PL.map toB)[k0]).size := h3
        rw [List.getElem_map, toB_size] at h3'
        rw [hm0] at h1' h3'
        exact ⟨h3', (far_len F hpn).1 h1'⟩
      · rintro ⟨h1, h2⟩
        refine ⟨?_, by omega, ?_⟩
        · show mF bs (PL.getD k0 []) = L.length
          rw [hm0]; exact (far_len F hpn).2 h2
        · show mF bs (PL.getD k0 []) = ((PL.map toB)[k0]).size
          rw [List.getElem_map, toB_size, hm0]; exact h1
    refine ⟨?_, hb⟩
    rcases hR with ⟨k, hk, hf, _, rfl, rfl⟩ | ⟨hnone, rfl, rfl⟩
    · have ek : k = k0 := by
        by_cases e : k = k0
        · exact e
        · exact absurd hf (hno k (by omega) e)
      subst ek
      rw [← hI, if_pos (hself.1 hf)]
      show Ending.returned (.tuple #[_, .int .i64 ((mF bs (PL.getD k []) : Nat) : Int)]) = _
      rw [hm0]
    · rw [← hI, if_neg (fun h => hnone k0 (by omega) (hself.2 h))]
      have : maxM (fun k => mF bs (PL.getD k [])) (PL.map toB).length = p := by
        apply Nat.le_antisymm
        · refine maxM_le _ _ _ fun j hj => ?_
          have hj' : j < PL.length := by omega
          show mF bs (PL.getD j []) ≤ p
          by_cases e : j = k0
          · subst e; rw [hm0]; exact Nat.le_refl _
          · rw [hgd j hj']; exact (ho j hj' e).1
        · have := le_maxM (fun k => mF bs (PL.getD k [])) (PL.map toB).length k0 (by omega)
          have h2 : mF bs (PL.getD k0 []) ≤ maxM (fun k => mF bs (PL.getD k [])) (PL.map toB).length := this
          rwa [hm0] at h2
      rw [this]
def patOK (P : List UInt8) : Bool := P.all (fun s => decide (s ∈ signs)) && decide (P.length ≤ 100) && decide (nb P 0 ≠ 51)
theorem pat_ok {P : List UInt8} (h : patOK P = true) : Pat P := by
  unfold patOK at h
  simp only [Bool.and_eq_true, decide_eq_true_eq] at h
  refine ⟨fun i hi => ⟨of_decide_eq_true (List.all_eq_true.1 h.1.1 _ (List.getElem_mem hi)), fun e => ?_⟩, h.1.2⟩
  by_cases e0 : i = 0
  · subst e0
    exact absurd (by rw [nb_lt hi]; exact e) h.2
  · omega
theorem patS_ok : ∀ n, n < 32 → patOK (patS n) = true := by decide +kernel
theorem patS_of {w d c z : Nat} (hw : w < 2) (hd : d < 2) (hc : c < 2) (hz : z < 4) : patS (16 * w + 8 * d + 4 * c + z) = patQ w d c z := by
  unfold patS
  congr 1 <;> omega
theorem patS_in (n : Nat) (h : n < 32) : ∃ w d c z, w < 2 ∧ d < 2 ∧ c < 2 ∧ z < 4 ∧ n = 16 * w + 8 * d + 4 * c + z := ⟨n / 16, n / 8 % 2, n / 4 % 2, n % 4, by omega, by omega, by omega, by omega, by omega⟩
def parsePL : List (List UInt8) := (List.range 32).map patS
theorem parsePL_len : parsePL.length = 32 := by simp [parsePL]
theorem parsePL_get (k : Nat) (h : k < parsePL.length) : parsePL[k] = patS k := by simp [parsePL]
theorem parsePL_row {w : World} {B : Nat} {v : Value} (h : w.ownsRow B 9 1 v 32 (patsL 32)) : Ltr w v (parsePL.map toB) := by
  refine Ltr.of (B := B) ?_
  have e1 : (parsePL.map toB).map Value.string = patsL 32 := by
    unfold parsePL patsL
    rw [List.map_map, List.map_map]
    rfl
  rw [e1, List.length_map, parsePL_len]
  exact h
/-- The document's best of Parse's patterns. -/
theorem best_parse (W : World) (v v2 : Value) (t : ByteArray) (bs : List UInt8) (L : List ByteArray) (n : Nat) (F : LtrF t bs L n) (hv : Ltr W v L) (hv2 : Ltr W v2 (parsePL.map toB)) (s : Stp) (w d c z : Nat) (H : ParseP bs s w d c z) (I : Int)
    (hI : (if s.at_ = (patQ w d c z).length ∧ s.at_ = bs.length then ((16 * w + 8 * d + 4 * c + z : Nat) : Int) else -1) = I) :
    Calls Tryd.prog 45 #[v, v2] W fun e w' => e = .returned (.tuple #[.int .i64 I, .int .i64 (s.at_ : Int)]) ∧ Below W.heap.size W w' := by
  have hlt : 16 * w + 8 * d + 4 * c + z < 32 := by have := H.w2; have := H.d2; have := H.c2; have := H.z4; omega
  have e0 := patS_of H.w2 H.d2 H.c2 H.z4
  refine best_own W v v2 t bs L n F hv parsePL (fun k h => by rw [parsePL_get]; exact pat_ok (patS_ok k (by rw [parsePL_len] at h; exact h))) hv2 (by rw [parsePL_len]; omega) _ (by rw [parsePL_len]; exact hlt) s.at_ (by rw [parsePL_get, e0]; exact H.run.at_) (fun j h hne => ?_) I (by rw [parsePL_get, e0]; exact hI)
  rw [parsePL_len] at h
  obtain ⟨w', d', c', z', hw, hd, hc, hz, rfl⟩ := patS_in j h
  rw [parsePL_get, patS_of hw hd hc hz]
  exact H.other w' d' c' z' hw hd hc hz (fun ⟨a, b, cc, dd⟩ => hne (by rw [a, b, cc, dd]))
end Go.Proofs.YtkkmjadkagpihaaDoor
namespace Go.Proofs.YtkkmjadkagpihaaDoor
open Go Go.RowKit

/-- What a reading that is not whole tells. -/
theorem stop_no {t : ByteArray} {bs : List UInt8} {L : List ByteArray} {n : Nat} (hbs : t.data.toList = bs) (F : LtrF t bs L n) {P : List UInt8} {s : Stp} (hR : Run bs P s.at_ s.stop) (hn : s.at_ ≤ n) (hno : ¬ (s.at_ = P.length ∧ s.at_ = bs.length)) :
    stopE t s = (if s.at_ = L.length then 3 else 4) ∧ stopE t s ≠ 0 := by
  have hsz := size_toList t
  rw [hbs] at hsz
  have hf := far_len F hn
  have hbl := hR.at_.bl
  have key : stopE t s = (if s.at_ = L.length then 3 else 4) := by
    unfold stopE
    by_cases h : s.at_ < t.size
    · rw [if_pos h, if_neg (fun e => by have := hf.1 e; omega)]
    · rw [if_neg h, if_pos (hf.2 (by omega)), hR.st_, if_neg (fun e => hno ⟨e, by omega⟩), if_neg (by omega)]
  refine ⟨key, ?_⟩
  rw [key]
  split <;> decide
theorem stop_yes {t : ByteArray} {bs : List UInt8} (hbs : t.data.toList = bs) {P : List UInt8} {s : Stp} (hR : Run bs P s.at_ s.stop) (h1 : s.at_ = P.length) (h2 : s.at_ = bs.length) : stopE t s = 0 := by
  have hsz := size_toList t
  rw [hbs] at hsz
  unfold stopE
  rw [if_neg (by omega), hR.st_, if_pos h1]

/-- A moment's cell ahead of a walk. -/
structure TK (w W0 w1 : World) : Prop where
  b : Below w.heap.size w w1
  b0 : Below W0.heap.size W0 w1
  row : w1.heap[w.heap.size]? = some (.cells #[.int .i64 0, .int .i64 0] 35 (0, 0))
theorem TK.new (w : World) : TK w (w.alloc (.cells #[.int .i64 0, .int .i64 0] 35)) (w.alloc (.cells #[.int .i64 0, .int .i64 0] 35)) :=
  ⟨bal (Below.refl _ _) _, Below.refl _ _, heap_alloc_new w _⟩
theorem TK.go {w W0 w1 w2 : World} (h : TK w W0 w1) (hb : Below w1.heap.size w1 w2) : TK w W0 w2 :=
  ⟨h.b.trans (hb.mono h.b.size), h.b0.trans (hb.mono h.b0.size), (hb.block _ (Array.getElem?_eq_some_iff.1 h.row).1).trans h.row⟩
theorem TK.c0 {w W0 w1 : World} (h : TK w W0 w1) : w1.cell? ⟨w.heap.size, 0, none⟩ = some (.int .i64 0) := cell_of_row _ _ _ _ _ _ h.row
theorem TK.c1 {w W0 w1 : World} (h : TK w W0 w1) : w1.cell? ⟨w.heap.size, 1, none⟩ = some (.int .i64 0) := cell_of_row _ _ _ _ _ _ h.row
theorem TK.f0 {w W0 w1 : World} (h : TK w W0 w1) : w1.frozen? ⟨w.heap.size, 0, none⟩ = false := frozen_of_row _ _ _ _ _ h.row
theorem TK.f1 {w W0 w1 : World} (h : TK w W0 w1) : w1.frozen? ⟨w.heap.size, 1, none⟩ = false := frozen_of_row _ _ _ _ _ h.row

set_option maxRecDepth 100000 in
theorem refParse_no (t : ByteArray) (w : World) (hT : Tabs w) (hs : t.size ≤ 4398046511104) (s : Stp) (x1 x2 x3 x4 : Nat) (H : ParseP t.data.toList s x1 x2 x3 x4) (hno : ¬ (s.at_ = (patQ x1 x2 x3 x4).length ∧ s.at_ = t.data.toList.length)) :
    Calls Tryd.prog 19 #[.string t] w fun e w' => e = .returned (momV (momR t s)) ∧ Below w.heap.size w w' := by
  have F := ltrs_fact t
  have hn : s.at_ ≤ nAF t.data.toList := by
    rw [H.run.at_.uniq (mF_at _ _)]
    have h := patS_ok (16 * x1 + 8 * x2 + 4 * x3 + x4) (by have := H.w2; have := H.d2; have := H.c2; have := H.z4; omega)
    rw [patS_of H.w2 H.d2 H.c2 H.z4] at h
    exact mF_n F (pat_ok h)
  obtain ⟨e1, e2⟩ := stop_no rfl F H.run hn hno
  have hm : momR t s = (0, 0, (s.at_ : Int), if s.at_ = (ltrs t).length then 3 else 4) := by
    unfold momR
    rw [if_pos e2, e1]
  rw [hm]
  have HB := Lib.hid (fun (W : World) (v v2 : Value) (hv : Ltr W v (ltrs t)) (hv2 : Ltr W v2 (parsePL.map toB)) => best_parse W v v2 t _ _ _ F hv hv2 s x1 x2 x3 x4 H (-1) (if_neg hno))
  obtain ⟨p, hp⟩ : ∃ p, s.at_ = p := ⟨_, rfl⟩
  rw [hp] at HB ⊢
  have HWr := Lib.hid (fun (W : World) (v : Value) (hv : Ltr W v (ltrs t)) => wrong_any W v (ltrs t) hv p)
  generalize (if p = (ltrs t).length then (3 : Int) else 4) = er at *
  clear hm e1 e2 hn hno H F hp s
  have HL := Lib.hid (fun (W : World) (hT : Tabs W) => refLetters t W hT hs)
  generalize hLL : ltrs t = L at *
  clear hLL hs
  unfold momV timeV
  obtain ⟨W0, hW⟩ : ∃ W0, w.alloc (.cells #[.int .i64 0, .int .i64 0] 35) = W0 := ⟨_, rfl⟩
  have K0 := Lib.hid (TK.new w)
  rw [hW] at K0
  have hT0 := Lib.hid (hT.below K0.out.b (Nat.le_refl _))
  have HW := Lib.hid hW
  clear hW hT
  go_enter Tryd.func19, Tryd.ntmps19
  go_wp2_with fail
  rw [HW.out]
  refine (HL.out _ hT0.out).mono ?_
  rintro e w1 ⟨v, rfl, hv, hb1⟩
  have K1 := Lib.hid (K0.out.go hb1)
  have HV1 := Lib.hid hv
  clear K0 hv hb1
  go_wp2_with fail
  refine (patterns_any _).mono ?_
  rintro e w2 ⟨v2, rfl, hv2, hb2⟩
  have K2 := Lib.hid (K1.out.go hb2)
  have HV2 := Lib.hid (HV1.out.below hb2)
  have HP2 := Lib.hid (parsePL_row hv2)
  clear K1 HV1 hv2 hb2
  go_wp2_with fail
  refine (HB.out _ _ _ HV2.out HP2.out).mono ?_
  rintro e w3 ⟨rfl, hb3⟩
  have K3 := Lib.hid (K2.out.go hb3)
  have HV3 := Lib.hid (HV2.out.below hb3)
  clear K2 HV2 HP2 hb3
  go_wp2_with fail
  refine (HWr.out _ _ HV3.out).mono ?_
  rintro e w4 ⟨rfl, rfl⟩
  have k0 := K3.out.c0
  have k1 := K3.out.c1
  have f0 := K3.out.f0
  have f1 := K3.out.f1
  go_wp2
  exact bodyPost_ret (v := .tuple #[.agg #[.int .i64 0, .int .i64 0], .int .i64 (p : Int), .int .i64 er]) (by simp [results, Tryd.results19, go_sem, k0, k1]) rfl ⟨rfl, (K3.out.b.setCell (Nat.le_refl _) _).setCell (Nat.le_refl _) _⟩
end Go.Proofs.YtkkmjadkagpihaaDoor
namespace Go.Proofs.YtkkmjadkagpihaaDoor
open Go Go.RowKit

theorem sg_of {t : ByteArray} {bs : List UInt8} {L : List ByteArray} {n : Nat} (F : LtrF t bs L n) (h : n = bs.length) : Sg L bs := by
  have hl := F.end1 h
  unfold Sg
  apply List.ext_getElem
  · rw [List.length_map, hl, h]
  · intro i h1 h2
    obtain ⟨_, e⟩ := F.pre i (by omega)
    rw [e, List.getElem_map, nb_lt (by omega)]
theorem Sg.cell {L : List ByteArray} {bs : List UInt8} (h : Sg L bs) (i : Nat) (hi : i < L.length) : L[i] = ⟨#[nb bs i]⟩ := by
  obtain ⟨hb, e⟩ := h.get i hi
  rw [e, nb_lt hb]

/-- Each call that a whole match makes, over whatever world came since. -/
structure YK (Wb : World) (v : Value) (L : List ByteArray) (c : Nat) (a k e e4 e9 e12 e15 ez : Nat) (WK D MO Y H MI S Z : Int) (wkly : Prop) : Prop where
  weeks : wkly → ∀ wx g, Below Wb.heap.size Wb wx → Names weeksL 7 g wx → Calls Tryd.prog 47 #[v, .int .i64 0, .slice (some ⟨g, 0, none⟩) 7 7] wx fun e w' => e = .returned (.int .i64 WK) ∧ Below wx.heap.size wx w'
  day : ∀ wx, Below Wb.heap.size Wb wx → Calls Tryd.prog 49 #[v, .int .i64 (a : Int), .int .i64 (k : Int)] wx fun e w' => e = .returned (.int .i64 D) ∧ wx = w'
  mon : ∀ wx g, Below Wb.heap.size Wb wx → Names monthsL 12 g wx → Calls Tryd.prog 47 #[v, .int .i64 (e : Int), .slice (some ⟨g, 0, none⟩) 12 12] wx fun e w' => e = .returned (.int .i64 MO) ∧ Below wx.heap.size wx w'
  year : ∀ wx, Below Wb.heap.size Wb wx → Calls Tryd.prog 49 #[v, .int .i64 (e4 : Int), .int .i64 4] wx fun e w' => e = .returned (.int .i64 Y) ∧ wx = w'
  hour : ∀ wx, Below Wb.heap.size Wb wx → Calls Tryd.prog 49 #[v, .int .i64 (e9 : Int), .int .i64 2] wx fun e w' => e = .returned (.int .i64 H) ∧ wx = w'
  min : ∀ wx, Below Wb.heap.size Wb wx → Calls Tryd.prog 49 #[v, .int .i64 (e12 : Int), .int .i64 2] wx fun e w' => e = .returned (.int .i64 MI) ∧ wx = w'
  sec : c = 1 → ∀ wx, Below Wb.heap.size Wb wx → Calls Tryd.prog 49 #[v, .int .i64 (e15 : Int), .int .i64 2] wx fun e w' => e = .returned (.int .i64 S) ∧ wx = w'
  off : ∀ wx, Ltr wx v L → Calls Tryd.prog 52 #[v, .int .i64 (ez : Int)] wx fun e w' => e = .returned (.int .i64 Z) ∧ wx = w'

theorem idx_call {t : ByteArray} {bs : List UInt8} {L : List ByteArray} {Wb wx : World} {v : Value} (hv : Ltr Wb v L) (hS : Sg L bs) (l : List UInt8) (n g : Nat) (hb : Below Wb.heap.size Wb wx) (hN : Names l n g wx) (i : Nat) (hi : i + 3 ≤ bs.length) (hl : i ≤ 1000) (hn0 : 0 < n) (hn : n ≤ 100) (R : Int) (hR : idxF l (low [nb bs i, nb bs (i + 1), nb bs (i + 2)]) 0 n = R) (x : Int) (hx : x = (i : Int)) :
    Calls Tryd.prog 47 #[v, .int .i64 x, .slice (some ⟨g, 0, none⟩) n n] wx fun e w' => e = .returned (.int .i64 R) ∧ Below wx.heap.size wx w' :=
  index_any wx v _ L bs l n (hv.below hb) hS (names_ltr hN) i _ _ _ (by omega) (nb_lt (by omega)).symm (nb_lt (by omega)).symm (nb_lt (by omega)).symm hl hn0 hn x hx R hR
theorem val_call {bs : List UInt8} {L : List ByteArray} {Wb wx : World} {v : Value} (hv : Ltr Wb v L) (hS : Sg L bs) (hb : Below Wb.heap.size Wb wx) (i n : Nat) (hd : Dig bs i n) (hn : n ≤ 4) (h0 : 0 < L.length) (hl : i ≤ 1000) (x y : Int) (hx : x = (i : Int)) (hy : y = (n : Int)) :
    Calls Tryd.prog 49 #[v, .int .i64 x, .int .i64 y] wx fun e w' => e = .returned (.int .i64 (valR bs i n)) ∧ wx = w' :=
  value_any wx v L bs (hv.below hb) hS i n hd hn h0 (by omega) _ rfl x y hx hy
theorem off_call {bs : List UInt8} {L : List ByteArray} {Wb wx : World} {v : Value} (hv : Ltr Wb v L) (hS : Sg L bs) (hb : Below Wb.heap.size Wb wx) (i z : Nat) (Z : Int) (hz : ZoneR bs i z Z) (hl : i ≤ 1000) (x : Int) (hx : x = (i : Int)) :
    Calls Tryd.prog 52 #[v, .int .i64 x] wx fun e w' => e = .returned (.int .i64 Z) ∧ wx = w' := by
  have := offset_any wx v L bs (hv.below hb) hS i (nb bs i) hz.lt (nb_lt hz.lt).symm hz.cs hl x hx
  rw [hz.off] at this
  exact this
theorem yk_of {t : ByteArray} {bs : List UInt8} {L : List ByteArray} {Wb : World} {v : Value} (hv : Ltr Wb v L) (hS : Sg L bs) {s : Stp} {w d c z : Nat} (hw : w < 2) (hd : d < 2) (hc : c < 2) (hl : bs.length ≤ 900) (D : FullR bs s w d c z) :
    YK Wb v L c (5 * w) (d + 1) (5 * w + d + 2) (5 * w + d + 6) (5 * w + d + 11) (5 * w + d + 14) (5 * w + d + 17) (5 * w + d + 17 + 3 * c) s.week s.day (s.month - 1) s.year (valR bs (5 * w + d + 11) 2) (valR bs (5 * w + d + 14) 2) (valR bs (5 * w + d + 17) 2) s.zone (w = 1) := by
  have h0 : 0 < L.length := by rw [hS.len]; have := D.month.1; omega
  refine ⟨fun h wx g hb hN => ?_, fun wx hb => ?_, fun wx g hb hN => ?_, fun wx hb => ?_, fun wx hb => ?_, fun wx hb => ?_, fun h wx hb => ?_, fun wx hb => ?_⟩
  · obtain ⟨a1, a2, _⟩ := D.week h
    exact idx_call (t := t) hv hS weeksL 7 g hb hN 0 (by omega) (by omega) (by omega) (by omega) _ a2 _ rfl
  · rw [D.day.2]; exact val_call hv hS hb _ _ D.day.1 (by omega) h0 (by omega) _ _ rfl rfl
  · have hm : idxF monthsL (low [nb bs (5 * w + d + 2), nb bs (5 * w + d + 2 + 1), nb bs (5 * w + d + 2 + 2)]) 0 12 + 1 = s.month := D.month.2
    exact idx_call (t := t) hv hS monthsL 12 g hb hN _ (by have := D.month.1; omega) (by omega) (by omega) (by omega) _ (by omega) _ rfl
  · rw [D.year.2]; exact val_call hv hS hb _ _ D.year.1 (by omega) h0 (by omega) _ _ rfl rfl
  · exact val_call hv hS hb _ _ D.hour (by omega) h0 (by omega) _ _ rfl rfl
  · exact val_call hv hS hb _ _ D.min (by omega) h0 (by omega) _ _ rfl rfl
  · exact val_call hv hS hb _ _ (D.sec.2 h) (by omega) h0 (by omega) _ _ rfl rfl
  · exact off_call hb hS (Below.refl _ _) _ z _ D.zone (by omega) _ rfl

/-- A day in its block. -/
def DayAt (w : World) (b : Nat) (y m d : Int) : Prop := w.heap[b]? = some (.cells #[.int .i64 y, .int .i64 m, .int .i64 d] 23 (0, 0))
theorem DayAt.lt {w : World} {b : Nat} {y m d : Int} (h : DayAt w b y m d) : b < w.heap.size := (Array.getElem?_eq_some_iff.1 h).1
theorem DayAt.below {w w' : World} {b : Nat} {y m d : Int} (h : DayAt w b y m d) (hb : Below w.heap.size w w') : DayAt w' b y m d := (hb.block b h.lt).trans h
theorem DayAt.c0 {w : World} {b : Nat} {y m d : Int} (h : DayAt w b y m d) : w.cell? ⟨b, 0, none⟩ = some (.int .i64 y) := cell_of_row _ _ _ _ _ _ h
theorem DayAt.c1 {w : World} {b : Nat} {y m d : Int} (h : DayAt w b y m d) : w.cell? ⟨b, 1, none⟩ = some (.int .i64 m) := cell_of_row _ _ _ _ _ _ h
theorem DayAt.c2 {w : World} {b : Nat} {y m d : Int} (h : DayAt w b y m d) : w.cell? ⟨b, 2, none⟩ = some (.int .i64 d) := cell_of_row _ _ _ _ _ _ h
theorem DayAt.f {w : World} {b : Nat} {y m d : Int} (h : DayAt w b y m d) (j : Nat) : w.frozen? ⟨b, j, none⟩ = false := frozen_of_row _ _ _ _ _ h
theorem DayAt.set0 {w : World} {b : Nat} {y m d : Int} (h : DayAt w b y m d) (x : Int) : DayAt (w.setCell ⟨b, 0, none⟩ (.int .i64 x)) b x m d := by
  unfold DayAt at *
  rw [heap_setCell_same w b 0 _ _ _ h]; rfl
theorem DayAt.set1 {w : World} {b : Nat} {y m d : Int} (h : DayAt w b y m d) (x : Int) : DayAt (w.setCell ⟨b, 1, none⟩ (.int .i64 x)) b y x d := by
  unfold DayAt at *
  rw [heap_setCell_same w b 1 _ _ _ h]; rfl
theorem day_idx : ∀ n, n < 32 → (nb (patS n) 0 = if n / 16 % 2 = 1 then 87 else 57) ∧ (nb (patS n) (5 * (n / 16 % 2) + 1) = if n / 8 % 2 = 1 then 57 else 32) ∧ 7 ≤ (patS n).length ∧ (patS n).length ≤ 900 := by decide +kernel
theorem toB_get (P : List UInt8) (i : Nat) (h : i < (toB P).size) : ((toB P)[i]'h).toNat = (nb P i).toNat := by
  have h' : i < P.length := by rw [← toB_size]; exact h
  rw [nb_lt h']
  rfl
end Go.Proofs.YtkkmjadkagpihaaDoor
