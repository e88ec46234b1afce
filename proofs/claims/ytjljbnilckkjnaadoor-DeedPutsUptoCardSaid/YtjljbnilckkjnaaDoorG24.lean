/- Deed: TakeUser, checkEntry, putBox, PutUser. -/
import Derived.Test.YtjljbnilckkjnaaDoorG19
namespace Go.Proofs.YtjljbnilckkjnaaDoor
open Go Go.RowKit

theorem LsAt.lets {B : Nat} {w : World} {v : Value} {ps : List LV} (h : LsAt B w v ps) : Lets w v ps := by
  refine ⟨owns_shape h.own, fun hne => ?_, fun p hp => (h.rows p hp).1.z⟩
  have ho := h.own
  rcases ho.2 with ⟨_, h0⟩ | ⟨g, cap, cur, rfl, _, hg, _⟩
  · exact absurd (List.eq_nil_of_length_eq_zero h0) hne
  · refine ⟨g, 0, cap, rfl, (Array.getElem?_eq_some_iff.1 hg).1, fun j u hu => ?_⟩
    have := World.ownsRow.cells ho (g := g) rfl j u hu
    rwa [addr_plus] at this
theorem BsAt.boxes {B : Nat} {w : World} {v : Value} {bs : List Bx} (h : BsAt B w v bs) (hl : ∀ b ∈ bs, b.ls.length ≤ 4294967295) : Boxes w v bs := by
  have ho := h.own
  refine ⟨by obtain ⟨a, c, e, _⟩ := owns_shape ho; exact ⟨a, c, e⟩, fun hne => ?_, fun b hb => ⟨(h.rows b hb).lets, hl b hb⟩⟩
  rcases ho.2 with ⟨_, h0⟩ | ⟨g, cap, cur, rfl, _, hg, _⟩
  · exact absurd (List.eq_nil_of_length_eq_zero h0) hne
  · have hat : ∀ j u, (bs.flatMap cellsBx)[j]? = some u → w.cell? ⟨g, 0 + j, none⟩ = some u := fun j u hu => by
      have := World.ownsRow.cells ho (g := g) rfl j u hu
      rwa [addr_plus] at this
    refine ⟨g, 0, cap, rfl, (Array.getElem?_eq_some_iff.1 hg).1, fun i b hi => ⟨?_, ?_, ?_, ?_⟩⟩
    · exact hat _ _ (flat_at cellsBx 4 bs i (fun _ _ => rfl) b hi 0 _ rfl)
    · rw [Nat.add_assoc]; exact hat _ _ (flat_at cellsBx 4 bs i (fun _ _ => rfl) b hi 1 _ rfl)
    · rw [Nat.add_assoc]; exact hat _ _ (flat_at cellsBx 4 bs i (fun _ _ => rfl) b hi 2 _ rfl)
    · rw [Nat.add_assoc]; exact hat _ _ (flat_at cellsBx 4 bs i (fun _ _ => rfl) b hi 3 _ rfl)
theorem letsP_length : ∀ (n : Nat) {l l' : List UInt8} {acc x : List Letr}, letsP n l acc = some (x, l') → x.length = acc.length + n
  | 0, l, l', acc, x, h => by
    unfold letsP at h
    simp only [Option.some.injEq, Prod.mk.injEq] at h
    obtain ⟨rfl, _⟩ := h
    rfl
  | n + 1, l, l', acc, x, h => by
    unfold letsP at h
    obtain ⟨⟨y, l1⟩, h1, h2⟩ := Option.bind_eq_some_iff.1 h
    have := letsP_length n h2
    simp only [List.length_append, List.length_singleton] at this
    omega
theorem boxP_fit {l l' : List UInt8} {x : BxD} (h : boxP l = some (x, l')) : x.ls.length ≤ 255 := by
  unfold boxP at h
  simp only [Option.bind_eq_some_iff] at h
  obtain ⟨⟨a0, b0⟩, h0, ⟨a1, b1⟩, h1, ⟨a2, b2⟩, h2, ⟨a3, b3⟩, h3, ⟨a4, b4⟩, h4, h10⟩ := h
  simp only [Option.some.injEq, Prod.mk.injEq] at h10
  have e3 := (numP_len h3).2
  have e4 := letsP_length _ h4
  obtain ⟨rfl, _⟩ := h10
  simp only [List.length_nil] at *
  omega
theorem boxsP_fit : ∀ (n : Nat) {l l' : List UInt8} {acc x : List BxD}, boxsP n l acc = some (x, l') → (∀ d ∈ acc, d.ls.length ≤ 255) → x.length = acc.length + n ∧ ∀ d ∈ x, d.ls.length ≤ 255
  | 0, l, l', acc, x, h, ha => by
    unfold boxsP at h
    simp only [Option.some.injEq, Prod.mk.injEq] at h
    obtain ⟨rfl, _⟩ := h
    exact ⟨rfl, ha⟩
  | n + 1, l, l', acc, x, h, ha => by
    unfold boxsP at h
    obtain ⟨⟨y, l1⟩, h1, h2⟩ := Option.bind_eq_some_iff.1 h
    have h3 := boxP_fit h1
    obtain ⟨h4, h5⟩ := boxsP_fit n h2 (fun d hd => by
      rcases List.mem_append.1 hd with hd | hd
      · exact ha d hd
      · rw [List.mem_singleton.1 hd]; exact h3)
    simp only [List.length_append, List.length_singleton] at h4
    exact ⟨by omega, h5⟩
theorem takeU_fit {l : List UInt8} {u : UsD} (h : takeU l = .ok u) : u.name.size ≤ 255 ∧ u.bs.length ≤ 255 ∧ ∀ d ∈ u.bs, d.ls.length ≤ 255 := by
  cases hu : userP l with
  | none => rw [takeU_none hu] at h; cases h
  | some x =>
    obtain ⟨v, r⟩ := x
    rw [takeU_some hu] at h
    have hv : v = u := by
      by_cases hr : r = []
      · rw [if_pos hr] at h; injection h
      · rw [if_neg hr] at h; cases h
    subst hv
    unfold userP at hu
    simp only [Option.bind_eq_some_iff] at hu
    obtain ⟨⟨a0, b0⟩, h0, ⟨a1, b1⟩, h1, ⟨a2, b2⟩, h2, ⟨a3, b3⟩, h3, h10⟩ := hu
    simp only [Option.some.injEq, Prod.mk.injEq] at h10
    have e0 := (text_len h0).2
    have e2 := (numP_len h2).2
    obtain ⟨e3, e4⟩ := boxsP_fit _ h3 (fun d hd => by cases hd)
    obtain ⟨rfl, _⟩ := h10
    refine ⟨?_, ?_, e4⟩
    · have : (ByteArray.mk a0.toArray).size = a0.length := by simp [ByteArray.size]
      simp only at *
      omega
    · simp only [List.length_nil] at *
      omega
theorem takeU_err {l : List UInt8} {k : Int} (h : takeU l = .error k) : k = 3 ∨ k = 4 := by
  cases hu : userP l with
  | none => rw [takeU_none hu] at h; injection h with h; exact Or.inl h.symm
  | some x =>
    obtain ⟨v, r⟩ := x
    rw [takeU_some hu] at h
    by_cases hr : r = []
    · rw [if_pos hr] at h; cases h
    · rw [if_neg hr] at h; injection h with h; exact Or.inr h.symm
/-- What is wrong with a user's bytes. -/
def takeUE (l : List UInt8) : Int := match takeU l with
  | .error k => k
  | .ok u => ckUser u
theorem takeUE_err {l : List UInt8} {k : Int} (h : takeU l = .error k) : takeUE l = k := by unfold takeUE; rw [h]
theorem takeUE_ok {l : List UInt8} {u : UsD} (h : takeU l = .ok u) : takeUE l = ckUser u := by unfold takeUE; rw [h]
def TakeUR (l : List UInt8) (w : World) (e : Ending) (w' : World) : Prop := Below w.heap.size w w' ∧ ((takeUE l ≠ 0 ∧ e = .returned (.tuple #[.agg #[.string ⟨#[]⟩, .int .i64 0, .slice none 0 0], .int .i64 (takeUE l)])) ∨
  (takeUE l = 0 ∧ ∃ (u : UsD) (bs : List Bx) (lv : Value), takeU l = .ok u ∧ bs.map Bx.dat = u.bs ∧ BsAt w.heap.size w' lv bs ∧ e = .returned (.tuple #[.agg #[.string u.name, .int .i64 u.valid, lv], .int .i64 0])))
theorem UsG.fr {w0 w1 w2 : World} {l : List UInt8} {V B N : Nat} (h : UsG w0 l V B w1) (hf : Fr (· = N) w1 w2) (hV : V < N) (hN : N < B) (hw : w0.heap.size ≤ N) : UsG w0 l V B w2 := by
  obtain ⟨hf1, u, bs, lv, a1, a2, a3, a4⟩ := h
  exact ⟨hf1.trans hf (fun _ _ h => h) (fun k hk e => by omega), u, bs, lv, a1, a2, (hf.block V (Array.getElem?_eq_some_iff.1 a3).1 (by omega)).trans a3, a4.fr hf (fun g e => Or.inl (by omega))⟩
set_option maxHeartbeats 4000000 in
set_option maxRecDepth 100000 in
theorem takeUser_any (w : World) (sv : Value) (l : List UInt8) (hsv : Byz w sv l) (hl : l.length ≤ 9223372036854775807) (hT : Tabs w) :
    Calls Tryd.prog 27 #[sv] w (TakeUR l w) := by
  obtain ⟨sa, sc, rfl⟩ := hsv.1
  obtain ⟨y, hy⟩ : ∃ y, y = (w.alloc (.cells #[.string ⟨#[]⟩, .int .i64 0, .slice none 0 0] 43)).alloc (.cells #[.string ⟨#[]⟩, .int .i64 0, .slice none 0 0] 43) := ⟨_, rfl⟩
  have hb : Below w.heap.size w y := by rw [hy]; exact ((Below.refl _ w).alloc (Nat.le_refl _) _).alloc (by simp) _
  have row0 : y.heap[w.heap.size]? = some (.cells #[.string ⟨#[]⟩, .int .i64 0, .slice none 0 0] 43 (0, 0)) := by rw [hy]; exact heap_alloc2_old w _ _
  have row1 : y.heap[w.heap.size + 1]? = some (.cells #[.string ⟨#[]⟩, .int .i64 0, .slice none 0 0] 43 (0, 0)) := by rw [hy]; exact heap_alloc2_new w _ _
  have hz : y.heap.size = w.heap.size + 2 := by rw [hy]; simp
  have HC := Lib.hid (readUser y (.slice sa l.length sc) l (w.heap.size + 1) (UsB y l (w.heap.size + 1)) (UsG y l (w.heap.size + 1) (y.heap.size + 1)) (hsv.below hb) (by omega)
    (fun y0 D hy0 hD hr => takeUser1 y y0 D (w.heap.size + 1) _ l hy0 hD (by omega) hr hl ((hy0.block _ (by omega)).trans row1) (fun g hg hn e => by have := hsv.lt g hg hn; omega))
    (fun k w1 w2 h hf => ⟨h.1, h.2.trans hf (fun _ _ h => h) (fun k hk e => by omega)⟩)
    (fun w1 w2 h hf => h.fr hf (by omega) (by omega) (Nat.le_refl _)))
  have HG : Hid (∀ u, Fr (· = w.heap.size + 1) y u → Below w.heap.size w u ∧ u.heap[w.heap.size]? = some (.cells #[.string ⟨#[]⟩, .int .i64 0, .slice none 0 0] 43 (0, 0)) ∧ Tabs u) := Lib.hid (fun u hf => by
    have h2 : Below w.heap.size w u := ⟨hf.os.trans hb.os, hf.tape.trans hb.tape, hf.output.trans hb.output, Nat.le_trans hb.size hf.size, fun k hk => (hf.block k (by omega) (by omega)).trans (hb.block k hk)⟩
    exact ⟨h2, (hf.block _ (by omega) (by omega)).trans row0, hT.below h2 (Nat.le_refl _)⟩)
  have HY := Lib.hid (show (w.alloc (.cells #[.string ⟨#[]⟩, .int .i64 0, .slice none 0 0] 43)).alloc (.cells #[.string ⟨#[]⟩, .int .i64 0, .slice none 0 0] 43) = y from hy.symm)
  have HZ := Lib.hid hz
  clear hT hsv hy hb row0 row1 hz
  go_enter Tryd.func27, Tryd.ntmps27
  go_wp2_with (first | rw [HY.out])
  refine HC.out.mono ?_
  rintro e w3 ⟨err, rfl, hor⟩
  rcases hor with ⟨rfl, hG⟩ | ⟨htk, hf⟩
  · obtain ⟨hf, u, bs, lv, ht, hm, hv, hbs⟩ := hG
    obtain ⟨h1, h2, h3⟩ := HG.out w3 hf
    obtain ⟨f1, f2, f3⟩ := takeU_fit ht
    have hln : bs.length = u.bs.length := by rw [← hm, List.length_map]
    have hck := checkUser_any u.name u.valid lv bs w3 (hbs.boxes (fun b hb => by
      have h5 : b.dat ∈ u.bs := by rw [← hm]; exact List.mem_map_of_mem hb
      have h6 := f3 _ h5
      have h7 : b.dat.ls.length = b.ls.length := by simp [Bx.dat]
      omega)) (by omega) (by omega) h3
    rw [hm] at hck
    have hU := takeUE_ok ht
    have hue : ckUser ⟨u.name, u.valid, u.bs⟩ = takeUE l := by rw [hU]
    rw [hue] at hck
    obtain ⟨K, hKK⟩ : ∃ K, takeUE l = K := ⟨_, rfl⟩
    rw [hKK] at hck
    obtain ⟨la, lc, rfl, _⟩ := owns_shape hbs.own
    have HKK := Lib.hid hKK
    have HCK := Lib.hid hck
    have HV := Lib.hid hv
    have HT := Lib.hid ht
    have HM := Lib.hid hm
    have HBS := Lib.hid hbs
    have HB := Lib.hid h1
    have HROW := Lib.hid h2
    have hs3 := (Array.getElem?_eq_some_iff.1 hv).1
    have HI1 : ∀ cs : Array Value, cs.size = 3 → Hid ((Tryd.prog.info? 43).map (·.size) = some cs.size) := fun cs h => Lib.hid (by rw [h]; kernel_rfl)
    clear hf ht hm hv hbs h1 h2 h3 f1 f2 f3 hln hck hU hue hKK HC HG
    go_wp2_with (refine wpList_load_row rfl 43 _ rfl (w.heap.size + 1) rfl 43 _ (0, 0) _ HV.out Tryd.underlying43 rfl (by kernel_rfl) ?_)
    refine HCK.out.mono ?_
    rintro e w4 ⟨rfl, hb4⟩
    have HROW4 := Lib.hid (below_row HROW.out hb4 (by omega))
    have HV4 := Lib.hid (below_row HV.out hb4 hs3)
    have HB4 : Hid (Below w.heap.size w w4) := Lib.hid (HB.out.trans (hb4.mono HB.out.size))
    have HBS4 := Lib.hid (HBS.out.fr (Fr.of_below (fun _ => False) hb4) (fun _ e => e.elim))
    have HBF : Hid (∀ cs, Below w.heap.size w (w4.setRow w.heap.size cs)) := Lib.hid (fun cs => ⟨HB4.out.os, HB4.out.tape, HB4.out.output, by rw [setRow_size]; exact HB4.out.size, fun k hk => (setRow_other _ _ _ _ (by omega)).trans (HB4.out.block k hk)⟩)
    have HSR : Hid (∀ cs, (w4.setRow w.heap.size cs).heap[w.heap.size]? = some (.cells cs 43 (0, 0))) := Lib.hid (fun cs => setRow_heap w4 w.heap.size _ cs 43 (0, 0) HROW4.out)
    clear hb4 HCK HV HROW HBS HB
    by_cases hK : K = 0
    · subst hK
      have HI1v := HI1 #[.string u.name, .int .i64 u.valid, .slice la bs.length lc] rfl
      have HI2v : Hid ((#[.string u.name, .int .i64 u.valid, .slice la bs.length lc] : Array Value).all (·.oneCell') = true) := Lib.hid (by rw [Array.all_eq_true_iff_forall_mem]; intro u hu; simp only [List.mem_toArray, List.mem_cons, List.not_mem_nil, or_false] at hu; rcases hu with rfl | rfl | rfl <;> rfl)
      have k0 : (w4.setRow w.heap.size #[.string u.name, .int .i64 u.valid, .slice la bs.length lc]).cell? ⟨w.heap.size, 0, none⟩ = some (.string u.name) := cell_of_row _ _ _ _ _ _ (HSR.out _)
      have k1 : (w4.setRow w.heap.size #[.string u.name, .int .i64 u.valid, .slice la bs.length lc]).cell? ⟨w.heap.size, 1, none⟩ = some (.int .i64 u.valid) := cell_of_row _ _ _ _ _ _ (HSR.out _)
      have k2 : (w4.setRow w.heap.size #[.string u.name, .int .i64 u.valid, .slice la bs.length lc]).cell? ⟨w.heap.size, 2, none⟩ = some (.slice la bs.length lc) := cell_of_row _ _ _ _ _ _ (HSR.out _)
      have HFIN : Hid (TakeUR l w (.returned (.tuple #[.agg #[.string u.name, .int .i64 u.valid, .slice la bs.length lc], .int .i64 0])) (w4.setRow w.heap.size #[.string u.name, .int .i64 u.valid, .slice la bs.length lc])) := Lib.hid ⟨HBF.out _, Or.inr ⟨HKK.out, u, bs, _, HT.out, HM.out, (HBS4.out.fr (⟨rfl, rfl, rfl, by rw [setRow_size]; exact Nat.le_refl _, fun k hk hn => setRow_other _ _ _ _ hn⟩ : Fr (· = w.heap.size) w4 (w4.setRow w.heap.size #[.string u.name, .int .i64 u.valid, .slice la bs.length lc])) (fun g e => Or.inl (by have := HZ.out; omega))).down (by have := HZ.out; omega), rfl⟩⟩
      clear HKK HT HM HB4 HBS4 HBF HSR HI1
      go_wp2_with (first | (refine wpList_load_row rfl 43 _ rfl (w.heap.size + 1) rfl 43 _ (0, 0) _ HV4.out Tryd.underlying43 rfl (by kernel_rfl) ?_) | (refine wpList_store_row rfl 43 _ _ rfl w.heap.size _ rfl rfl 43 _ HROW4.out HI1v.out rfl HI2v.out ?_))
      exact bodyPost_ret (v := .tuple #[.agg #[.string u.name, .int .i64 u.valid, .slice la bs.length lc], .int .i64 0]) (by simp [results, Tryd.results27, go_sem, k0, k1, k2]) rfl HFIN.out
    · have HI1v := HI1 #[.string ⟨#[]⟩, .int .i64 0, .slice none 0 0] rfl
      have HI2v : Hid ((#[.string ⟨#[]⟩, .int .i64 0, .slice none 0 0] : Array Value).all (·.oneCell') = true) := Lib.hid (by rw [Array.all_eq_true_iff_forall_mem]; intro u hu; simp only [List.mem_toArray, List.mem_cons, List.not_mem_nil, or_false] at hu; rcases hu with rfl | rfl | rfl <;> rfl)
      have k0 : (w4.setRow w.heap.size #[.string ⟨#[]⟩, .int .i64 0, .slice none 0 0]).cell? ⟨w.heap.size, 0, none⟩ = some (.string ⟨#[]⟩) := cell_of_row _ _ _ _ _ _ (HSR.out _)
      have k1 : (w4.setRow w.heap.size #[.string ⟨#[]⟩, .int .i64 0, .slice none 0 0]).cell? ⟨w.heap.size, 1, none⟩ = some (.int .i64 0) := cell_of_row _ _ _ _ _ _ (HSR.out _)
      have k2 : (w4.setRow w.heap.size #[.string ⟨#[]⟩, .int .i64 0, .slice none 0 0]).cell? ⟨w.heap.size, 2, none⟩ = some (.slice none 0 0) := cell_of_row _ _ _ _ _ _ (HSR.out _)
      have HFIN : Hid (TakeUR l w (.returned (.tuple #[.agg #[.string ⟨#[]⟩, .int .i64 0, .slice none 0 0], .int .i64 K])) (w4.setRow w.heap.size #[.string ⟨#[]⟩, .int .i64 0, .slice none 0 0])) := Lib.hid ⟨HBF.out _, Or.inl ⟨by rw [HKK.out]; exact hK, by rw [HKK.out]⟩⟩
      clear HKK HT HM HB4 HBS4 HBF HSR HI1
      go_wp2_with (refine wpList_store_row rfl 43 _ _ rfl w.heap.size _ rfl rfl 43 _ HROW4.out HI1v.out rfl HI2v.out ?_)
      exact bodyPost_ret (v := .tuple #[.agg #[.string ⟨#[]⟩, .int .i64 0, .slice none 0 0], .int .i64 K]) (by simp [results, Tryd.results27, go_sem, k0, k1, k2]) rfl HFIN.out
  · obtain ⟨h1, h2, h3⟩ := HG.out w3 hf
    have hK : ¬ err = 0 := by rcases takeU_err htk with e | e <;> omega
    have HU := Lib.hid (takeUE_err htk)
    have HB := Lib.hid h1
    have HROW := Lib.hid h2
    have hsr := setRow_heap w3 w.heap.size _ #[.string ⟨#[]⟩, .int .i64 0, .slice none 0 0] 43 (0, 0) h2
    have k0 : (w3.setRow w.heap.size #[.string ⟨#[]⟩, .int .i64 0, .slice none 0 0]).cell? ⟨w.heap.size, 0, none⟩ = some (.string ⟨#[]⟩) := cell_of_row _ _ _ _ _ _ hsr
    have k1 : (w3.setRow w.heap.size #[.string ⟨#[]⟩, .int .i64 0, .slice none 0 0]).cell? ⟨w.heap.size, 1, none⟩ = some (.int .i64 0) := cell_of_row _ _ _ _ _ _ hsr
    have k2 : (w3.setRow w.heap.size #[.string ⟨#[]⟩, .int .i64 0, .slice none 0 0]).cell? ⟨w.heap.size, 2, none⟩ = some (.slice none 0 0) := cell_of_row _ _ _ _ _ _ hsr
    have HI1 : Hid ((Tryd.prog.info? 43).map (·.size) = some (#[.string ⟨#[]⟩, .int .i64 0, .slice none 0 0] : Array Value).size) := Lib.hid (by kernel_rfl)
    have HI2 : Hid ((#[.string ⟨#[]⟩, .int .i64 0, .slice none 0 0] : Array Value).all (·.oneCell') = true) := Lib.hid (by rw [Array.all_eq_true_iff_forall_mem]; intro u hu; simp only [List.mem_toArray, List.mem_cons, List.not_mem_nil, or_false] at hu; rcases hu with rfl | rfl | rfl <;> rfl)
    have HBF : Hid (Below w.heap.size w (w3.setRow w.heap.size #[.string ⟨#[]⟩, .int .i64 0, .slice none 0 0])) := Lib.hid ⟨h1.os, h1.tape, h1.output, by rw [setRow_size]; exact h1.size, fun k hk => (setRow_other _ _ _ _ (by omega)).trans (h1.block k hk)⟩
    clear hf htk h1 h2 h3 HC HG hsr
    go_wp2_with (refine wpList_store_row rfl 43 _ _ rfl w.heap.size _ rfl rfl 43 _ HROW.out HI1.out rfl HI2.out ?_)
    exact bodyPost_ret (v := .tuple #[.agg #[.string ⟨#[]⟩, .int .i64 0, .slice none 0 0], .int .i64 err]) (by simp [results, Tryd.results27, go_sem, k0, k1, k2]) rfl ⟨HBF.out, Or.inl ⟨by rw [HU.out]; exact hK, by rw [HU.out]⟩⟩
end Go.Proofs.YtjljbnilckkjnaaDoor
namespace Go.Proofs.YtjljbnilckkjnaaDoor
open Go Go.RowKit

/-- Any deed, as it reads. -/
structure Di where
  act : Int
  user : ByteArray
  box : ByteArray
  dest : ByteArray
  uid : Int
  how : Int
  flags : UInt8
  shard : Int
  epoch : Int
  bytes : List UInt8
def diC (d : Di) (pv : Value) : Array Value := #[.int .i64 d.act, .string d.user, .string d.box, .string d.dest, .int .i64 d.uid, .int .i64 d.how, .int .u8 (d.flags.toNat : Int), .int .i64 d.shard, .int .i64 d.epoch, pv]
def diV (d : Di) (pv : Value) : Value := .agg (diC d pv)
def Dd.di (d : Dd) : Di := ⟨d.act, d.user, d.box, d.dest, d.uid, d.how, d.flags, d.shard, d.epoch, d.bytes⟩
theorem ddV_di (d : Dd) (pv : Value) : ddV d pv = diV d.di pv := rfl
/-- What is wrong with the user of an Enter. -/
def ckEntry (user : ByteArray) (p : List UInt8) : Int := match takeU p with
  | .error k => k
  | .ok u => if ckUser u ≠ 0 then ckUser u else if (u.name.toList == user.toList) = true then 0 else 4
theorem ckEntry_bad {user : ByteArray} {p : List UInt8} (h : takeUE p ≠ 0) : ckEntry user p = takeUE p := by
  unfold ckEntry takeUE at *
  cases hu : takeU p with
  | error k => rfl
  | ok u => rw [hu] at h; simp only at *; rw [if_pos h]
theorem ckEntry_ok {user : ByteArray} {p : List UInt8} {u : UsD} (h : takeUE p = 0) (hu : takeU p = .ok u) : ckEntry user p = if (u.name.toList == user.toList) = true then 0 else 4 := by
  have h1 := takeUE_ok hu
  rw [h] at h1
  unfold ckEntry
  rw [hu]
  simp only
  rw [if_neg (by rw [← h1]; simp)]
set_option maxHeartbeats 4000000 in
set_option maxRecDepth 100000 in
theorem checkEntry_any (d : Di) (pv : Value) (w : World) (hp : Byz w pv d.bytes) (hl : d.bytes.length ≤ 9223372036854775807) (hT : Tabs w) :
    Calls Tryd.prog 40 #[diV d pv] w fun e w' => e = .returned (.int .i64 (ckEntry d.user d.bytes)) ∧ Below w.heap.size w w' := by
  obtain ⟨pa, pc, rfl⟩ := hp.1
  have hb0 : Below w.heap.size w (w.alloc (.cells #[.int .i64 d.act, .string d.user, .string d.box, .string d.dest, .int .i64 d.uid, .int .i64 d.how, .int .u8 (d.flags.toNat : Int), .int .i64 d.shard, .int .i64 d.epoch, .slice pa d.bytes.length pc] 28)) := (Below.refl _ w).alloc (Nat.le_refl _) _
  have hz : (w.alloc (.cells #[.int .i64 d.act, .string d.user, .string d.box, .string d.dest, .int .i64 d.uid, .int .i64 d.how, .int .u8 (d.flags.toNat : Int), .int .i64 d.shard, .int .i64 d.epoch, .slice pa d.bytes.length pc] 28)).heap.size = w.heap.size + 1 := by simp
  have hrow0 : (w.alloc (.cells #[.int .i64 d.act, .string d.user, .string d.box, .string d.dest, .int .i64 d.uid, .int .i64 d.how, .int .u8 (d.flags.toNat : Int), .int .i64 d.shard, .int .i64 d.epoch, .slice pa d.bytes.length pc] 28)).heap[w.heap.size]? = some (.cells #[.int .i64 d.act, .string d.user, .string d.box, .string d.dest, .int .i64 d.uid, .int .i64 d.how, .int .u8 (d.flags.toNat : Int), .int .i64 d.shard, .int .i64 d.epoch, .slice pa d.bytes.length pc] 28 (0, 0)) := heap_alloc_new w _
  have HC := Lib.hid (takeUser_any (w.alloc (.cells #[.int .i64 d.act, .string d.user, .string d.box, .string d.dest, .int .i64 d.uid, .int .i64 d.how, .int .u8 (d.flags.toNat : Int), .int .i64 d.shard, .int .i64 d.epoch, .slice pa d.bytes.length pc] 28)) _ d.bytes (hp.below hb0) hl (hT.below hb0 (Nat.le_refl _)))
  have HG : Hid (∀ u, Below (w.alloc (.cells #[.int .i64 d.act, .string d.user, .string d.box, .string d.dest, .int .i64 d.uid, .int .i64 d.how, .int .u8 (d.flags.toNat : Int), .int .i64 d.shard, .int .i64 d.epoch, .slice pa d.bytes.length pc] 28)).heap.size (w.alloc (.cells #[.int .i64 d.act, .string d.user, .string d.box, .string d.dest, .int .i64 d.uid, .int .i64 d.how, .int .u8 (d.flags.toNat : Int), .int .i64 d.shard, .int .i64 d.epoch, .slice pa d.bytes.length pc] 28)) u → w.heap.size < u.heap.size ∧ u.heap[w.heap.size]? = some (.cells #[.int .i64 d.act, .string d.user, .string d.box, .string d.dest, .int .i64 d.uid, .int .i64 d.how, .int .u8 (d.flags.toNat : Int), .int .i64 d.shard, .int .i64 d.epoch, .slice pa d.bytes.length pc] 28 (0, 0)) ∧ Below w.heap.size w u) := Lib.hid (fun u hu => by
    rw [hz] at hu
    have h1 : u.heap[w.heap.size]? = some (.cells #[.int .i64 d.act, .string d.user, .string d.box, .string d.dest, .int .i64 d.uid, .int .i64 d.how, .int .u8 (d.flags.toNat : Int), .int .i64 d.shard, .int .i64 d.epoch, .slice pa d.bytes.length pc] 28 (0, 0)) := below_row hrow0 hu (by omega)
    exact ⟨(Array.getElem?_eq_some_iff.1 h1).1, h1, hb0.trans (hu.mono (by omega))⟩)
  clear hp hT hb0 hz hrow0
  unfold diV diC
  go_enter Tryd.func40, Tryd.ntmps40
  go_wp2_with fail
  refine HC.out.mono ?_
  rintro e w2 ⟨hb, hor⟩
  obtain ⟨h1, h2, h3⟩ := HG.out w2 hb
  have c1 : w2.cell? ⟨w.heap.size, 1, none⟩ = some (.string d.user) := cell_of_row _ _ _ _ _ _ h2
  have HB := Lib.hid h3
  clear hb h2 h3 HC HG
  rcases hor with ⟨hk, rfl⟩ | ⟨hk, u, bs, lv, hu, hm, hbs, rfl⟩
  · have HX := Lib.hid (ckEntry_bad (user := d.user) hk)
    have HBF : Hid (Below w.heap.size w (w2.alloc (.cells #[.string ⟨#[]⟩, .int .i64 0, .slice none 0 0] 43))) := Lib.hid (HB.out.alloc HB.out.size _)
    generalize takeUE d.bytes = K at *
    go_wp2
    go_ret
    exact ⟨ret_int1 HX.out.symm, HBF.out⟩
  · have HX := Lib.hid (ckEntry_ok (user := d.user) hk hu)
    obtain ⟨la, lc, rfl, _⟩ := owns_shape hbs.own
    have HBF : Hid (Below w.heap.size w (w2.alloc (.cells #[.string u.name, .int .i64 u.valid, .slice la bs.length lc] 43))) := Lib.hid (HB.out.alloc HB.out.size _)
    clear hk hu hm hbs
    cases hn : (u.name.toList == d.user.toList) with
    | true =>
      rw [hn, if_pos rfl] at HX
      go_wp2
      go_ret
      exact ⟨ret_int1 HX.out.symm, HBF.out⟩
    | false =>
      rw [hn, if_neg (by simp)] at HX
      go_wp2
      go_ret
      exact ⟨ret_int1 HX.out.symm, HBF.out⟩
end Go.Proofs.YtjljbnilckkjnaaDoor
namespace Go.Proofs.YtjljbnilckkjnaaDoor
open Go Go.RowKit

/-- A letter's bytes; a box's. -/
def letL (x : Letr) : List UInt8 := numL 4 x.uid.toNat ++ numL 1 x.flags.toNat ++ bodyL x.bytes
def boxL (name : ByteArray) (valid next : Nat) (ls : List Letr) : List UInt8 := textL name ++ numL 4 valid ++ numL 4 next ++ numL 1 ls.length ++ ls.flatMap letL
/-- A box's own block, beside what grows. -/
structure XAt (w : World) (b : Nat) (C : Array Value) (v : Value) : Prop where
  blk : w.heap[b]? = some (.cells C 52 (0, 0))
  ne : v.ownBlock ≠ some b
theorem XAt.lt {w : World} {b : Nat} {C : Array Value} {v : Value} (h : XAt w b C v) : b < w.heap.size := (Array.getElem?_eq_some_iff.1 h.blk).1
theorem XAt.step {w w' : World} {b : Nat} {C : Array Value} {v v' : Value} (h : XAt w b C v) (hg : Gr w w' v v') : XAt w' b C v' := by
  obtain ⟨h1, h2⟩ := hg.blk b h.lt h.ne
  exact ⟨h1.trans h.blk, h2⟩
theorem XAt.cell {w : World} {b : Nat} {C : Array Value} {v : Value} (h : XAt w b C v) (j : Nat) : w.cell? ⟨b, j, none⟩ = C[j]? := cell_of_row _ _ _ _ _ _ h.blk
/-- A letter that may be laid. -/
structure LetFit (B : Nat) (p : LV) : Prop where
  uid : 0 ≤ p.1.uid ∧ p.1.uid ≤ 4294967295
  bytes : p.1.bytes.length ≤ 4294967295
  own : ∀ g, p.2.ownBlock = some g → p.1.bytes ≠ [] → g < B
theorem len_ap {l r t : List UInt8} (h : l ++ r = t) : l.length ≤ t.length := by rw [← h, List.length_append]; omega
set_option maxHeartbeats 4000000 in
set_option maxRecDepth 100000 in
theorem putBox_any (B : Nat) (w : World) (v : Value) (l : List UInt8) (name : ByteArray) (valid next : Nat) (sv : Value) (ps : List LV) (hv : Row B w v l) (hB : B ≤ w.heap.size) (hL : ∀ u, Below B w u → Lets u sv ps) (hF : ∀ p ∈ ps, LetFit B p)
    (hn : name.size ≤ 4294967295) (h1 : valid ≤ 4294967295) (h2 : next ≤ 4294967295) (hps : ps.length ≤ 1000000) (hlen : (l ++ boxL name valid next (ps.map (·.1))).length ≤ 100000000000000) :
    Calls Tryd.prog 53 #[v, boxV name valid next sv] w (PutR B w v (l ++ boxL name valid next (ps.map (·.1)))) := by
  obtain ⟨a, cap, rfl, _⟩ := (hL w (Below.refl _ _)).shape
  have hvlt : ∀ g, v.ownBlock = some g → g < w.heap.size := hv.1.lt
  have hl0 : l.length ≤ 100000000000000 := by rw [List.length_append] at hlen; omega
  have hbx : l.length + (1 + name.size) + 4 + 4 + 1 ≤ 100000000000000 := by
    unfold boxL at hlen
    simp only [List.length_append, numL_len, textL_len] at hlen
    omega
  have hb0 : Below w.heap.size w (w.alloc (.cells #[.string name, .int .i64 (valid : Int), .int .i64 (next : Int), .slice a ps.length cap] 52)) := (Below.refl _ w).alloc (Nat.le_refl _) _
  obtain ⟨w0, hw0⟩ : ∃ w0, w0 = w.alloc (.cells #[.string name, .int .i64 (valid : Int), .int .i64 (next : Int), .slice a ps.length cap] 52) := ⟨_, rfl⟩
  have hat : XAt w0 w.heap.size #[.string name, .int .i64 (valid : Int), .int .i64 (next : Int), .slice a ps.length cap] v := ⟨by rw [hw0]; exact heap_alloc_new w _, fun e => by have := hvlt _ e; omega⟩
  rw [← hw0] at hb0
  have HW0 := Lib.hid hw0
  have AT0 := Lib.hid hat
  have R0 := Lib.hid (hv.below hb0)
  have G0 : Hid (Gr w w0 v v) := Lib.hid (Gr.ofBelow hb0)
  have HL := Lib.hid hL
  have HF := Lib.hid hF
  have HR0 := Lib.hid hv
  have HLEN := Lib.hid hlen
  have s0 := hb0.size
  clear hw0 hat hb0 hv hL hF hlen hvlt
  unfold boxV
  go_enter Tryd.func53, Tryd.ntmps53
  have c0 : w0.cell? ⟨w.heap.size, 0, none⟩ = some (.string name) := AT0.out.cell 0
  have HC0 := Lib.hid (putText_any B w0 v (l) name R0.out (by omega) hn (by first | omega | (simp only [List.length_append, numL_len, textL_len]; omega)))
  go_wp2_with (first | rw [← HW0.out])
  refine HC0.out.mono ?_
  rintro e w1 ⟨v1, rfl, hro, hg⟩
  have R1 := Lib.hid hro
  have G1 := Lib.hid (G0.out.trans hg)
  have s1 := hg.size
  have AT1 := Lib.hid (AT0.out.step hg)
  clear hro hg HC0 c0 AT0 R0 G0 HW0
  have c1 : w1.cell? ⟨w.heap.size, 1, none⟩ = some (.int .i64 (valid : Int)) := AT1.out.cell 1
  have HC1 := Lib.hid (putNumber_any B w1 v1 (l ++ textL name) 4 valid R1.out (by omega) (by omega) h1 (by first | omega | (simp only [List.length_append, numL_len, textL_len]; omega)))
  go_wp2_with fail
  refine HC1.out.mono ?_
  rintro e w2 ⟨v2, rfl, hro, hg⟩
  have R2 := Lib.hid hro
  have G2 := Lib.hid (G1.out.trans hg)
  have s2 := hg.size
  have AT2 := Lib.hid (AT1.out.step hg)
  clear hro hg HC1 c1 AT1 R1 G1
  have c2 : w2.cell? ⟨w.heap.size, 2, none⟩ = some (.int .i64 (next : Int)) := AT2.out.cell 2
  have HC2 := Lib.hid (putNumber_any B w2 v2 (l ++ textL name ++ numL 4 valid) 4 next R2.out (by omega) (by omega) h2 (by first | omega | (simp only [List.length_append, numL_len, textL_len]; omega)))
  go_wp2_with fail
  refine HC2.out.mono ?_
  rintro e w3 ⟨v3, rfl, hro, hg⟩
  have R3 := Lib.hid hro
  have G3 := Lib.hid (G2.out.trans hg)
  have s3 := hg.size
  have AT3 := Lib.hid (AT2.out.step hg)
  clear hro hg HC2 c2 AT2 R2 G2
  have c3 : w3.cell? ⟨w.heap.size, 3, none⟩ = some (.slice a ps.length cap) := AT3.out.cell 3
  have HC3 := Lib.hid (putNumber_any B w3 v3 (l ++ textL name ++ numL 4 valid ++ numL 4 next) 1 ps.length R3.out (by omega) (by omega) (by omega) (by first | omega | (simp only [List.length_append, numL_len, textL_len]; omega)))
  go_wp2_with fail
  refine HC3.out.mono ?_
  rintro e w4 ⟨v4, rfl, hro, hg⟩
  have R4 := Lib.hid hro
  have G4 := Lib.hid (G3.out.trans hg)
  have s4 := hg.size
  have AT4 := Lib.hid (AT3.out.step hg)
  clear hro hg HC3 c3 AT3 R3 G3
  have c3 : w4.cell? ⟨w.heap.size, 3, none⟩ = some (.slice a ps.length cap) := AT4.out.cell 3
  go_wp2
  go_loopw [0, 27] (fun bv iv wr => ∃ (k : Nat) (l' : List UInt8), k ≤ ps.length ∧ iv = .int .i64 (k : Int) ∧ Hid (l' ++ ((ps.map (·.1)).drop k).flatMap letL = l ++ boxL name valid next (ps.map (·.1)) ∧ Row B wr bv l' ∧ Gr w wr v bv)) (fun _ iv _ => ps.length - (intOf iv).toNat)
  case atStart => exact ⟨0, _, Nat.zero_le _, rfl, Lib.hid ⟨by unfold boxL; rw [List.drop_zero, List.length_map]; simp only [List.append_assoc], R4.out, G4.out⟩⟩
  case round =>
    clear R4 G4 AT4 c3
    obtain ⟨k, l', hk, rfl, hH⟩ := hrel
    obtain ⟨hgo, hr, hg⟩ := hH.out
    have hbw := hg.below HR0.out hB
    by_cases hlt : k < ps.length
    · have hlt' : (k : Int) < (ps.length : Int) := by omega
      have hp := List.getElem?_eq_getElem hlt
      generalize ps[k] = p at hp
      obtain ⟨g, off, cap', e, hgl, d0, d1, d2⟩ := (HL.out wr hbw).at k p hp
      injection e with ea _ ec
      subst ea
      subst ec
      obtain ⟨hu, hby, hown⟩ := HF.out p (List.mem_of_getElem? hp)
      have hbyz := (HL.out wr hbw).bytes p (List.mem_of_getElem? hp)
      obtain ⟨n, hn4⟩ : ∃ n : Nat, p.1.uid = (n : Int) := ⟨p.1.uid.toNat, (Int.toNat_of_nonneg hu.1).symm⟩
      have hun : p.1.uid.toNat = n := by rw [hn4]; rfl
      obtain ⟨ba, bc, hbv⟩ := hbyz.1
      rw [hbv] at d2 hbyz hown
      rw [hn4] at d0
      rw [drop_at9 (show (ps.map (·.1))[k]? = some p.1 by rw [List.getElem?_map, hp]; rfl), List.flatMap_cons, letL, hun] at hgo
      have hll := len_ap (show l' ++ numL 4 n ++ numL 1 p.1.flags.toNat ++ bodyL p.1.bytes ++ ((ps.map (·.1)).drop (k + 1)).flatMap letL = l ++ boxL name valid next (ps.map (·.1)) by rw [← hgo]; simp only [List.append_assoc])
      have hll2 := HLEN.out
      have hbl : (bodyL p.1.bytes).length = 2 + p.1.bytes.length := by unfold bodyL; rw [List.length_append, numL_len]
      simp only [List.length_append, numL_len, hbl] at hll hll2
      have hfl : p.1.flags.toNat ≤ 4294967295 := by have := p.1.flags.toNat_lt; omega
      have hsz := hg.size
      have hlim : l'.length + 8 ≤ 140000000000000 := by omega
      obtain ⟨y0, hy0⟩ : ∃ y0, y0 = wr.alloc (.cells #[.int .i64 (n : Int), .int .u8 (p.1.flags.toNat : Int), .slice ba p.1.bytes.length bc] 79) := ⟨_, rfl⟩
      have hby0 : Below wr.heap.size wr y0 := by rw [hy0]; exact (Below.refl _ wr).alloc (Nat.le_refl _) _
      have hrow : y0.heap[wr.heap.size]? = some (.cells #[.int .i64 (n : Int), .int .u8 (p.1.flags.toNat : Int), .slice ba p.1.bytes.length bc] 79 (0, 0)) := by rw [hy0]; exact heap_alloc_new wr _
      have hne0 : (y0.heap[wr.heap.size]? = some (.cells #[.int .i64 (n : Int), .int .u8 (p.1.flags.toNat : Int), .slice ba p.1.bytes.length bc] 79 (0, 0))) ∧ u0.ownBlock ≠ some wr.heap.size := ⟨hrow, fun e => by have := hr.1.lt _ e; omega⟩
      have x0 : y0.cell? ⟨wr.heap.size, 0, none⟩ = some (.int .i64 (n : Int)) := cell_of_row _ _ _ _ _ _ hrow
      have Q0 := Lib.hid hne0
      have K0 : Hid (Row B y0 u0 l') := Lib.hid (hr.below hby0)
      have J0 : Hid (Gr w y0 v u0) := Lib.hid (hg.trans (Gr.ofBelow hby0))
      have t0 := hby0.size
      have HY := Lib.hid hy0
      have HGO := Lib.hid hgo
      have HBZ : Hid (∀ u vv, Gr w u v vv → Byz u (.slice ba p.1.bytes.length bc) p.1.bytes) := Lib.hid (fun u vv h => by
        have := (HL.out u (h.below HR0.out hB)).bytes p (List.mem_of_getElem? hp)
        rwa [hbv] at this)
      have HOWN : Hid (∀ (u : World) vv ll, Row B u vv ll → ∀ g, vv.ownBlock = some g → p.1.bytes ≠ [] → (Value.slice ba p.1.bytes.length bc).ownBlock ≠ some g) := Lib.hid (fun u vv ll h g hg hn e => by
        have h5 := row_base h g hg
        have h6 := hown g e hn
        omega)
      have HC0 := Lib.hid (putNumber_any B y0 u0 l' 4 n K0.out (by omega) (by omega) (by omega) (by omega))
      clear hgo hr hg hbw hp hbyz hbv hown hll hll2 hy0 hby0 hrow hne0 hH hn4 hun hu
      go_wp2_with (first | rw [← HY.out])
      refine HC0.out.mono ?_
      rintro e y1 ⟨b1, rfl, hro, hg⟩
      have K1 := Lib.hid hro
      have J1 := Lib.hid (J0.out.trans hg)
      have t1 := hg.size
      obtain ⟨q1, q2⟩ := hg.blk _ (Array.getElem?_eq_some_iff.1 Q0.out.1).1 Q0.out.2
      have Q1 := Lib.hid (And.intro (q1.trans Q0.out.1) q2)
      have x1 : y1.cell? ⟨wr.heap.size, 1, none⟩ = some (.int .u8 (p.1.flags.toNat : Int)) := cell_of_row _ _ _ _ _ _ Q1.out.1
      have HC1 := Lib.hid (putNumber_any B y1 b1 _ 1 p.1.flags.toNat K1.out (by omega) (by omega) hfl (by simp only [List.length_append, numL_len]; omega))
      clear hro hg HC0 q1 q2 Q0 K0 J0 HY d0 d1 d2 x0
      go_wp2_with fail
      refine HC1.out.mono ?_
      rintro e y2 ⟨b2, rfl, hro, hg⟩
      have K2 := Lib.hid hro
      have J2 := Lib.hid (J1.out.trans hg)
      have t2 := hg.size
      obtain ⟨q1, q2⟩ := hg.blk _ (Array.getElem?_eq_some_iff.1 Q1.out.1).1 Q1.out.2
      have x2 : y2.cell? ⟨wr.heap.size, 2, none⟩ = some (.slice ba p.1.bytes.length bc) := cell_of_row _ _ _ _ _ _ (q1.trans Q1.out.1)
      have HC2 := Lib.hid (putBody_any B y2 b2 _ _ p.1.bytes K2.out (by omega) (HBZ.out y2 b2 J2.out) (HOWN.out y2 b2 _ K2.out) hby (by simp only [List.length_append, numL_len]; omega))
      clear hro hg HC1 q1 q2 Q1 K1 J1 x1
      go_wp2_with fail
      refine HC2.out.mono ?_
      rintro e y3 ⟨b3, rfl, hro, hg⟩
      have K3 := Lib.hid hro
      have J3 := Lib.hid (J2.out.trans hg)
      clear hro hg HC2 K2 J2 x2
      go_wp2
      go_roundw
      case rel => exact ⟨k + 1, _, by omega, by go_num, Lib.hid ⟨by rw [← HGO.out]; simp only [List.append_assoc], K3.out, J3.out⟩⟩
      case measure => simp [intOf]; omega
    · have hlt' : ¬ (k : Int) < (ps.length : Int) := by omega
      rw [List.drop_of_length_le (by rw [List.length_map]; omega), List.flatMap_nil, List.append_nil] at hgo
      have HFIN := Lib.hid (show PutR B w v (l ++ boxL name valid next (ps.map (·.1))) (.returned _) wr from ⟨_, rfl, by rw [← hgo]; exact hr, hg⟩)
      clear hgo hr hg hbw hH
      go_wp2
      go_ret
      exact HFIN.out
end Go.Proofs.YtjljbnilckkjnaaDoor
namespace Go.Proofs.YtjljbnilckkjnaaDoor
open Go Go.RowKit

theorem chkL_fit : ∀ (ls : List Letr) (next last : Int), 0 ≤ last → chkL next last ls = 0 → ∀ x ∈ ls, 0 ≤ x.uid ∧ x.uid < next ∧ x.bytes.length ≤ 600
  | [], _, _, _, _, x, hx => by cases hx
  | y :: t, next, last, h0, h, x, hx => by
    unfold chkL at h
    by_cases h4 : y.uid ≤ last ∨ next ≤ y.uid
    · rw [if_pos h4] at h; omega
    rw [if_neg h4] at h
    by_cases h2 : 32 ≤ y.flags.toNat
    · rw [if_pos h2] at h; omega
    rw [if_neg h2] at h
    by_cases h6 : 600 < y.bytes.length
    · rw [if_pos h6] at h; omega
    rw [if_neg h6] at h
    rcases List.mem_cons.1 hx with rfl | hx
    · exact ⟨by omega, by omega, by omega⟩
    · exact chkL_fit t next y.uid (by omega) h x hx
/-- A box that may be laid. -/
structure BoxFit (b : BxD) : Prop where
  name : b.name.size ≤ 24
  valid : 1 ≤ b.valid ∧ b.valid ≤ 4294967295
  next : 1 ≤ b.next ∧ b.next ≤ 4294967295
  few : b.ls.length ≤ 32
  lets : ∀ x ∈ b.ls, 0 ≤ x.uid ∧ x.uid ≤ 4294967295 ∧ x.bytes.length ≤ 600
theorem chk_fit {valid next : Int} {ls : List Letr} (h : chk valid next ls = 0) : (1 ≤ valid ∧ valid ≤ 4294967295) ∧ (1 ≤ next ∧ next ≤ 4294967295) ∧ ls.length ≤ 32 ∧ ∀ x ∈ ls, 0 ≤ x.uid ∧ x.uid ≤ 4294967295 ∧ x.bytes.length ≤ 600 := by
  unfold chk at h
  by_cases hb : badN valid ∨ badN next
  · rw [if_pos hb] at h; omega
  rw [if_neg hb] at h
  by_cases hl : 32 < ls.length
  · rw [if_pos hl] at h; omega
  rw [if_neg hl] at h
  unfold badN at hb
  refine ⟨by omega, by omega, by omega, fun x hx => ?_⟩
  obtain ⟨a, b, c⟩ := chkL_fit ls next 0 (Int.le_refl _) h x hx
  exact ⟨a, by omega, c⟩
theorem ckBox_fit {name ahead : ByteArray} {valid next top : Int} {ls : List Letr} (h : ckBox name valid next ls ahead top = 0) : BoxFit ⟨name, valid, next, ls⟩ := by
  unfold ckBox at h
  by_cases hr : rightX name = false
  · rw [if_pos hr] at h; omega
  rw [if_neg hr] at h
  by_cases hs : leS name ahead = true
  · rw [if_pos hs] at h; omega
  rw [if_neg hs] at h
  by_cases hk : chk valid next ls ≠ 0
  · rw [if_pos hk] at h; exact absurd h hk
  obtain ⟨a, b, c, e⟩ := chk_fit (Decidable.not_not.1 hk)
  have hn : name.size ≤ 24 := by
    have h1 : rightX name = true := by cases hx : rightX name with
      | true => rfl
      | false => exact absurd hx hr
    unfold rightX at h1
    simp only [Bool.and_eq_true, decide_eq_true_eq] at h1
    exact h1.1.2
  exact ⟨hn, a, b, c, e⟩
theorem ckBxs_fit (top : Int) : ∀ (bs : List BxD) (ah : ByteArray) (f : Bool) (n z : Int), ckBxs top bs ah f n z = 0 → ∀ b ∈ bs, BoxFit b
  | [], _, _, _, _, _, b, hb => by cases hb
  | y :: t, ah, f, n, z, h, b, hb => by
    unfold ckBxs at h
    by_cases hk : ckBox y.name y.valid y.next y.ls ah top ≠ 0
    · rw [if_pos hk] at h; exact absurd h hk
    rw [if_neg hk] at h
    rcases List.mem_cons.1 hb with rfl | hb
    · exact ckBox_fit (Decidable.not_not.1 hk)
    · exact ckBxs_fit top t _ _ _ _ h b hb
theorem ckUser_fit {u : UsD} (h : ckUser u = 0) : u.name.size ≤ 24 ∧ (1 ≤ u.valid ∧ u.valid ≤ 4294967295) ∧ (1 ≤ u.bs.length ∧ u.bs.length ≤ 6) ∧ ∀ b ∈ u.bs, BoxFit b := by
  unfold ckUser at h
  by_cases hr : rightU u.name = false
  · rw [if_pos hr] at h; omega
  rw [if_neg hr] at h
  by_cases h1 : u.valid < 1
  · rw [if_pos h1] at h; omega
  rw [if_neg h1] at h
  by_cases h2 : 4294967295 < u.valid
  · rw [if_pos h2] at h; omega
  rw [if_neg h2] at h
  by_cases h3 : u.bs.length = 0
  · rw [if_pos h3] at h; omega
  rw [if_neg h3] at h
  by_cases h4 : 6 < u.bs.length
  · rw [if_pos h4] at h; omega
  rw [if_neg h4] at h
  have hn : u.name.size ≤ 24 := by
    have h1 : rightU u.name = true := by cases hx : rightU u.name with
      | true => rfl
      | false => exact absurd hx hr
    unfold rightU at h1
    simp only [Bool.and_eq_true, decide_eq_true_eq] at h1
    exact h1.2.2
  exact ⟨hn, by omega, by omega, ckBxs_fit _ _ _ _ _ _ h⟩
end Go.Proofs.YtjljbnilckkjnaaDoor
namespace Go.Proofs.YtjljbnilckkjnaaDoor
open Go Go.RowKit

theorem Boxes.below {w w' : World} {v : Value} {bs : List Bx} (h : Boxes w v bs) (hb : Below w.heap.size w w') : Boxes w' v bs := by
  refine ⟨h.shape, fun hne => ?_, fun b hb' => ⟨(h.lets b hb').1.below hb, (h.lets b hb').2⟩⟩
  obtain ⟨g, off, cap, e, hg, hc⟩ := h.cells hne
  have hk : ∀ j u, w.cell? ⟨g, j, none⟩ = some u → w'.cell? ⟨g, j, none⟩ = some u := fun j u hu => (hb.cell (p := ⟨g, j, none⟩) hg).trans hu
  exact ⟨g, off, cap, e, Nat.lt_of_lt_of_le hg hb.size, fun i b hi => ⟨hk _ _ (hc i b hi).1, hk _ _ (hc i b hi).2.1, hk _ _ (hc i b hi).2.2.1, hk _ _ (hc i b hi).2.2.2⟩⟩
def bxL (b : BxD) : List UInt8 := boxL b.name b.valid.toNat b.next.toNat b.ls
/-- A user's bytes. -/
def userL (u : UsD) : List UInt8 := textL u.name ++ numL 4 u.valid.toNat ++ numL 1 u.bs.length ++ u.bs.flatMap bxL
theorem flat_le {α : Type} (f : α → List UInt8) (c : Nat) : ∀ l : List α, (∀ x ∈ l, (f x).length ≤ c) → (l.flatMap f).length ≤ l.length * c
  | [], _ => by simp
  | x :: t, h => by
    have h1 := h x (List.mem_cons_self ..)
    have h2 := flat_le f c t (fun y hy => h y (List.mem_cons_of_mem _ hy))
    rw [List.flatMap_cons, List.length_append, List.length_cons, Nat.add_mul, Nat.one_mul]
    omega
theorem bxL_le {b : BxD} (h : BoxFit b) : (bxL b).length ≤ 20000 := by
  have h1 := flat_le letL 607 b.ls (fun x hx => by
    have := (h.lets x hx).2.2
    unfold letL bodyL
    simp only [List.length_append, numL_len]
    omega)
  have h2 := h.name
  have h3 := h.few
  have h4 : b.ls.length * 607 ≤ 32 * 607 := Nat.mul_le_mul_right _ h3
  unfold bxL boxL
  simp only [List.length_append, numL_len, textL_len]
  omega
theorem userL_le {u : UsD} (h : ckUser u = 0) : (userL u).length ≤ 200000 := by
  obtain ⟨h1, h2, h3, h4⟩ := ckUser_fit h
  have h5 := flat_le bxL 20000 u.bs (fun b hb => bxL_le (h4 b hb))
  have h6 : u.bs.length * 20000 ≤ 6 * 20000 := Nat.mul_le_mul_right _ h3.2
  unfold userL
  simp only [List.length_append, numL_len, textL_len]
  omega
def PutUR (u : UsD) (w : World) (e : Ending) (w' : World) : Prop := Below w.heap.size w w' ∧ ((ckUser u ≠ 0 ∧ e = .returned (.tuple #[.slice none 0 0, .int .i64 (ckUser u)])) ∨
  (ckUser u = 0 ∧ ∃ v, e = .returned (.tuple #[v, .int .i64 0]) ∧ Row w.heap.size w' v (userL u)))
set_option maxHeartbeats 4000000 in
set_option maxRecDepth 100000 in
theorem putUser_any (name : ByteArray) (valid : Int) (sv : Value) (bs : List Bx) (w : World) (h : Boxes w sv bs) (hlen : bs.length ≤ 4294967295) (hs : name.size ≤ 9223372036854775807) (hT : Tabs w) :
    Calls Tryd.prog 25 #[.agg #[.string name, .int .i64 valid, sv]] w (PutUR ⟨name, valid, bs.map Bx.dat⟩ w) := by
  obtain ⟨sa, sc, rfl⟩ := h.shape
  obtain ⟨K, hK⟩ : ∃ K, ckUser ⟨name, valid, bs.map Bx.dat⟩ = K := ⟨_, rfl⟩
  have hb0 : Below w.heap.size w (w.alloc (.cells #[.string name, .int .i64 valid, .slice sa bs.length sc] 43)) := (Below.refl _ w).alloc (Nat.le_refl _) _
  have hz : (w.alloc (.cells #[.string name, .int .i64 valid, .slice sa bs.length sc] 43)).heap.size = w.heap.size + 1 := by simp
  have hrow0 : (w.alloc (.cells #[.string name, .int .i64 valid, .slice sa bs.length sc] 43)).heap[w.heap.size]? = some (.cells #[.string name, .int .i64 valid, .slice sa bs.length sc] 43 (0, 0)) := heap_alloc_new w _
  have hC := checkUser_any name valid _ bs (w.alloc (.cells #[.string name, .int .i64 valid, .slice sa bs.length sc] 43)) (h.below hb0) hlen hs (hT.below hb0 (Nat.le_refl _))
  rw [hz, hK] at hC
  have HC := Lib.hid hC
  by_cases hk0 : K = 0
  · subst hk0
    obtain ⟨f1, f2, f3, f4⟩ := ckUser_fit hK
    simp only at f1 f2 f3 f4
    rw [List.length_map] at f3
    have hle := userL_le hK
    obtain ⟨nv, hnv⟩ : ∃ nv : Nat, valid = (nv : Int) := ⟨valid.toNat, (Int.toNat_of_nonneg (by omega)).symm⟩
    subst hnv
    have hub : ∀ b ∈ bs, BoxFit b.dat := fun b hb => f4 _ (List.mem_map_of_mem hb)
    have HUL : Hid (userL ⟨name, (nv : Int), bs.map Bx.dat⟩ = textL name ++ numL 4 nv ++ numL 1 bs.length ++ (bs.map Bx.dat).flatMap bxL) := Lib.hid (by unfold userL; simp only [Int.toNat_natCast, List.length_map])
    obtain ⟨U, hU⟩ : ∃ U, userL ⟨name, (nv : Int), bs.map Bx.dat⟩ = U := ⟨_, rfl⟩
    rw [hU] at HUL hle
    have HFIN : Hid (∀ v u, Below w.heap.size w u → Row (w.heap.size + 1) u v U → PutUR ⟨name, (nv : Int), bs.map Bx.dat⟩ w (.returned (.tuple #[v, .int .i64 0])) u) := Lib.hid (fun v u hb hr => ⟨hb, Or.inr ⟨hK, v, rfl, by rw [hU]; exact ⟨hr.1, fun ad n c e => by obtain ⟨h1, h2⟩ := hr.2 ad n c e; exact ⟨by omega, h2⟩⟩⟩⟩)
    have HG : Hid (∀ u, Below (w.heap.size + 1) (w.alloc (.cells #[.string name, .int .i64 (nv : Int), .slice sa bs.length sc] 43)) u → w.heap.size < u.heap.size ∧ u.heap[w.heap.size]? = some (.cells #[.string name, .int .i64 (nv : Int), .slice sa bs.length sc] 43 (0, 0)) ∧ Below w.heap.size w u ∧ Boxes u (.slice sa bs.length sc) bs) := Lib.hid (fun u hu => by
      have h1 : u.heap[w.heap.size]? = some (.cells #[.string name, .int .i64 (nv : Int), .slice sa bs.length sc] 43 (0, 0)) := below_row hrow0 hu (by omega)
      have h2 : Below w.heap.size w u := hb0.trans (hu.mono (by omega))
      exact ⟨(Array.getElem?_eq_some_iff.1 h1).1, h1, h2, h.below h2⟩)
    have HLB : Hid (∀ b ∈ bs, Lets w b.lv b.ls) := Lib.hid (fun b hb => (h.lets b hb).1)
    have HUB := Lib.hid hub
    clear h hT hb0 hz hrow0 hC hK hs f4 hU hub
    go_enter Tryd.func25, Tryd.ntmps25
    go_wp2_with fail
    refine HC.out.mono ?_
    rintro e w1 ⟨rfl, hb1⟩
    obtain ⟨s1, hr1, hbw, _⟩ := HG.out w1 hb1
    have c1 : w1.cell? ⟨w.heap.size, 0, none⟩ = some (.string name) := cell_of_row _ _ _ _ _ _ hr1
    have HB1 := Lib.hid hb1
    have R1 := Lib.hid (Row.nil (w.heap.size + 1) w1)
    have HC1 := Lib.hid (putText_any (w.heap.size + 1) w1 (.slice none 0 0) [] name R1.out (by omega) (by omega) (by simp))
    clear HC hr1 hb1 hbw
    go_wp2_with fail
    refine HC1.out.mono ?_
    rintro e w2 ⟨v2, rfl, hro, hg⟩
    have HB2 := Lib.hid (HB1.out.trans (hg.below R1.out (by omega)))
    have R2 := Lib.hid hro
    obtain ⟨s2, hr2, _, _⟩ := HG.out w2 HB2.out
    have c2 : w2.cell? ⟨w.heap.size, 1, none⟩ = some (.int .i64 (nv : Int)) := cell_of_row _ _ _ _ _ _ hr2
    have HC2 := Lib.hid (putNumber_any (w.heap.size + 1) w2 v2 _ 4 nv R2.out (by omega) (by omega) (by omega) (by simp only [List.length_append, numL_len, textL_len, List.length_nil]; omega))
    clear hro hg hr2 HC1 R1 HB1 c1
    go_wp2_with fail
    refine HC2.out.mono ?_
    rintro e w3 ⟨v3, rfl, hro, hg⟩
    have HB3 := Lib.hid (HB2.out.trans (hg.below R2.out (by omega)))
    have R3 := Lib.hid hro
    obtain ⟨s3, hr3, _, _⟩ := HG.out w3 HB3.out
    have c3 : w3.cell? ⟨w.heap.size, 2, none⟩ = some (.slice sa bs.length sc) := cell_of_row _ _ _ _ _ _ hr3
    have HC3 := Lib.hid (putNumber_any (w.heap.size + 1) w3 v3 _ 1 bs.length R3.out (by omega) (by omega) (by omega) (by simp only [List.length_append, numL_len, textL_len, List.length_nil]; omega))
    clear hro hg hr3 HC2 R2 HB2 c2
    go_wp2_with fail
    refine HC3.out.mono ?_
    rintro e w4 ⟨v4, rfl, hro, hg⟩
    have HB4 := Lib.hid (HB3.out.trans (hg.below R3.out (by omega)))
    have R4 := Lib.hid hro
    obtain ⟨s4, hr4, _, _⟩ := HG.out w4 HB4.out
    have c4 : w4.cell? ⟨w.heap.size, 2, none⟩ = some (.slice sa bs.length sc) := cell_of_row _ _ _ _ _ _ hr4
    clear hro hg hr4 HC3 R3 HB3 c3
    go_wp2
    go_loopw [5, 28] (fun bv iv wr => ∃ (k : Nat) (l' : List UInt8), k ≤ bs.length ∧ iv = .int .i64 (k : Int) ∧ Hid (l' ++ ((bs.map Bx.dat).drop k).flatMap bxL = U ∧ Row (w.heap.size + 1) wr bv l' ∧ Below (w.heap.size + 1) (w.alloc (.cells #[.string name, .int .i64 (nv : Int), .slice sa bs.length sc] 43)) wr)) (fun _ iv _ => bs.length - (intOf iv).toNat)
    case atStart => exact ⟨0, _, Nat.zero_le _, rfl, Lib.hid ⟨by rw [HUL.out, List.drop_zero]; simp only [List.nil_append], R4.out, HB4.out⟩⟩
    case round =>
      clear R4 HB4 c4 s1 s2 s3 s4 HUL
      obtain ⟨k, l', hk, rfl, hH⟩ := hrel
      obtain ⟨hgo, hr, hb⟩ := hH.out
      obtain ⟨s5, hr5, hbw, hbx⟩ := HG.out wr hb
      by_cases hlt : k < bs.length
      · have hlt' : (k : Int) < (bs.length : Int) := by omega
        have hp := List.getElem?_eq_getElem hlt
        generalize bs[k] = b at hp
        have hmem := List.mem_of_getElem? hp
        obtain ⟨g, off, cap', e, hgl, hcs⟩ := hbx.cells (fun e => by subst e; simp at hlt)
        injection e with ea _ ec
        subst ea
        subst ec
        obtain ⟨d0, d1, d2, d3⟩ := hcs k b hp
        have hfit := HUB.out b hmem
        have hlw := HLB.out b hmem
        obtain ⟨la, lc, hlv, _⟩ := hlw.shape
        have g1 := hfit.name
        have g2 := hfit.valid
        have g3 := hfit.next
        have g4 := hfit.few
        have g5 := hfit.lets
        have e1 : b.dat.name = b.name := rfl
        have e2 : b.dat.valid = b.valid := rfl
        have e3 : b.dat.next = b.next := rfl
        have e4 : b.dat.ls = b.ls.map (·.1) := rfl
        rw [e1] at g1
        rw [e2] at g2
        rw [e3] at g3
        rw [e4, List.length_map] at g4
        rw [e4] at g5
        rw [drop_at9 (show (bs.map Bx.dat)[k]? = some b.dat by rw [List.getElem?_map, hp]; rfl), List.flatMap_cons, bxL, e1, e2, e3, e4] at hgo
        obtain ⟨n1, hn1⟩ : ∃ n1 : Nat, b.valid = (n1 : Int) := ⟨b.valid.toNat, (Int.toNat_of_nonneg (by omega)).symm⟩
        obtain ⟨n2, hn2⟩ : ∃ n2 : Nat, b.next = (n2 : Int) := ⟨b.next.toNat, (Int.toNat_of_nonneg (by omega)).symm⟩
        rw [hn1, hn2, Int.toNat_natCast, Int.toNat_natCast] at hgo
        rw [hn1] at d1 g2
        rw [hn2] at d2 g3
        rw [hlv] at d3 hlw
        have hll := len_ap (show (l' ++ boxL b.name n1 n2 (b.ls.map (·.1))) ++ ((bs.map Bx.dat).drop (k + 1)).flatMap bxL = U by rw [← hgo]; simp only [List.append_assoc])
        have hby : Below wr.heap.size wr (wr.alloc (.cells #[.string b.name, .int .i64 (n1 : Int), .int .i64 (n2 : Int), .slice la b.ls.length lc] 52)) := (Below.refl _ wr).alloc (Nat.le_refl _) _
        have hzy : (wr.alloc (.cells #[.string b.name, .int .i64 (n1 : Int), .int .i64 (n2 : Int), .slice la b.ls.length lc] 52)).heap.size = wr.heap.size + 1 := by simp
        have K0 : Hid (Row (w.heap.size + 1) (wr.alloc (.cells #[.string b.name, .int .i64 (n1 : Int), .int .i64 (n2 : Int), .slice la b.ls.length lc] 52)) u5 l') := Lib.hid (hr.below hby)
        have J0 : Hid (Below (w.heap.size + 1) (w.alloc (.cells #[.string name, .int .i64 (nv : Int), .slice (some ⟨g, off, none⟩) bs.length sc] 43)) (wr.alloc (.cells #[.string b.name, .int .i64 (n1 : Int), .int .i64 (n2 : Int), .slice la b.ls.length lc] 52))) := Lib.hid (hb.trans (hby.mono (by omega)))
        have hC1 := putBox_any (w.heap.size + 1) (wr.alloc (.cells #[.string b.name, .int .i64 (n1 : Int), .int .i64 (n2 : Int), .slice la b.ls.length lc] 52)) u5 l' b.name n1 n2 (.slice la b.ls.length lc) b.ls K0.out (by omega) (fun u hu => hlw.below (hbw.trans ((hby.mono (by omega)).trans (hu.mono (by omega)))))
          (fun p hp => by
            have g6 := g5 p.1 (List.mem_map_of_mem hp)
            exact ⟨⟨g6.1, g6.2.1⟩, by omega, fun g hg hn => Nat.lt_succ_of_lt ((hlw.bytes p hp).lt g hg hn)⟩) (by omega) (by omega) (by omega) (by omega) (by omega)
        unfold boxV at hC1
        have HC1 := Lib.hid hC1
        have HGO := Lib.hid hgo
        clear hgo hr hb hbw hbx hr5 hp hmem hcs hfit hlw hlv g1 g2 g3 g4 g5 e1 e2 e3 e4 hn1 hn2 hll hby hC1 hH
        go_wp2_with fail
        refine HC1.out.mono ?_
        rintro e w5 ⟨v5, rfl, hro, hg⟩
        have HREL := Lib.hid (And.intro hro (J0.out.trans (hg.below K0.out (by omega))))
        clear hro hg HC1 K0 J0 hzy d0 d1 d2 d3
        go_wp2
        go_roundw
        case rel => exact ⟨k + 1, _, by omega, by go_num, Lib.hid ⟨by rw [← HGO.out]; simp only [List.append_assoc], HREL.out.1, HREL.out.2⟩⟩
        case measure => simp [intOf]; omega
      · have hlt' : ¬ (k : Int) < (bs.length : Int) := by omega
        rw [List.drop_of_length_le (by rw [List.length_map]; omega), List.flatMap_nil, List.append_nil] at hgo
        subst hgo
        have HF := Lib.hid (HFIN.out _ wr hbw hr)
        clear hr hb hbw hbx hr5 hH
        go_wp2
        exact bodyPost_ret (v := .tuple #[u5, .int .i64 0]) (by simp [results, Tryd.results25, go_sem]) rfl HF.out
  · have HKK := Lib.hid hK
    have HB0 := Lib.hid hb0
    clear h hT hb0 hz hrow0 hC hK hs
    go_enter Tryd.func25, Tryd.ntmps25
    go_wp2_with fail
    refine HC.out.mono ?_
    rintro e w1 ⟨rfl, hb⟩
    have HFIN : Hid (PutUR ⟨name, valid, bs.map Bx.dat⟩ w (.returned (.tuple #[.slice none 0 0, .int .i64 K])) w1) := Lib.hid ⟨HB0.out.trans (hb.mono (by omega)), Or.inl ⟨by rw [HKK.out]; exact hk0, by rw [HKK.out]⟩⟩
    clear hb HC HKK HB0
    go_wp2
    exact bodyPost_ret (v := .tuple #[.slice none 0 0, .int .i64 K]) (by simp [results, Tryd.results25, go_sem]) rfl HFIN.out
end Go.Proofs.YtjljbnilckkjnaaDoor
