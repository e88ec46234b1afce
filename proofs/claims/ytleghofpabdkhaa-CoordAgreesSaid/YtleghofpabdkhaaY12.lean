/- Coord: slices.DeleteFunc of the transactions that are asked; a life begins. -/
import Derived.Test.YtleghofpabdkhaaY8
namespace Go.Proofs.Ytleghofpabdkhaa
open Go Go.RowKit

def zTrn : Trn := ⟨⟨0, 0, 0⟩, St4.none, St4.none, false⟩
theorem zerosT (n : Nat) : (Builtin.zeroCells (Value.agg (cellsT zTrn).toArray).cells n).toList = (List.replicate n zTrn).flatMap cellsT := by
  apply List.ext_getElem?
  intro i
  have hcl : (cellsT zTrn).length = 12 := rfl
  by_cases h : i < n * 12
  · have hq : i / 12 < n := by omega
    have hr : i % 12 < 12 := Nat.mod_lt _ (by decide)
    have hz : (List.replicate n zTrn)[i / 12]? = some zTrn := by rw [List.getElem?_replicate, if_pos hq]
    have hat := fun u hu => flat_at cellsT 12 (List.replicate n zTrn) (i / 12) (fun _ _ => rfl) zTrn hz (i % 12) u hu
    rw [show i / 12 * 12 + i % 12 = i by omega] at hat
    have hl : (Builtin.zeroCells (Value.agg (cellsT zTrn).toArray).cells n).toList[i]? = some ((cellsT zTrn).toArray[i % 12]!) := by
      simp [Builtin.zeroCells, Value.cells, hcl, h]
    rw [hl]
    symm
    apply hat
    rcases (by omega : i % 12 = 0 ∨ i % 12 = 1 ∨ i % 12 = 2 ∨ i % 12 = 3 ∨ i % 12 = 4 ∨ i % 12 = 5 ∨ i % 12 = 6 ∨ i % 12 = 7 ∨ i % 12 = 8 ∨ i % 12 = 9 ∨ i % 12 = 10 ∨ i % 12 = 11) with e | e | e | e | e | e | e | e | e | e | e | e <;> rw [e] <;> rfl
  · rw [List.getElem?_eq_none, List.getElem?_eq_none]
    · rw [flatT_len, List.length_replicate]; omega
    · simp [Builtin.zeroCells, Value.cells, hcl]; omega
theorem run_clear_tr (w : World) (ty : TypeId) (g o n c : Nat) (hn : 0 < n) (hc : ∀ j, j < n * 12 → (w.cell? ⟨g, o + j, none⟩).isSome = true) (hf : ∀ j, j < n * 12 → w.frozen? ⟨g, o + j, none⟩ = false) :
    (Builtin.clear_ #[70] ty #[.slice (some ⟨g, o, none⟩) n c]).run Try.prog w = .ok (.tuple #[]) (w.setCells g o ((List.replicate n zTrn).flatMap cellsT)) := by
  have hlen : ((List.replicate n zTrn).flatMap cellsT).length = n * 12 := by rw [flatT_len, List.length_replicate]
  have hst := run_storeCells_cells (P := Try.prog) g o ((List.replicate n zTrn).flatMap cellsT) 0 w (by rw [hlen]; simpa using hc) (by rw [hlen]; simpa using hf) (by
    intro v hv
    obtain ⟨p, _, hv⟩ := List.mem_flatMap.1 hv
    exact cellsT_cell p v hv)
  simp only [Nat.add_zero] at hst
  obtain ⟨m, rfl⟩ : ∃ m, n = m + 1 := ⟨n - 1, by omega⟩
  have hz := zerosT (m + 1)
  unfold cellsT zTrn St4.none at hz
  simp only [Builtin.clear_]
  unfold cellsT zTrn St4.none at hst
  simp [run_underlying Try.underlying70, hz, hst]
  rfl
theorem ownsT_trim {B : Nat} {w : World} {g c : Nat} {rs : List Trn} {n : Nat} (h : w.ownsRow B 78 12 (.slice (some ⟨g, 0, none⟩) n c) n (rs.flatMap cellsT)) (hn : rs.length = n) (i : Nat) (hi : i ≤ n) : TsAt B w (.slice (some ⟨g, 0, none⟩) i c) (rs.take i) := by
  subst hn
  have hl : (rs.take i).length = i := by rw [List.length_take]; omega
  have hc : (rs.take i).flatMap cellsT = (rs.flatMap cellsT).take (i * 12) := (flat_take cellsT 12 rs i (fun _ _ => rfl)).symm
  show World.ownsRow _ _ _ _ _ (rs.take i).length _
  rw [hl]
  refine ⟨by rw [flatT_len, hl], Or.inr ?_⟩
  rcases h.2 with ⟨e, _⟩ | ⟨g', cap, cur, e, hg, hh, h1, h2, h3, h4⟩
  · cases e
  · injection e with e1 _ e3
    injection e1 with e1
    injection e1 with e1
    subst e1 e3
    refine ⟨g, c, cur, rfl, hg, hh, by omega, h2, h3, ?_⟩
    rw [hc, ← h4, List.take_take]
    congr 1
    omega
theorem ownsT_clear {B : Nat} {w : World} {g c : Nat} {rs : List Trn} {n : Nat} (h : w.ownsRow B 78 12 (.slice (some ⟨g, 0, none⟩) n c) n (rs.flatMap cellsT)) (hn : rs.length = n) (i : Nat) (hi : i ≤ n) :
    TsAt B (w.setCells g (i * 12) ((List.replicate (n - i) zTrn).flatMap cellsT)) (.slice (some ⟨g, 0, none⟩) i c) (rs.take i) := by
  subst hn
  have h2 := owns_set h (i * 12) ((List.replicate (rs.length - i) zTrn).flatMap cellsT) (by rw [flatT_len, List.length_replicate]; omega)
  have ho : over (rs.flatMap cellsT) (i * 12) ((List.replicate (rs.length - i) zTrn).flatMap cellsT) = (rs.take i ++ List.replicate (rs.length - i) zTrn).flatMap cellsT := by
    unfold over
    rw [flat_take cellsT 12 rs i (fun _ _ => rfl), List.drop_of_length_le (by rw [flatT_len, flatT_len, List.length_replicate]; omega), List.append_nil, List.flatMap_append]
  rw [ho] at h2
  have hl : (rs.take i ++ List.replicate (rs.length - i) zTrn).length = rs.length := by rw [List.length_append, List.length_take, List.length_replicate]; omega
  have h4 := ownsT_trim h2 hl i hi
  rwa [List.take_left' (by rw [List.length_take]; omega)] at h4
/-- Where the loop stands: the first j looked at, i of them kept. -/
structure DelS (B : Nat) (w wr : World) (g c : Nat) (qs : List Trn) (i j : Nat) : Prop where
  ex : ∃ rs : List Trn, wr.ownsRow B 78 12 (.slice (some ⟨g, 0, none⟩) qs.length c) qs.length (rs.flatMap cellsT) ∧ rs.length = qs.length ∧ rs.take i = (qs.take j).filter (·.dn) ∧ rs.drop j = qs.drop j
  lt : i < j
  le : j ≤ qs.length
  fr : Fr (· = g) w wr
theorem DelS.keep {B : Nat} {w wr wn : World} {g c : Nat} {qs : List Trn} {i j : Nat} (h : DelS B w wr g c qs i j) (p : Trn) (hp : qs[j]? = some p) (hk : p.dn = true) (hn : Below wr.heap.size wr wn) :
    DelS B w (wn.setCells g (i * 12) (cellsT p)) g c qs (i + 1) (j + 1) := by
  obtain ⟨⟨rs, h1, h2, h3, h4⟩, lt, le, fr⟩ := h
  have hj := (List.getElem?_eq_some_iff.1 hp).1
  have hown := owns_frame h1 (fun k hk => hn.block k (World.ownsRow.lt h1 k hk).2)
  refine ⟨⟨rs.set i p, ?_, by rw [List.length_set]; exact h2, ?_, ?_⟩, by omega, by omega, ?_⟩
  · have h5 := owns_set hown (i * 12) (cellsT p) (by rw [cellsT_len]; omega)
    rwa [flat_set cellsT 12 rs i (fun _ _ => rfl) _ rfl (by omega)] at h5
  · rw [List.take_add_one (i := j), hp, List.filter_append, ← h3]
    simp only [Option.toList_some, List.filter_cons, hk, if_true, List.filter_nil]
    rw [List.take_add_one, List.getElem?_set_self (by omega), List.take_set_of_le (by omega)]
    rfl
  · have : (rs.set i p).drop (j + 1) = rs.drop (j + 1) := by rw [List.drop_set, if_pos (by omega)]
    rw [this, ← List.drop_drop, h4, List.drop_drop]
  · exact (fr.trans (Fr.of_below (· = g) hn) (fun _ _ h => h) (fun _ _ h => h)).setCells g (i * 12) (Or.inl rfl) _
theorem DelS.drop {B : Nat} {w wr wn : World} {g c : Nat} {qs : List Trn} {i j : Nat} (h : DelS B w wr g c qs i j) (p : Trn) (hp : qs[j]? = some p) (hk : p.dn = false) (hn : Below wr.heap.size wr wn) : DelS B w wn g c qs i (j + 1) := by
  obtain ⟨⟨rs, h1, h2, h3, h4⟩, lt, le, fr⟩ := h
  have hj := (List.getElem?_eq_some_iff.1 hp).1
  refine ⟨⟨rs, owns_frame h1 (fun k hk => hn.block k (World.ownsRow.lt h1 k hk).2), h2, ?_, ?_⟩, by omega, by omega, fr.trans (Fr.of_below (· = g) hn) (fun _ _ h => h) (fun _ _ h => h)⟩
  · rw [List.take_add_one (i := j), hp, List.filter_append, ← h3]
    simp [hk]
  · rw [← List.drop_drop, h4, List.drop_drop]
/-- What DeleteFunc tells: those that are done, in the same block. -/
def DelF (B : Nat) (W : World) (g c : Nat) (qs : List Trn) (e : Ending) (w' : World) : Prop :=
  e = .returned (.slice (some ⟨g, 0, none⟩) (qs.filter (·.dn)).length c) ∧ TsAt B w' (.slice (some ⟨g, 0, none⟩) (qs.filter (·.dn)).length c) (qs.filter (·.dn)) ∧ Fr (· = g) W w'
theorem idx_before {α : Type} (f : α → Bool) : ∀ (l : List α) (k j : Nat), idxF f k l = ((k + j : Nat) : Int) → ∀ m t, m < j → l[m]? = some t → f t = false
  | [], _, _, _, _, _, _, h => by simp at h
  | x :: l, k, j, hi, m, t, hm, ht => by
    rw [idxF] at hi
    by_cases h : f x = true
    · rw [if_pos h] at hi; omega
    · rw [if_neg h] at hi
      cases m with
      | zero => simp at ht; subst ht; simpa using h
      | succ m => exact idx_before f l (k + 1) (j - 1) (by rw [hi]; congr 1; omega) m t (by omega) (by simpa using ht)
theorem DelS.first {B : Nat} {w w1 : World} {g c : Nat} {qs : List Trn} {fi : Nat} {t : Trn} (h : TsAt B w (.slice (some ⟨g, 0, none⟩) qs.length c) qs) (hb : Below w.heap.size w w1) (hfi : qs[fi]? = some t) (hdn : t.dn = false) (hf : idxF liveB 0 qs = (fi : Int)) : DelS B w w1 g c qs fi (fi + 1) := by
  have hfl := (List.getElem?_eq_some_iff.1 hfi).1
  refine ⟨⟨qs, owns_frame h (fun k hk => hb.block k (World.ownsRow.lt h k hk).2), rfl, ?_, rfl⟩, by omega, by omega, Fr.of_below _ hb⟩
  rw [List.take_add_one, hfi, List.filter_append, Option.toList_some, List.filter_cons, hdn]
  simp only [Bool.false_eq_true, if_false, List.filter_nil, List.append_nil]
  symm
  rw [List.filter_eq_self]
  intro a ha
  obtain ⟨j, hj⟩ := List.getElem?_of_mem ha
  rw [List.getElem?_take] at hj
  split at hj
  · have := idx_before liveB qs 0 fi (by rw [hf, Nat.zero_add]) j a (by assumption) hj
    unfold liveB at this
    simpa using this
  · cases hj
theorem DelS.done {B : Nat} {w wr : World} {g c : Nat} {qs : List Trn} {i : Nat} (h : DelS B w wr g c qs i qs.length) :
    (∀ j, j < (qs.length - i) * 12 → (wr.cell? ⟨g, i * 12 + j, none⟩).isSome = true) ∧ (∀ j, j < (qs.length - i) * 12 → wr.frozen? ⟨g, i * 12 + j, none⟩ = false) ∧
      DelF B w g c qs (.returned (.slice (some ⟨g, 0, none⟩) i c)) (wr.setCells g (i * 12) ((List.replicate (qs.length - i) zTrn).flatMap cellsT)) := by
  obtain ⟨⟨rs, h1, h2, h3, h4⟩, lt, _, fr⟩ := h
  rw [List.take_length] at h3
  have hil : i = (qs.filter (·.dn)).length := by rw [← h3, List.length_take]; omega
  have hth := fun j (hj : j < (qs.length - i) * 12) => owns_there (n := qs.length) (size := 12) (base := B) h1 (i * 12) ((qs.length - i) * 12) (by omega) j hj
  refine ⟨fun j hj => (hth j hj).1, fun j hj => (hth j hj).2, by rw [← hil], ?_, fr.setCells g _ (Or.inl rfl) _⟩
  have := ownsT_clear h1 h2 i (by omega)
  rw [h3] at this
  rwa [← hil]
set_option maxHeartbeats 8000000 in
set_option maxRecDepth 100000 in
theorem delF_any (B g c : Nat) (qs : List Trn) (w : World) (h : TsAt B w (.slice (some ⟨g, 0, none⟩) qs.length c) qs) (hn : qs.length ≤ 1000) :
    Calls Try.prog 62 #[.slice (some ⟨g, 0, none⟩) qs.length c, .func (.func 63) #[] #[]] w (DelF B w g c qs) := by
  have HIX := Lib.hid (idxlive_any B w _ qs h hn)
  have hcap : qs.length ≤ c := by
    obtain ⟨_, _, e, hle⟩ := owns_shape h
    injection e with _ _ e3
    omega
  rcases idx_spec liveB qs 0 with ⟨e1, e2⟩ | ⟨fi, t, e1, e2, e3, e4⟩
  · have hall : qs.filter (·.dn) = qs := by
      rw [List.filter_eq_self]
      intro a ha
      have := e2 a ha
      unfold liveB at this
      simpa using this
    have HE := Lib.hid (fun w1 (hb1 : Below w.heap.size w w1) => (⟨by rw [hall], by rw [hall]; exact owns_frame h (fun k hk => hb1.block k (World.ownsRow.lt h k hk).2), Fr.of_below _ hb1⟩ : DelF B w g c qs (.returned (.slice (some ⟨g, 0, none⟩) qs.length c)) w1))
    rw [e1] at HIX
    clear h hall e1 e2
    go_enter Try.func62, Try.ntmps62
    go_wp2_with fail
    refine HIX.out.mono ?_
    rintro e w1 ⟨rfl, hb1⟩
    go_wp2
    go_ret
    exact HE.out w1 hb1
  · rw [Nat.zero_add] at e1
    rw [e1] at HIX
    have hdn : t.dn = false := by unfold liveB at e3; simpa using e3
    have HST := Lib.hid (fun w1 (hb1 : Below w.heap.size w w1) => DelS.first h hb1 e2 hdn e1)
    have hfi1 : fi ≤ 1000 := by omega
    clear h e1 e2 e3 hdn
    go_enter Try.func62, Try.ntmps62
    go_wp2_with fail
    refine HIX.out.mono ?_
    rintro e w1 ⟨rfl, hb1⟩
    have HST1 := Lib.hid (HST.out w1 hb1)
    have hm1 : ((fi : Int) == -1) = false := by rw [beq_eq_false_iff_ne]; omega
    clear hb1 HST HIX
    go_wp2
    go_loopw [5, 6] (fun i j wr => ∃ m k : Nat, i = .int .i64 m ∧ j = .int .i64 k ∧ m < k ∧ k ≤ qs.length ∧ Hid (DelS B w wr g c qs m k)) (fun _ j _ => qs.length - (intOf j).toNat)
    case atStart => exact ⟨fi, fi + 1, rfl, by go_num, by omega, by omega, HST1.out⟩
    case round =>
      clear HST1
      obtain ⟨m, k, rfl, rfl, hmk, hkl, hH⟩ := hrel
      by_cases hlt : k < qs.length
      · have hlt' : (k : Int) < (qs.length : Int) := by omega
        obtain ⟨p, hp⟩ : ∃ p, qs[k]? = some p := ⟨_, List.getElem?_eq_getElem hlt⟩
        obtain ⟨⟨rs, h1, h2, h3, h4⟩, lt, _, fr⟩ := hH.out
        have hrk : rs[k]? = some p := by
          have := congrArg (fun l => l[0]?) h4
          simp only [List.getElem?_drop, Nat.add_zero] at this
          rw [this]; exact hp
        have hr : wr.rangeAt g (k * 12) (cellsT p) := fun j u hj => by
          have := World.ownsRow.cells h1 (g := g) rfl _ u (flat_at cellsT 12 rs k (fun _ _ => rfl) p hrk j u hj)
          rwa [addr_plus, Nat.zero_add] at this
        have hglt := (World.ownsRow.lt h1 g rfl).2
        have hth := owns_there h1 (m * 12) 12 (by omega)
        obtain ⟨wv, hwv⟩ : ∃ wv, wr.alloc (.cells (cellsT p).toArray 78) = wv := ⟨_, rfl⟩
        have hbv : Below wr.heap.size wr wv := by rw [← hwv]; exact (Below.refl _ wr).alloc (Nat.le_refl _) _
        have hrv : wv.heap[wr.heap.size]? = some (.cells (cellsT p).toArray 78 (0, 0)) := by rw [← hwv]; exact heap_alloc_new wr _
        have hcl := live1_any p wv
        unfold trnV at hcl
        have HC := Lib.hid hcl
        have HR := Lib.hid hr
        have HI := Lib.hid (infoT12 (cellsT p) rfl)
        have HI2 : Hid ((Try.prog.info? 78).map (·.size) = some (cellsT p).toArray.size) := Lib.hid (by show _ = some 12; kernel_rfl)
        have HALL : Hid ((cellsT p).toArray.all (·.oneCell') = true) := Lib.hid (all_oneCell_toArray (cellsT_cell p))
        have HWV := Lib.hid hwv
        have HBV := Lib.hid hbv
        have HRV := Lib.hid hrv
        have HTH := Lib.hid hth
        have HP := Lib.hid hp
        have hml : m < qs.length := by omega
        clear hcl hr hth hwv hbv hrv h1 h2 h3 h4 hrk lt fr hp
        have HZV : Hid (∀ w : World, (zeroValue 78).run Try.prog w = .ok (.agg (cellsT zTrn).toArray) w) := Lib.hid (fun w => Try.zeroValue78 w)
        go_wp2_with (first
          | (refine wpList_alloc_row rfl 78 rfl (cellsT zTrn).toArray (HZV.out _) ?_)
          | (refine wpList_store_new rfl 78 (.tmp 7) (.tmp 25) rfl (cellsT zTrn).toArray (cellsT p).toArray rfl rfl HI2.out rfl HALL.out ?_; rw [HWV.out])
          | (refine wpList_load_mid rfl 78 _ rfl g (k * 12) rfl _ _ HR.out Try.underlying78 rfl HI.out ?_)
          | (refine wpList_load_row rfl 78 _ rfl wr.heap.size rfl 78 _ (0, 0) _ HRV.out Try.underlying78 rfl HI2.out ?_))
        refine HC.out.mono ?_
        rintro e w2 ⟨rfl, hb2⟩
        have hbb := HBV.out.trans (hb2.mono HBV.out.size)
        have hrv2 := (hb2.block _ (Array.getElem?_eq_some_iff.1 HRV.out).1).trans HRV.out
        have hth2 : w2.there g (m * 12) 12 := fun j hj => ⟨by rw [hbb.cell (p := ⟨g, m * 12 + j, none⟩) hglt]; exact (HTH.out j hj).1, by rw [hbb.frozen (p := ⟨g, m * 12 + j, none⟩) hglt]; exact (HTH.out j hj).2⟩
        have HRV2 := Lib.hid hrv2
        have HTH2 := Lib.hid hth2
        have HBB := Lib.hid hbb
        clear hbb hb2 hrv2 hth2 HC HR HI HWV HBV HRV HTH HZV
        cases hd : p.dn with
        | false =>
          have HN := Lib.hid (hH.out.drop p HP.out hd HBB.out)
          have hlv : liveB p = true := by unfold liveB; rw [hd]; rfl
          rw [hlv]
          clear hd hlv hH HTH2 HRV2 HALL HI2 HP HBB
          go_wp2
          go_roundw
          case rel => exact ⟨m, k + 1, rfl, by go_num, by omega, by omega, HN⟩
          case measure => simp [intOf]; omega
        | true =>
          have HN := Lib.hid (hH.out.keep p HP.out hd HBB.out)
          have hlv : liveB p = false := by unfold liveB; rw [hd]; rfl
          rw [hlv]
          obtain ⟨w3, hw3⟩ : ∃ w3, w2.setCells g (m * 12) (cellsT p) = w3 := ⟨_, rfl⟩
          rw [hw3] at HN
          have HW3 : Hid (w2.setCells g (m * 12) (cellsT p).toArray.toList = w3) := Lib.hid hw3
          clear hd hlv hH HP HBB hw3
          go_wp2_with (first
            | (refine wpList_load_row rfl 78 _ rfl wr.heap.size rfl 78 _ (0, 0) _ HRV2.out Try.underlying78 rfl HI2.out ?_)
            | (refine wpList_store_mid rfl 78 _ _ rfl g (m * 12) _ rfl rfl HTH2.out HI2.out HALL.out ?_; rw [HW3.out]))
          go_roundw
          case rel => exact ⟨m + 1, k + 1, by go_num, by go_num, by omega, by omega, HN⟩
          case measure => simp [intOf]; omega
      · have hk : k = qs.length := by omega
        subst hk
        obtain ⟨hce, hfz, hend⟩ := hH.out.done
        have HEND := Lib.hid hend
        have hclr := fun ty => run_clear_tr wr ty g (m * 12) (qs.length - m) (c - m) (by omega) hce hfz
        obtain ⟨w3, hw3⟩ : ∃ w3, wr.setCells g (m * 12) ((List.replicate (qs.length - m) zTrn).flatMap cellsT) = w3 := ⟨_, rfl⟩
        rw [hw3] at HEND hclr
        clear hend hce hfz hH hw3
        go_wp2
        go_ret
        exact HEND.out
end Go.Proofs.Ytleghofpabdkhaa
