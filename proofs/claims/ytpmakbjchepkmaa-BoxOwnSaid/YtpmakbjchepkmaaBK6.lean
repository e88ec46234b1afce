/- Box: slices.DeleteFunc at letters, walked. -/
import Derived.Test.YtpmakbjchepkmaaBK5
namespace Go.Proofs.Ytpmakbjchepkmaa
open Go Go.RowKit

/-- What DeleteFunc tells: the letters that stay, in the same block; no other block is touched. -/
def DelR (B : Nat) (W : World) (g c : Nat) (qs : List LV) (u : Int) (e : Ending) (w' : World) : Prop :=
  e = .returned (.slice (some ⟨g, 0, none⟩) (qs.filter (stays u)).length c) ∧ Owns B w' (.slice (some ⟨g, 0, none⟩) (qs.filter (stays u)).length c) (qs.filter (stays u)) ∧ Fr (· = g) W w'
theorem DelS.first {B : Nat} {w w1 : World} {g c : Nat} {qs : List LV} {u : Int} {fi : Nat} (h : Owns B w (.slice (some ⟨g, 0, none⟩) qs.length c) qs) (hb : Below w.heap.size w w1) (hfi : fi < qs.length) (hf : findU (qs.map (·.1)) u = fi) : DelS B w w1 g c qs u fi (fi + 1) := by
  refine ⟨⟨qs, Owns.below h hb, rfl, ?_, rfl⟩, by omega, by omega, Fr.of_below _ hb⟩
  have hlt : ((qs.map (·.1)).findIdx fun x => x.uid == u) < (qs.map (·.1)).length := by have : ((qs.map (·.1)).findIdx fun x => x.uid == u) = fi := hf; rw [this, List.length_map]; exact hfi
  have hat := List.findIdx_getElem (w := hlt)
  have hbefore : ∀ j, (hj : j < fi) → stays u (qs[j]'(by omega)) = true := fun j hj => by
    have hf' : ((qs.map (·.1)).findIdx fun x => x.uid == u) = fi := hf
    have := List.not_of_lt_findIdx (p := fun x : Letr => x.uid == u) (xs := qs.map (·.1)) (i := j) (by rw [hf']; exact hj)
    simp only [List.getElem_map] at this
    unfold stays
    simpa using this
  have hfi' : stays u qs[fi] = false := by
    have hf' : ((qs.map (·.1)).findIdx fun x => x.uid == u) = fi := hf
    simp only [hf', List.getElem_map] at hat
    unfold stays
    rw [hat]; rfl
  rw [List.take_add_one, List.getElem?_eq_getElem hfi, List.filter_append, Option.toList_some, List.filter_cons, hfi']
  simp only [Bool.false_eq_true, if_false, List.filter_nil, List.append_nil]
  symm
  rw [List.filter_eq_self]
  intro a ha
  obtain ⟨j, hj⟩ := List.getElem?_of_mem ha
  rw [List.getElem?_take] at hj
  split at hj
  · rename_i hjl
    obtain ⟨_, rfl⟩ := List.getElem?_eq_some_iff.1 hj
    exact hbefore j hjl
  · cases hj
theorem DelS.done {B : Nat} {w wr : World} {g c : Nat} {qs : List LV} {u : Int} {i : Nat} (h : DelS B w wr g c qs u i qs.length) :
    i = (qs.filter (stays u)).length ∧ (∀ j, j < (qs.length - i) * 3 → (wr.cell? ⟨g, i * 3 + j, none⟩).isSome = true) ∧ (∀ j, j < (qs.length - i) * 3 → wr.frozen? ⟨g, i * 3 + j, none⟩ = false) ∧
      DelR B w g c qs u (.returned (.slice (some ⟨g, 0, none⟩) i c)) (wr.setCells g (i * 3) (cellsP (List.replicate (qs.length - i) Z0))) := by
  obtain ⟨⟨rs, h1, h2, h3, h4⟩, lt, _, fr⟩ := h
  rw [List.take_length] at h3
  have hil : i = (qs.filter (stays u)).length := by rw [← h3, List.length_take]; omega
  have hth := fun j (hj : j < (qs.length - i) * 3) => owns_there (n := qs.length) (size := 3) (xs := cellsP rs) (base := B) (by have := h1; unfold Owns at this; rwa [h2] at this) (i * 3) ((qs.length - i) * 3) (by omega) j hj
  refine ⟨hil, fun j hj => (hth j hj).1, fun j hj => (hth j hj).2, ?_, ?_, fr.setCells g _ (Or.inl rfl) _⟩
  · rw [← hil]
  · rw [← hil]
    have := owns_clear h1 h2 i (by omega)
    rwa [h3] at this

theorem DelS.read {B : Nat} {w wr : World} {g c : Nat} {qs : List LV} {u : Int} {i k : Nat} (h : DelS B w wr g c qs u i k) (p : LV) (hp : qs[k]? = some p) :
    (wr.cell? ⟨g, k * 3, none⟩ = some (.int .i64 p.1.uid) ∧ wr.cell? ⟨g, k * 3 + 1, none⟩ = some (.int .u8 (p.1.flags.toNat : Int)) ∧ wr.cell? ⟨g, k * 3 + 2, none⟩ = some p.2) ∧
    (∃ r : LV, wr.cell? ⟨g, i * 3, none⟩ = some (.int .i64 r.1.uid) ∧ wr.cell? ⟨g, i * 3 + 1, none⟩ = some (.int .u8 (r.1.flags.toNat : Int)) ∧ wr.cell? ⟨g, i * 3 + 2, none⟩ = some r.2) ∧
    wr.frozen? ⟨g, i * 3, none⟩ = false ∧ wr.frozen? ⟨g, i * 3 + 1, none⟩ = false ∧ wr.frozen? ⟨g, i * 3 + 2, none⟩ = false := by
  obtain ⟨⟨rs, h1, h2, h3, h4⟩, lt, _, fr⟩ := h
  have hk := (List.getElem?_eq_some_iff.1 hp).1
  have hrk : rs[k]? = some p := by
    have := congrArg (fun l => l[0]?) h4
    simp only [List.getElem?_drop, Nat.add_zero] at this
    rw [this]; exact hp
  have hri := List.getElem?_eq_getElem (show i < rs.length by omega)
  have hc := fun j v (hv : (cellsP rs)[j]? = some v) => by
    have := World.ownsRow.cells h1 (g := g) rfl j v hv
    rwa [addr_plus, Nat.zero_add] at this
  obtain ⟨a0, a1, a2⟩ := cellsP_at rs k p hrk
  obtain ⟨b0, b1, b2⟩ := cellsP_at rs i _ hri
  have ht := fun j (hj : j < 3) => owns_there (n := qs.length) (size := 3) (xs := cellsP rs) (base := B) (by have := h1; unfold Owns at this; rwa [h2] at this) (i * 3) 3 (by omega) j hj
  exact ⟨⟨hc _ _ a0, hc _ _ a1, hc _ _ a2⟩, ⟨_, hc _ _ b0, hc _ _ b1, hc _ _ b2⟩, (ht 0 (by omega)).2, (ht 1 (by omega)).2, (ht 2 (by omega)).2⟩

set_option maxHeartbeats 4000000 in
set_option maxRecDepth 100000 in
theorem delete_any (B g c : Nat) (qs : List LV) (u : Int) (b : Nat) (w : World) (h : Owns B w (.slice (some ⟨g, 0, none⟩) qs.length c) qs) (hby : ∀ q ∈ qs, Byz w q.2 q.1.bytes) (_hbg : ∀ q ∈ qs, q.2.ownBlock ≠ some g) (hu : w.cell? ⟨b, 0, none⟩ = some (.int .i64 u)) (hb : b ≠ g) (hn : qs.length ≤ 1000) (hcap : qs.length ≤ c) :
    Calls Try.prog 32 #[.slice (some ⟨g, 0, none⟩) qs.length c, .func (.func 42) #[] #[.pointer (some ⟨b, 0, none⟩)]] w (DelR B w g c qs u) := by
  have hlt := World.block_lt_of_cell? w _ hu
  have hlets := Owns.lets h hby
  have hix : Calls Try.prog 28 #[.slice (some ⟨g, 0, none⟩) qs.length c, .func (.func 42) #[] #[.pointer (some ⟨b, 0, none⟩)]] w fun e w' => e = .returned (.int .i64 (if findU (qs.map (·.1)) u = (qs.map (·.1)).length then -1 else ((findU (qs.map (·.1)) u : Nat) : Int))) ∧ Below w.heap.size w w' :=
    (idxL_any _ qs u b w hlets hu hn).mono fun e w' ⟨h1, h2⟩ => ⟨by rw [h1, idxFrom_eq]; simp only [Nat.zero_add]; rfl, h2⟩
  have hfl : findU (qs.map (·.1)) u ≤ (qs.map (·.1)).length := List.findIdx_le_length
  have HCL := Lib.hid (fun x bv W (hs : ∃ ba bc, bv = Value.slice ba x.bytes.length bc) (hc : W.cell? ⟨b, 0, none⟩ = some (.int .i64 u)) => isU_any u x bv b W hc hs)
  have HU := Lib.hid (fun W (hW : Fr (· = g) w W) => (World.cell?_of_block (a := ⟨b, 0, none⟩) (hW.block b hlt (fun e => hb e))).trans hu)
  have HSH := Lib.hid (fun q hq => (hby q hq).1)
  rw [List.length_map] at hix hfl
  generalize hFI : findU (qs.map (·.1)) u = fi at *
  by_cases hg : fi = qs.length
  · rw [if_pos hg] at hix
    have HIX := Lib.hid hix
    have hall : qs.filter (stays u) = qs := by
      rw [List.filter_eq_self]
      intro a ha
      obtain ⟨j, hj⟩ := List.getElem?_of_mem ha
      obtain ⟨hjl, rfl⟩ := List.getElem?_eq_some_iff.1 hj
      have hf' : ((qs.map (·.1)).findIdx fun x => x.uid == u) = fi := hFI
      have := List.not_of_lt_findIdx (p := fun x : Letr => x.uid == u) (xs := qs.map (·.1)) (i := j) (by rw [hf', hg]; exact hjl)
      simp only [List.getElem_map] at this
      unfold stays
      simpa using this
    have HE := Lib.hid (fun w1 (hb1 : Below w.heap.size w w1) => (⟨by rw [hall], by rw [hall]; exact Owns.below h hb1, Fr.of_below _ hb1⟩ : DelR B w g c qs u (.returned (.slice (some ⟨g, 0, none⟩) qs.length c)) w1))
    clear hix h hby _hbg hu hlets hfl hFI hall hg hb hlt HU
    go_enter Try.func32, Try.ntmps32
    go_wp2_with fail
    refine HIX.out.mono ?_
    rintro e w1 ⟨rfl, hb1⟩
    go_wp2
    go_ret
    exact HE.out w1 hb1
  · rw [if_neg hg] at hix
    have HIX := Lib.hid hix
    have hf2 : fi < qs.length := by omega
    have HST := Lib.hid (fun w1 (hb1 : Below w.heap.size w w1) => DelS.first h hb1 hf2 hFI)
    clear hix h hby _hbg hu hlets hfl hFI hg hb hlt
    have hfi1 : fi ≤ 1000 := by omega
    go_enter Try.func32, Try.ntmps32
    go_wp2_with fail
    refine HIX.out.mono ?_
    rintro e w1 ⟨rfl, hb1⟩
    have HST1 := Lib.hid (HST.out w1 hb1)
    have hm1 : ((fi : Int) == -1) = false := by rw [beq_eq_false_iff_ne]; omega
    clear hb1 HST
    go_wp2
    go_loopw [5, 6] (fun i j wr => ∃ m k : Nat, i = .int .i64 m ∧ j = .int .i64 k ∧ DelS B w wr g c qs u m k) (fun _ j _ => qs.length - (intOf j).toNat)
    case atStart => exact ⟨fi, fi + 1, rfl, by go_num, HST1.out⟩
    case round =>
      obtain ⟨m, k, rfl, rfl, hst⟩ := hrel
      have hmk := hst.lt
      have hkl := hst.le
      by_cases hlt : k < qs.length
      · have hp := List.getElem?_eq_getElem hlt
        generalize qs[k] = p at hp
        obtain ⟨⟨a0, a1, a2⟩, ⟨r, b0, b1, b2⟩, f0, f1, f2⟩ := hst.read p hp
        obtain ⟨ba, bc, hbv⟩ := HSH.out p (List.mem_of_getElem? hp)
        obtain ⟨x, pv⟩ := p
        simp only at a0 a1 a2 hbv
        subst hbv
        have hb1 : Below wr.heap.size wr (wr.alloc (.cells #[.int .i64 x.uid, .int .u8 (x.flags.toNat : Int), .slice ba x.bytes.length bc] 44)) := (Below.refl _ wr).alloc (Nat.le_refl _) _
        obtain ⟨W1, hW1⟩ : ∃ W1, W1 = wr.alloc (.cells #[.int .i64 x.uid, .int .u8 (x.flags.toNat : Int), .slice ba x.bytes.length bc] 44) := ⟨_, rfl⟩
        have e0 : W1.cell? ⟨wr.heap.size, 0, none⟩ = some (.int .i64 x.uid) := by rw [hW1]; exact World.cell?_alloc_new _ _ _ _
        have e1 : W1.cell? ⟨wr.heap.size, 1, none⟩ = some (.int .u8 (x.flags.toNat : Int)) := by rw [hW1]; exact World.cell?_alloc_new _ _ _ _
        have e2 : W1.cell? ⟨wr.heap.size, 2, none⟩ = some (.slice ba x.bytes.length bc) := by rw [hW1]; exact World.cell?_alloc_new _ _ _ _
        have hs1 : W1.heap.size = wr.heap.size + 1 := by rw [hW1]; simp
        rw [← hW1] at hb1
        have hcl := HCL.out x (.slice ba x.bytes.length bc) W1 ⟨_, _, rfl⟩ (HU.out W1 (hst.fr.trans (Fr.of_below (· = g) hb1) (fun _ _ h => h) (fun _ _ h => h)))
        unfold letV at hcl
        have hglt := World.block_lt_of_cell? wr _ b0
        have HC := Lib.hid hcl
        have HW1 := Lib.hid hW1
        have HB1 := Lib.hid hb1
        have HST2 := Lib.hid hst
        have HP := Lib.hid hp
        have HR := Lib.hid (⟨⟨e0, e1, e2⟩, hs1⟩ : (W1.cell? ⟨wr.heap.size, 0, none⟩ = some (.int .i64 x.uid) ∧ W1.cell? ⟨wr.heap.size, 1, none⟩ = some (.int .u8 (x.flags.toNat : Int)) ∧ W1.cell? ⟨wr.heap.size, 2, none⟩ = some (.slice ba x.bytes.length bc)) ∧ W1.heap.size = wr.heap.size + 1)
        have HG := Lib.hid (⟨⟨b0, b1, b2⟩, f0, f1, f2⟩ : (wr.cell? ⟨g, m * 3, none⟩ = some (.int .i64 r.1.uid) ∧ wr.cell? ⟨g, m * 3 + 1, none⟩ = some (.int .u8 (r.1.flags.toNat : Int)) ∧ wr.cell? ⟨g, m * 3 + 2, none⟩ = some r.2) ∧ wr.frozen? ⟨g, m * 3, none⟩ = false ∧ wr.frozen? ⟨g, m * 3 + 1, none⟩ = false ∧ wr.frozen? ⟨g, m * 3 + 2, none⟩ = false)
        clear hcl hW1 hb1 hst hp b0 b1 b2 f0 f1 f2 hs1
        go_wp2_with (rw [← HW1.out])
        refine HC.out.mono ?_
        rintro e w2 ⟨rfl, hb2⟩
        have hbb := HB1.out.trans (hb2.mono HB1.out.size)
        clear e0 e1 e2 a0 a1 a2
        obtain ⟨⟨e0, e1, e2⟩, hs1⟩ := HR.out
        have e0 := (hb2.cell (p := ⟨wr.heap.size, 0, none⟩) (by simp only; omega)).trans e0
        have e1 := (hb2.cell (p := ⟨wr.heap.size, 1, none⟩) (by simp only; omega)).trans e1
        have e2 := (hb2.cell (p := ⟨wr.heap.size, 2, none⟩) (by simp only; omega)).trans e2
        obtain ⟨⟨b0, b1, b2⟩, f0, f1, f2⟩ := HG.out
        have b0 := (hbb.cell (p := ⟨g, m * 3, none⟩) hglt).trans b0
        have b1 := (hbb.cell (p := ⟨g, m * 3 + 1, none⟩) hglt).trans b1
        have b2 := (hbb.cell (p := ⟨g, m * 3 + 2, none⟩) hglt).trans b2
        have f0 := (hbb.frozen (p := ⟨g, m * 3, none⟩) hglt).trans f0
        have f1 := (hbb.frozen (p := ⟨g, m * 3 + 1, none⟩) hglt).trans f1
        have f2 := (hbb.frozen (p := ⟨g, m * 3 + 2, none⟩) hglt).trans f2
        have HBB := Lib.hid hbb
        clear hbb hb2 hs1
        have hml : m < qs.length := by omega
        by_cases hR : x.uid = u
        · have hR' : (x.uid == u) = true := by simpa using hR
          have HN := Lib.hid (HST2.out.drop (x, .slice ba x.bytes.length bc) HP.out (by unfold stays; simp [hR']) HBB.out)
          clear hR e0 e1 e2 b0 b1 b2 f0 f1 f2
          go_wp2
          go_roundw
          case rel => exact ⟨m, k + 1, rfl, by go_num, HN.out⟩
          case measure => simp [intOf]; omega
        · have hR' : (x.uid == u) = false := by simpa using hR
          have HN := Lib.hid (HST2.out.keep (x, .slice ba x.bytes.length bc) HP.out (by unfold stays; simp [hR']) HBB.out)
          clear hR
          go_wp2
          go_roundw
          case rel => exact ⟨m + 1, k + 1, by go_num, by go_num, HN.out⟩
          case measure => simp [intOf]; omega
      · have hk : k = qs.length := by omega
        subst hk
        obtain ⟨hil, hce, hfz, hend⟩ := hst.done
        have hml : m < qs.length := hmk
        have HEND := Lib.hid hend
        have hclr := fun ty => run_clear_letters wr ty g (m * 3) (qs.length - m) (c - m) (by omega) hce hfz
        clear hend hce hfz hst hil
        go_wp2
        go_ret
        exact HEND.out
end Go.Proofs.Ytpmakbjchepkmaa
