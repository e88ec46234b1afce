/- Coord: a record's shards. -/
import Derived.Test.YtleghofpabdkhaaY5
import Derived.Test.YtleghofpabdkhaaY6
import Derived.Test.YtleghofpabdkhaaY11
namespace Go.Proofs.Ytleghofpabdkhaa
open Go Go.RowKit

/-- Integers of one's own. -/
def IntO (B : Nat) (W : World) (v : Value) (l : List Int) : Prop := W.ownsRow B 3 1 v l.length (l.map (Value.int .i64))
theorem infoI : (Try.prog.info? 3).map (fun i => (i.zero, i.size, i.bytes)) = some (some (.int .i64 0), 1, 8) := by kernel_rfl
theorem IntO.nil (B : Nat) (W : World) : IntO B W (.slice none 0 0) [] := ⟨rfl, Or.inl ⟨rfl, rfl⟩⟩
theorem IntO.ints {B : Nat} {W : World} {v : Value} {l : List Int} (h : IntO B W v l) : Ints W v l := by
  obtain ⟨a, c, e, hc⟩ := owns_shape h
  refine ⟨a, c, e, fun j x hx => ?_⟩
  rcases h.2 with ⟨_, h0⟩ | ⟨g, cap, cur, e2, hb, hg, _⟩
  · rw [List.length_eq_zero_iff.1 h0] at hx; cases hx
  · rw [e] at e2
    injection e2 with ea _ _
    subst ea
    refine ⟨g, 0, rfl, (Array.getElem?_eq_some_iff.1 hg).1, ?_⟩
    have := World.ownsRow.cells h (g := g) (by rw [e]; rfl) j (.int .i64 x) (by rw [List.getElem?_map, hx]; rfl)
    rw [addr_plus, Nat.zero_add] at this
    rw [Nat.zero_add]; exact this
/-- append of one integer. -/
theorem appI (B : Nat) (w : World) (v : Value) (l : List Int) (z : Int) (hv : IntO B w v l) (hB : B ≤ w.heap.size) (hl : l.length ≤ 1000000) :
    ∃ v' w', (∀ ty, (Builtin.append_ #[31, 31] ty #[v, .slice (some ⟨w.heap.size, 0, none⟩) 1 1]).run Try.prog (w.alloc (.cells #[.int .i64 z] 3)) = .ok v' w') ∧ IntO B w' v' (l ++ [z]) ∧ Below B w w' := by
  have hb : Below w.heap.size w (w.alloc (.cells #[.int .i64 z] 3)) := (Below.refl _ w).alloc (Nat.le_refl _) _
  have hv' := owns_frame hv (fun k hk => hb.block k (World.ownsRow.lt hv k hk).2)
  obtain ⟨i, hi, hz, hs, hbs⟩ := info_parts infoI
  obtain ⟨v', w', hr, ho, hg, hwh⟩ := app_own (P := Try.prog) _ 31 3 i _ 1 8 Try.underlying31 hi hz hs hbs rfl (by decide) v l.length (l.map (Value.int .i64)) (World.ownsRow.mono hv' (Nat.zero_le _)) ⟨w.heap.size, 0, none⟩ 1 1 [.int .i64 z] rfl (by decide)
    (fun j u hu => by rw [addr_plus, Nat.zero_add, cell_of_row _ _ _ _ _ _ (heap_alloc_new w _)]; simpa using hu) (by intro u hu; simp only [List.mem_cons, List.not_mem_nil, or_false] at hu; subst hu; rfl) (by unfold maxLen; omega) (by omega)
  have hcl : (l ++ [z]).map (Value.int .i64) = l.map (Value.int .i64) ++ [.int .i64 z] := by simp
  have hln : (l ++ [z]).length = l.length + 1 := by simp
  rw [← hcl, ← hln] at ho
  have hfr : Fr (fun k => v.ownBlock = some k) w w' := (Fr.of_below _ hb).grown hg (fun k hk => Or.inl hk)
  refine ⟨v', w', hr, ⟨ho.1, ?_⟩, hfr.below hB (fun k e => (World.ownsRow.lt hv k e).1)⟩
  rcases ho.2 with h0 | ⟨g, cap, cur, e, _, rest⟩
  · exact Or.inl h0
  · refine Or.inr ⟨g, cap, cur, e, ?_, rest⟩
    rcases hwh g (by rw [e]; rfl) with h1 | h1
    · exact (World.ownsRow.lt hv g h1).1
    · have hsz : (w.alloc (.cells #[.int .i64 z] 3)).heap.size = w.heap.size + 1 := by simp
      omega
/-- The shards that a record names. -/
def shards (l : List UInt8) : List Int := l.map fun b => (b.toNat : Int)
/-- What set tells. -/
def RSetR (w : World) (D : Nat) (l : List UInt8) (e : Ending) (w' : World) : Prop :=
  e = .returned (.tuple #[setV (setE (shards (restV 1 l))).1, .bool ((setE (shards (restV 1 l))).2 && decide ((numV 1 l : Int) = ((restV 1 l).length : Int)))]) ∧ Fr (· = D) w w'
set_option maxHeartbeats 16000000 in
set_option maxRecDepth 100000 in
theorem rset_any (D : Nat) (w : World) (sv : Value) (l : List UInt8) (hr : Rdr w D sv l) (hl : l.length ≤ 1000000) :
    Calls Try.prog 42 #[.pointer (some ⟨D, 0, none⟩)] w (RSetR w D l) := by
  obtain ⟨W0, hW0⟩ : ∃ W0, w.alloc (.cells (setA St4.none) 74) = W0 := ⟨_, rfl⟩
  have hb0 : Below w.heap.size w W0 := by rw [← hW0]; exact (Below.refl _ w).alloc (Nat.le_refl _) _
  have hr0 : W0.heap[w.heap.size]? = some (.cells (setA St4.none) 74 (0, 0)) := by rw [← hW0]; exact heap_alloc_new w _
  have hs0 : W0.heap.size = w.heap.size + 1 := by rw [← hW0]; simp
  have HNM := Lib.hid (number_any W0 D sv l 1 (hr.below hb0) (by decide) (by decide) (by omega))
  have hDl := hr.lt
  have H0 := Lib.hid (And.intro hb0 (And.intro hr0 (And.intro hs0 hDl)))
  have HW0 := Lib.hid hW0
  obtain ⟨q, hq⟩ : ∃ q, restV 1 l = q := ⟨_, rfl⟩
  obtain ⟨N, hN⟩ : ∃ N, numV 1 l = N := ⟨_, rfl⟩
  have hql : q.length ≤ 1000000 := by rw [← hq]; unfold restV; split <;> (try rw [List.length_drop]) <;> omega
  obtain ⟨S, hS⟩ : ∃ S, (setE (shards q)).1 = S := ⟨_, rfl⟩
  obtain ⟨R, hR⟩ : ∃ R, (setE (shards q)).2 = R := ⟨_, rfl⟩
  have HSR : Hid ((setE (shards q)).1 = S ∧ (setE (shards q)).2 = R) := Lib.hid ⟨hS, hR⟩
  have HE0 : Hid (∀ (b : Bool) w', (R && decide ((N : Int) = (q.length : Int))) = b → Fr (· = D) w w' → RSetR w D l (.returned (.tuple #[setV S, .bool b])) w') := Lib.hid (fun b w' hb hf => ⟨by rw [hq, hN, hS, hR, hb], hf⟩)
  unfold NumR at HNM
  rw [hq, hN] at HNM
  have HI := Lib.hid infoS4
  have HZ := Lib.hid setA_cells
  clear hr hb0 hr0 hs0 hDl hW0 hq hN hS hR
  unfold setA St4.none at HW0
  go_enter Try.func42, Try.ntmps42
  go_wp2_with (first | rw [HW0.out])
  refine HNM.out.mono ?_
  rintro e w1 ⟨s1, rfl, hr1, ho1, hf1⟩
  clear HNM HW0
  obtain ⟨sa, sc, rfl⟩ := hr1.byz.1
  have c0 : w1.cell? ⟨D, 0, none⟩ = some (.slice sa q.length sc) := cell_of_row _ _ _ _ _ _ hr1.blk
  have HF1 : Hid (Fr (· = D) w w1 ∧ w1.heap[w.heap.size]? = some (.cells (setA St4.none) 74 (0, 0)) ∧ w.heap.size < w1.heap.size) := Lib.hid (by
    obtain ⟨a1, a2, a3, a4⟩ := H0.out
    refine ⟨(Fr.of_below (· = D) a1).trans hf1 (fun _ _ h => h) (fun _ _ h => h), (hf1.block _ (by omega) (by omega)).trans a2, by have := hf1.size; omega⟩)
  have HC : Hid (∀ k (hk : k < q.length), ∃ g off, sa = some ⟨g, off, none⟩ ∧ g < w1.heap.size ∧ w1.cell? ⟨g, off + k, none⟩ = some (.int .u8 ((q[k]).toNat : Int))) := Lib.hid (fun k hk => by
    have hne : q ≠ [] := fun e => by subst e; simp at hk
    have hb := hr1.byz.2 hne
    obtain ⟨g, off, cap, e1, hcap, hg, hc⟩ := hb.cell (by omega)
    cases e1
    exact ⟨g, off, rfl, hb.lt g rfl, hc k hk⟩)
  clear hr1 ho1 hf1 H0
  go_wp2_with fail
  go_loopw [5, 7, 17] (fun lv _ iv wr => ∃ k : Nat, k ≤ q.length ∧ iv = .int .i64 (k : Int) ∧ Hid (IntO w1.heap.size wr lv (shards (q.take k)) ∧ Below w1.heap.size w1 wr)) (fun _ _ iv _ => q.length - (intOf iv).toNat)
  case atStart => exact ⟨0, Nat.zero_le _, rfl, Lib.hid ⟨IntO.nil _ _, Below.refl _ _⟩⟩
  case round =>
    clear c0
    obtain ⟨k, hk, rfl, hH⟩ := hrel
    by_cases hlt : k < q.length
    · have hlt' : (k : Int) < (q.length : Int) := by omega
      obtain ⟨g, off, rfl, hg, hc⟩ := HC.out k hlt
      obtain ⟨ho, hbl⟩ := hH.out
      have hck : wr.cell? ⟨g, off + k, none⟩ = some (.int .u8 ((q[k]).toNat : Int)) := (hbl.cell (p := ⟨g, off + k, none⟩) hg).trans hc
      have hb3 := (q[k]).toNat_lt
      obtain ⟨v', w', ha, ho2, hbb⟩ := appI w1.heap.size wr _ (shards (q.take k)) ((q[k]).toNat : Int) ho hbl.size (by unfold shards; rw [List.length_map, List.length_take]; omega)
      have hsn : shards (q.take k) ++ [((q[k]).toNat : Int)] = shards (q.take (k + 1)) := by
        unfold shards
        rw [List.take_add_one, List.getElem?_eq_getElem hlt, List.map_append]
        rfl
      rw [hsn] at ho2
      have HN : Hid (IntO w1.heap.size w' v' (shards (q.take (k + 1))) ∧ Below w1.heap.size w1 w') := Lib.hid ⟨ho2, hbl.trans hbb⟩
      have HA := Lib.hid ha
      clear hc ho hbl ha ho2 hbb hsn hH HC HF1
      go_wp2_with (first | (at_builtin; refine wpList_append_run _ rfl _ _ 31 31 rfl _ _ rfl rfl _ w' HA.out ?_))
      go_roundw
      case rel => exact ⟨k + 1, by omega, by go_num, HN⟩
      case measure => simp [intOf]; omega
    · have hkn : k = q.length := by omega
      subst hkn
      obtain ⟨ho, hbl⟩ := hH.out
      rw [List.take_of_length_le (Nat.le_refl _)] at ho
      obtain ⟨la, lc, rfl, _⟩ := owns_shape ho
      have hsl : (shards q).length = q.length := by unfold shards; rw [List.length_map]
      rw [hsl] at ho ⊢
      have hso := setOf_any _ (shards q) wr (by have := IntO.ints ho; exact this) (by omega)
      unfold SetR at hso
      rw [HSR.out.1, HSR.out.2] at hso
      have HSO := Lib.hid hso
      have HBL := Lib.hid hbl
      clear ho hbl hso hH HC hsl hlt
      go_wp2_with fail
      refine HSO.out.mono ?_
      rintro e w2 ⟨rfl, hb2⟩
      obtain ⟨w3, hw3⟩ : ∃ w3, w2.alloc (.cells (setA S) 74) = w3 := ⟨_, rfl⟩
      have hr3 : w3.heap[w2.heap.size]? = some (.cells (setA S) 74 (0, 0)) := by rw [← hw3]; exact heap_alloc_new w2 _
      have hb3 : Below w1.heap.size w1 w3 := (HBL.out.trans (hb2.mono HBL.out.size)).trans (by rw [← hw3]; exact (Below.refl _ w2).alloc (Nat.le_trans HBL.out.size hb2.size) _)
      obtain ⟨f1, f2, f3⟩ := HF1.out
      have hres : w3.heap[w.heap.size]? = _ := (hb3.block _ f3).trans f2
      obtain ⟨wz, hwz⟩ : ∃ wz, w3.setRow w.heap.size (setA S) = wz := ⟨_, rfl⟩
      have hz1 : wz.heap[w.heap.size]? = some (.cells (setA S) 74 (0, 0)) := by rw [← hwz]; exact setRow_heap _ _ _ _ _ _ hres
      have hzf : Fr (· = w.heap.size) w3 wz := by
        rw [← hwz]
        exact ⟨rfl, rfl, rfl, by rw [setRow_size]; exact Nat.le_refl _, fun k hk hn => setRow_other _ _ _ _ hn⟩
      have HFZ : Hid (Fr (· = D) w wz) := Lib.hid ((f1.trans (Fr.of_below (fun _ => False) hb3) (fun _ _ h => h) (fun _ _ h => h.elim)).trans hzf (fun _ _ h => h) (fun k hk e => by omega))
      have HW3 := Lib.hid hw3
      have HR3 := Lib.hid hr3
      have HRES := Lib.hid hres
      have HWZ := Lib.hid hwz
      have HZ1 := Lib.hid hz1
      have HI1 := Lib.hid (HI.out S)
      have HZ2 := Lib.hid (HZ.out S)
      have e1 : (N : Int) = (q.length : Int) ∨ ¬ (N : Int) = (q.length : Int) := by omega
      have HEX : Hid (∀ b, (R && decide ((N : Int) = (q.length : Int))) = b → RSetR w D l (.returned (.tuple #[setV S, .bool b])) wz) := Lib.hid (fun b hb => HE0.out b wz hb HFZ.out)
      unfold setA at HW3 HWZ HI1 HZ2 HR3 HRES
      unfold St4.none at HRES
      clear hw3 hr3 hb2 hb3 f1 f2 f3 hres hwz hz1 hzf HFZ HBL HSO HF1 HI HZ HE0 HSR
      unfold setV
      rcases e1 with e1 | e1
      · have e2 : ((N : Int) == (q.length : Int)) = true := by rw [e1]; exact beq_self_eq_true _
        have HE := Lib.hid (HEX.out R (by rw [decide_eq_true e1, Bool.and_true]))
        clear e1 HEX
        cases R
        all_goals
          go_wp2_with (first
            | rw [HW3.out]
            | (refine wpList_load_row rfl 74 _ rfl w2.heap.size rfl 74 _ (0, 0) _ HR3.out Try.underlying74 rfl HI1.out ?_)
            | (refine wpList_store_row rfl 74 _ _ rfl w.heap.size _ rfl rfl 74 _ HRES.out HI1.out rfl HZ2.out ?_; rw [HWZ.out]))
          exact bodyPost_ret (v := .tuple #[setV S, .bool _]) (by have c0 : wz.cell? ⟨w.heap.size, 0, none⟩ = some (.bool S.a) := cell_of_row _ _ _ _ _ _ HZ1.out; have c1 : wz.cell? ⟨w.heap.size, 1, none⟩ = some (.bool S.b) := cell_of_row _ _ _ _ _ _ HZ1.out; have c2 : wz.cell? ⟨w.heap.size, 2, none⟩ = some (.bool S.c) := cell_of_row _ _ _ _ _ _ HZ1.out; have c3 : wz.cell? ⟨w.heap.size, 3, none⟩ = some (.bool S.d) := cell_of_row _ _ _ _ _ _ HZ1.out; simp [results, Try.results42, go_sem, c0, c1, c2, c3, setV]; first | rfl | done) rfl HE.out
      · have e2 : ((N : Int) == (q.length : Int)) = false := beq_eq_false_iff_ne.2 e1
        have HE := Lib.hid (HEX.out false (by rw [decide_eq_false e1, Bool.and_false]))
        clear e1 HEX
        cases R
        all_goals
          go_wp2_with (first
            | rw [HW3.out]
            | (refine wpList_load_row rfl 74 _ rfl w2.heap.size rfl 74 _ (0, 0) _ HR3.out Try.underlying74 rfl HI1.out ?_)
            | (refine wpList_store_row rfl 74 _ _ rfl w.heap.size _ rfl rfl 74 _ HRES.out HI1.out rfl HZ2.out ?_; rw [HWZ.out]))
          exact bodyPost_ret (v := .tuple #[setV S, .bool false]) (by have c0 : wz.cell? ⟨w.heap.size, 0, none⟩ = some (.bool S.a) := cell_of_row _ _ _ _ _ _ HZ1.out; have c1 : wz.cell? ⟨w.heap.size, 1, none⟩ = some (.bool S.b) := cell_of_row _ _ _ _ _ _ HZ1.out; have c2 : wz.cell? ⟨w.heap.size, 2, none⟩ = some (.bool S.c) := cell_of_row _ _ _ _ _ _ HZ1.out; have c3 : wz.cell? ⟨w.heap.size, 3, none⟩ = some (.bool S.d) := cell_of_row _ _ _ _ _ _ HZ1.out; simp [results, Try.results42, go_sem, c0, c1, c2, c3, setV]) rfl HE.out
end Go.Proofs.Ytleghofpabdkhaa
