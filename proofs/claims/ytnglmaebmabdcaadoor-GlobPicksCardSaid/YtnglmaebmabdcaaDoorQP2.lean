/- Glob: the first names of a list; the document's in, lay. -/
import Derived.Test.YtnglmaebmabdcaaDoorQ8
import Derived.Test.YtnglmaebmabdcaaDoorQP1
namespace Go.Proofs.YtnglmaebmabdcaaDoor
open Go Go.RowKit

/-- A list of strings that came in, wherever it begins. -/
def Nms (w : World) (v : Value) (L : List ByteArray) : Prop :=
  ∃ a c, v = .slice a L.length c ∧ ∀ i (h : i < L.length), ∃ g o, a = some ⟨g, o, none⟩ ∧ g < w.heap.size ∧ w.cell? ⟨g, o + i, none⟩ = some (.string L[i])
theorem Nms.below {w w' : World} {v : Value} {L : List ByteArray} (h : Nms w v L) (hb : Below w.heap.size w w') : Nms w' v L := by
  obtain ⟨a, c, rfl, hx⟩ := h
  refine ⟨a, c, rfl, fun i hi => ?_⟩
  obtain ⟨g, o, rfl, hg, hcc⟩ := hx i hi
  exact ⟨g, o, rfl, Nat.lt_of_lt_of_le hg hb.size, (hb.cell hg).trans hcc⟩
def cut60 (s : ByteArray) : ByteArray := if 60 < s.size then s.extract 0 60 else s
theorem cut60_le (s : ByteArray) : (cut60 s).size ≤ 60 := by
  unfold cut60
  split
  · rw [Lib.size_eq, Lib.extract_data, List.length_take]; omega
  · omega
/-- The first 12 names, of each the first 60 bytes. -/
def fewS (L : List ByteArray) : List ByteArray := (L.take 12).map cut60
theorem fewS_len (L : List ByteArray) : (fewS L).length ≤ 12 := by unfold fewS; rw [List.length_map, List.length_take]; omega
theorem fewS_le {L : List ByteArray} {s : ByteArray} (h : s ∈ fewS L) : s.size ≤ 60 := by
  unfold fewS at h
  obtain ⟨x, _, rfl⟩ := List.mem_map.1 h
  exact cut60_le x

set_option maxHeartbeats 1000000 in
set_option maxRecDepth 100000 in
theorem few_any (v : Value) (L : List ByteArray) (w : World) (hv : Nms w v L) (hL : L.length ≤ 9223372036854775807) :
    Calls Tryd.prog 20 #[v] w fun e w' => ∃ v', e = .returned v' ∧ Ltr w' v' (fewS L) ∧ Below w.heap.size w w' := by
  obtain ⟨i0, hi0, hz0, hz1, hz2⟩ := info_parts info9
  obtain ⟨a, c, rfl, hcell⟩ := hv
  have HC := Lib.hid hcell
  clear hcell
  go_enter Tryd.func20, Tryd.ntmps20
  go_wp2
  go_loopw [3, 4] (fun v3 x4 wr => ∃ k : Nat, x4 = .int .i64 (k : Int) ∧ k ≤ L.length ∧ k ≤ 12 ∧ wr.ownsRow w.heap.size 9 1 v3 ((L.take k).map cut60).length (((L.take k).map cut60).map Value.string) ∧ Below w.heap.size w wr) (fun _ x4 _ => L.length - (intOf x4).toNat)
  case atStart => exact ⟨0, rfl, Nat.zero_le _, by omega, World.ownsRow_nil _ _ _ _, Below.refl _ _⟩
  case round =>
    obtain ⟨k, rfl, hk, hk12, hown, hb⟩ := hrel
    have hz := hb.size
    by_cases hlt : k < L.length
    · by_cases h12 : k < 12
      · have hlti : (k : Int) < (L.length : Int) := by omega
        have h12i : (k : Int) < 12 := by omega
        obtain ⟨g, off, rfl, hg, hcc⟩ := HC.out k hlt
        have hcw := (hb.cell (p := ⟨g, off + k, none⟩) hg).trans hcc
        have htk : (L.take (k + 1)).map cut60 = (L.take k).map cut60 ++ [cut60 L[k]] := by rw [List.take_succ_eq_append_getElem hlt, List.map_append]; rfl
        have hlen : ((L.take k).map cut60).length = k := by rw [List.length_map, List.length_take]; omega
        have HLN := Lib.hid hlen
        rw [hlen] at hown
        clear hcc hlen
        generalize L[k] = x at *
        by_cases h60 : 60 < x.size
        · have h60i : (60 : Int) < (x.size : Int) := by omega
          have hcut : cut60 x = x.extract 0 60 := if_pos h60
          rw [hcut] at htk
          have HT := Lib.hid htk
          clear htk hcut h60
          go_wp2_with (first | (at_builtin; refine wpList_append_own _ rfl _ _ 26 rfl w.heap.size 9 i0 (.string ⟨#[]⟩) 1 16 Tryd.underlying26 hi0 hz0 hz1 hz2 rfl (by decide) _ _ _ rfl (hown.alloc _) ⟨wr.heap.size, 0, none⟩ 1 1 [.string (x.extract 0 60)] rfl rfl (cell_one_new _ _ _) (by intro u hu; simp at hu; subst hu; rfl) (by unfold maxLen; omega) (by omega) (by simp; omega) ?_))
          intro v' w2 hown2 hgrow _
          have hb3 := below_grown (hb.alloc (by omega) _) (hown.alloc _) (by simp; omega) hgrow
          have HO := Lib.hid hown2
          clear hown hown2 hgrow hb
          go_wp2
          refine ⟨⟨k + 1, rfl, by omega, by omega, ?_, hb3⟩, ?_⟩
          · rw [HT.out, List.length_append, List.map_append, HLN.out]
            simpa using HO.out
          · simp [intOf] <;> omega
        · have h60i : ¬ (60 : Int) < (x.size : Int) := by omega
          have hcut : cut60 x = x := if_neg h60
          rw [hcut] at htk
          have HT := Lib.hid htk
          clear htk hcut h60
          go_wp2_with (first | (at_builtin; refine wpList_append_own _ rfl _ _ 26 rfl w.heap.size 9 i0 (.string ⟨#[]⟩) 1 16 Tryd.underlying26 hi0 hz0 hz1 hz2 rfl (by decide) _ _ _ rfl (hown.alloc _) ⟨wr.heap.size, 0, none⟩ 1 1 [.string (x)] rfl rfl (cell_one_new _ _ _) (by intro u hu; simp at hu; subst hu; rfl) (by unfold maxLen; omega) (by omega) (by simp; omega) ?_))
          intro v' w2 hown2 hgrow _
          have hb3 := below_grown (hb.alloc (by omega) _) (hown.alloc _) (by simp; omega) hgrow
          have HO := Lib.hid hown2
          clear hown hown2 hgrow hb
          go_wp2
          refine ⟨⟨k + 1, rfl, by omega, by omega, ?_, hb3⟩, ?_⟩
          · rw [HT.out, List.length_append, List.map_append, HLN.out]
            simpa using HO.out
          · simp [intOf] <;> omega
      · have h12e : k = 12 := by omega
        have h12i : ¬ (k : Int) < 12 := by omega
        have hlti : (k : Int) < (L.length : Int) := by omega
        have HO := Lib.hid (Ltr.of hown)
        have HB := Lib.hid hb
        have HE : Hid ((L.take k).map cut60 = fewS L) := Lib.hid (by rw [h12e]; rfl)
        clear hown hb
        go_wp2
        go_ret
        exact ⟨_, rfl, HE.out ▸ HO.out, HB.out⟩
    · have hlti : ¬ (k : Int) < (L.length : Int) := by omega
      have HO := Lib.hid (Ltr.of hown)
      have HB := Lib.hid hb
      have HE : Hid ((L.take k).map cut60 = fewS L) := Lib.hid (by unfold fewS; rw [List.take_of_length_le (by omega), List.take_of_length_le (by omega)])
      clear hown hb
      go_wp2
      go_ret
      exact ⟨_, rfl, HE.out ▸ HO.out, HB.out⟩

theorem mk_inj {a b : List UInt8} (h : mkS a = mkS b) : a = b := congrArg (fun s : ByteArray => s.data.toList) h
theorem mkS_toList (a : List UInt8) : (mkS a).toList = a := by rw [Lib.toList_data]; rfl
/-- What a place of a list of names reads. -/
theorem Ltr.get {w : World} {v : Value} {N : List Gl.Nm} (h : Ltr w v (N.map mkS)) {k : Nat} (hk : k < N.length) : ∃ g c, v = .slice (some ⟨g, 0, none⟩) N.length c ∧ g < w.heap.size ∧ w.cell? ⟨g, k, none⟩ = some (.string (mkS N[k])) := by
  obtain ⟨g, c, rfl, _, hg, hc⟩ := h.at (by rw [List.length_map]; omega)
  have := hc k (by rw [List.length_map]; exact hk)
  rw [List.getElem_map] at this
  exact ⟨g, c, by rw [List.length_map], hg, this⟩
theorem Ltr.shapeN {w : World} {v : Value} {N : List Gl.Nm} (h : Ltr w v (N.map mkS)) : ∃ a c, v = .slice a N.length c := by
  obtain ⟨a, c, rfl, _⟩ := h.shape
  exact ⟨a, c, by rw [List.length_map]⟩

set_option maxHeartbeats 1000000 in
set_option maxRecDepth 100000 in
theorem in_any (v : Value) (N : List Gl.Nm) (s : List UInt8) (w : World) (hv : Ltr w v (N.map mkS)) (hN : N.length ≤ 1000000) :
    Calls Tryd.prog 34 #[v, .string (mkS s)] w fun e w' => e = .returned (.bool (decide (s ∈ N))) ∧ w = w' := by
  obtain ⟨a, c, rfl⟩ := hv.shapeN
  have HV := Lib.hid hv
  clear hv
  generalize hs : mkS s = S
  have HS := Lib.hid hs
  clear hs
  go_enter Tryd.func34, Tryd.ntmps34
  go_wp2
  go_loop [5] (fun i => ∃ k : Nat, k ≤ N.length ∧ i = .int .i64 (k : Int) ∧ s ∉ N.take k) (fun i => N.length - (intOf i).toNat)
  case atStart => exact ⟨0, Nat.zero_le _, rfl, by simp⟩
  case round =>
    obtain ⟨k, hk, rfl, hno⟩ := hrel
    have HNO := Lib.hid hno
    clear hno
    by_cases hlt : k < N.length
    · have hlti : (k : Int) < (N.length : Int) := by omega
      obtain ⟨g, c', e, hg, hcc⟩ := HV.out.get hlt
      injection e with e1 _ e3
      subst e1; subst e3
      have HK := Lib.hid (show N[k]? = some N[k] from List.getElem?_eq_getElem hlt)
      generalize N[k] = x at *
      by_cases he : x = s
      · have hyes : decide (s ∈ N) = true := decide_eq_true (List.mem_of_getElem? (by rw [← he]; exact HK.out))
        have q1 : ((mkS x).toList == S.toList) = true := by rw [← HS.out, he]; simp
        have HY := Lib.hid hyes
        clear he hyes
        generalize mkS x = X at *
        go_wp2
        go_ret
        exact ⟨ret_bool HY.out.symm, rfl⟩
      · have q1 : ((mkS x).toList == S.toList) = false := by rw [← HS.out, mkS_toList, mkS_toList]; exact beq_eq_false_iff_ne.2 he
        have HN2 : Hid (s ∉ N.take (k + 1)) := Lib.hid (by
          rw [List.take_add_one, HK.out, Option.toList_some, List.mem_append]
          rintro (h | h)
          · exact HNO.out h
          · exact he (List.mem_singleton.1 h).symm)
        clear he
        generalize mkS x = X at *
        go_wp2
        refine ⟨⟨k + 1, by omega, rfl, HN2.out⟩, ?_⟩
        simp [intOf] <;> omega
    · have hno : decide (s ∈ N) = false := decide_eq_false (by have := HNO.out; rwa [List.take_of_length_le (by omega)] at this)
      have HY := Lib.hid hno
      clear hno
      go_wp2
      go_ret
      exact ⟨ret_bool HY.out.symm, rfl⟩
end Go.Proofs.YtnglmaebmabdcaaDoor
