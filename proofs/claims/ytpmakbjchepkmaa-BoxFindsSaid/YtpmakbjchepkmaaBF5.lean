/- Box: questions as an argument, opened; the document's search of a text in another. -/
import Derived.Test.YtpmakbjchepkmaaBF4
import Derived.Test.YtpmakbjchepkmaaBOpen
namespace Go.Proofs.Ytpmakbjchepkmaa
open Go.ChangeShapes Go.WideShapes Go.ChangeAt Go.RowKit Go.Deep Go.Joins

theorem cellsQ5 : Try.prog.cellsOf 53 = 5 := by kernel_rfl
theorem cellsAsk : Try.prog.cellsOf 51 = 1 := by kernel_rfl
theorem cellsStr : Try.prog.cellsOf 9 = 1 := by kernel_rfl
section
variable {H : Type} {enc : TypeId × Value → H} {P : Program} {w : World} {base : Nat} {spare : Nat → Bool} {held : Bool}
theorem trod_struct5 {t : TypeId} {f0 f1 f2 f3 f4 : Field} {fuel : Nat} {cs : List Value} {x : DataW H × List MemPlace} (ht : P.underlying t = some (.struct #[f0, f1, f2, f3, f4])) (h : DataW.trod enc P w base spare held fuel t cs = some x) :
    ∃ y0 y1 y2 y3 y4 n, x = (.agg [y0.1, y1.1, y2.1, y3.1, y4.1], y0.2 ++ (y1.2 ++ (y2.2 ++ (y3.2 ++ y4.2)))) ∧ cs.length = P.cellsOf t ∧ DataW.trod enc P w base spare held n f0.type ((cs.drop f0.offset).take (P.cellsOf f0.type)) = some y0 ∧
      DataW.trod enc P w base spare held n f1.type ((cs.drop f1.offset).take (P.cellsOf f1.type)) = some y1 ∧ DataW.trod enc P w base spare held n f2.type ((cs.drop f2.offset).take (P.cellsOf f2.type)) = some y2 ∧
      DataW.trod enc P w base spare held n f3.type ((cs.drop f3.offset).take (P.cellsOf f3.type)) = some y3 ∧ DataW.trod enc P w base spare held n f4.type ((cs.drop f4.offset).take (P.cellsOf f4.type)) = some y4 := by
  obtain ⟨xs, n, _, rfl, hl, hlen, hf⟩ := DataW.trod_struct ht h
  match xs, hlen with
  | [y0, y1, y2, y3, y4], _ => exact ⟨y0, y1, y2, y3, y4, n, by simp, hl, by simpa using hf 0 f0 rfl, by simpa using hf 1 f1 rfl, by simpa using hf 2 f2 rfl, by simpa using hf 3 f3 rfl, by simpa using hf 4 f4 rfl⟩
end
set_option maxRecDepth 100000 in
/-- A term that was read. -/
theorem qry_of {H : Type} {enc : TypeId × Value → H} {W : World} {cs : List Value} {n : Nat} {x : DataW H × List MemPlace} (h : DataW.trod enc Try.prog W 0 (fun _ => true) true n 53 cs = some x) :
    ∃ q : Qry, cs = cellsQ q ∧ q.text.size ≤ maxLen := by
  obtain ⟨y0, y1, y2, y3, y4, m, _, hl, t0, t1, t2, t3, t4⟩ := trod_struct5 Try.underlying53 h
  rw [cellsQ5] at hl
  match cs, hl with
  | [c0, c1, c2, c3, c4], _ =>
    simp only [cellsAsk, cellsI, cells5, cellsStr, List.drop_zero, List.drop_succ_cons, List.take_succ_cons, List.take_zero] at t0 t1 t2 t3 t4
    obtain ⟨a0, e0, _, w0⟩ := DataW.trod_int Try.underlying51 t0
    obtain ⟨a1, e1, _, w1⟩ := DataW.trod_int Try.underlying5 t1
    obtain ⟨a2, e2, _, w2⟩ := DataW.trod_int Try.underlying3 t2
    obtain ⟨a3, e3, _, w3⟩ := DataW.trod_int Try.underlying3 t3
    obtain ⟨s, e4, _, ws⟩ := DataW.trod_string Try.underlying9 t4
    simp only [List.cons.injEq, and_true] at e0 e1 e2 e3 e4
    subst e0 e1 e2 e3 e4
    have hb1 := byte_of w1
    have hf : ((UInt8.ofNat a1.toNat).toNat : Int) = a1 := by rw [UInt8.toNat_ofNat']; omega
    refine ⟨⟨a0, UInt8.ofNat a1.toNat, a2, a3, s⟩, ?_, ws⟩
    simp only [cellsQ, hf]
set_option maxRecDepth 100000 in
theorem qrys_of {H : Type} {enc : TypeId × Value → H} {W : World} {v : Value} {n : Nat} {x : DataW H × List MemPlace} (h : DataW.trod enc Try.prog W 0 (fun _ => true) true n 45 [v] = some x) :
    ∃ qs, Qrys W v qs ∧ qs.length ≤ maxLen ∧ ∀ q ∈ qs, q.text.size ≤ maxLen := by
  rcases open_slice Try.underlying45 h with ⟨hcs, _⟩ | ⟨a, len, cap, m, n', D, Pl, hcs, _, hl, hm, hmm, _, hx⟩
  · simp only [List.cons.injEq, and_true] at hcs
    subst hcs
    exact ⟨[], ⟨⟨none, 0, rfl⟩, fun h => absurd rfl h⟩, by simp, fun p hp => by simp at hp⟩
  · simp only [List.cons.injEq, and_true] at hcs
    subst hcs
    simp only [if_true] at hmm
    subst hmm
    rw [cellsQ5] at hx
    have hsp : len ≠ 0 → ∃ g off, a = ⟨g, off, none⟩ ∧ g < W.heap.size := fun h0 => by
      obtain ⟨cs0, g1, g2⟩ := hx 0 (by omega)
      obtain ⟨p0, rfl, _⟩ := qry_of g2
      obtain ⟨_, _, hcell0⟩ := World.cells?_some g1
      have hz := hcell0 0 (by simp [cellsQ])
      obtain ⟨g, off, sp⟩ := a
      rw [show ((⟨g, off, sp⟩ : Addr).add (0 * 5)).add 0 = ⟨g, off, sp⟩ by unfold Addr.add; simp] at hz
      have hs : sp = none := cell_spot hz
      subst hs
      exact ⟨g, off, rfl, World.block_lt_of_cell? W _ hz⟩
    obtain ⟨ps, hpl, hp⟩ := choose_list (p := fun j (p : Qry) => (∀ i u, (cellsQ p)[i]? = some u → W.cell? ((a.add (j * 5)).add i) = some u) ∧ p.text.size ≤ maxLen) len (fun j hj => by
      obtain ⟨cs', h1, h2⟩ := hx j (by omega)
      obtain ⟨p, rfl, q1⟩ := qry_of h2
      obtain ⟨_, hlen, hcell⟩ := World.cells?_some h1
      exact ⟨p, fun i u hu => by have := hcell i (by have := (List.getElem?_eq_some_iff.1 hu).1; simpa [cellsQ] using this); rw [hu] at this; exact this, q1⟩)
    subst hpl
    refine ⟨ps, ⟨⟨some a, _, rfl⟩, fun hne => ?_⟩, by omega, fun p hpm => ?_⟩
    · obtain ⟨g, off, rfl, hg⟩ := hsp (fun e => hne (List.eq_nil_of_length_eq_zero e))
      refine ⟨g, off, _, rfl, hg, fun j u hu => ?_⟩
      have hjl : j < ps.length * 5 := by rw [← flat_len cellsQ 5 ps (fun _ _ => rfl)]; exact (List.getElem?_eq_some_iff.1 hu).1
      have hq : j / 5 < ps.length := by omega
      have hat := (hp (j / 5) _ (List.getElem?_eq_getElem hq)).1 (j % 5) ((cellsQ ps[j / 5])[j % 5]'(by show _ < 5; omega)) (List.getElem?_eq_getElem _)
      have hu2 := flat_at cellsQ 5 ps (j / 5) (fun _ _ => rfl) _ (List.getElem?_eq_getElem hq) (j % 5) _ (List.getElem?_eq_getElem (by show _ < 5; omega))
      rw [show j / 5 * 5 + j % 5 = j by omega] at hu2
      have he : (cellsQ ps[j / 5])[j % 5]'(by show _ < 5; omega) = u := by
        have : (ps.flatMap cellsQ)[j]? = some ((cellsQ ps[j / 5])[j % 5]'(by show _ < 5; omega)) := hu2
        rw [hu] at this
        injection this with this
        exact this.symm
      rw [addr_plus, addr_plus, he, Nat.add_assoc, show j / 5 * 5 + j % 5 = j by omega] at hat
      exact hat
    · obtain ⟨j, hj⟩ := List.getElem?_of_mem hpm
      exact (hp j p hj).2
set_option maxRecDepth 100000 in
theorem open_qrys {H : Type} {enc : TypeId × Value → H} {W : World} {base : Nat} {v : Value} {d : DataW H} {p : List MemPlace}
    (hval : Value.okWide Try.prog W .any base 45 v) (h0 : DataW.Trod enc Try.prog W 0 (fun _ => true) true 45 v d p) :
    ∃ qs, Qrys W v qs ∧ qs.length ≤ 9223372036854775807 ∧ ∀ q ∈ qs, q.text.size ≤ 9223372036854775807 := by
  obtain ⟨a0, len, cap, rfl⟩ := okWide_slice Try.underlying45 hval
  obtain ⟨fuel, hf⟩ := h0
  obtain ⟨qs, h1, h2, h3⟩ := qrys_of (v := .slice a0 len cap) hf
  unfold maxLen at h2 h3
  exact ⟨qs, h1, h2, h3⟩
end Go.Proofs.Ytpmakbjchepkmaa
namespace Go.Proofs.Ytpmakbjchepkmaa
open Go Go.RowKit

theorem contains_no {s t : List UInt8} (h : ∀ j, j + t.length ≤ s.length → (s.drop j).take t.length ≠ t) : Lib.contains s t = false := by
  unfold Lib.contains
  rw [decide_eq_false_iff_not]
  intro h0
  rcases Lib.index_spec s t with ⟨h1, _⟩ | ⟨i, h1, h2, h3, _⟩
  · rw [h1] at h0; omega
  · have hr := Lib.index_room s t h0
    rw [h1] at hr
    have := Lib.occAt_iff_take s t i (by omega)
    rw [h3] at this
    exact h i (by omega) (by simpa using this.symm)
theorem contains_yes {s t : List UInt8} {j : Nat} (hj : j + t.length ≤ s.length) (h : (s.drop j).take t.length = t) : Lib.contains s t = true := by
  unfold Lib.contains
  rw [decide_eq_true_iff]
  rcases Lib.index_spec s t with ⟨_, h2⟩ | ⟨i, h1, _⟩
  · have := h2 j (by omega)
    rw [Lib.occAt_iff_take s t j hj, h] at this
    simp at this
  · omega
/-- A stretch of a text. -/
theorem extract_list (s : ByteArray) (i j : Nat) (hj : j ≤ s.size) : (s.extract i j) = ⟨((s.data.toList.drop i).take (j - i)).toArray⟩ := by
  apply ByteArray.ext
  apply Array.ext'
  simp [ByteArray.data_extract]
end Go.Proofs.Ytpmakbjchepkmaa
namespace Go.Proofs.Ytpmakbjchepkmaa
open Go Go.RowKit

set_option maxHeartbeats 4000000 in
set_option maxRecDepth 100000 in
theorem refHolds (s t : ByteArray) (w : World) (hs : s.size ≤ 1000000) (ht : t.size ≤ 9223372036854775807) :
    Calls Try.prog 36 #[.string s, .string t] w fun e w' => e = .returned (.bool (Lib.contains s.data.toList t.data.toList)) ∧ w' = w := by
  go_enter Try.func36, Try.ntmps36
  go_wp2
  go_loop [5] (fun i => ∃ k : Nat, i = .int .i64 k ∧ (k = 0 ∨ k + t.size ≤ s.size + 1) ∧ ∀ j, j < k → (s.data.toList.drop j).take t.data.toList.length ≠ t.data.toList) (fun i => s.size + 1 - (intOf i).toNat)
  case atStart => exact ⟨0, rfl, Or.inl rfl, fun j hj => by omega⟩
  case round =>
    obtain ⟨k, rfl, hk, hno⟩ := hrel
    have hkt : k + t.size ≤ 9223372036854775807 := by omega
    by_cases hlt : k + t.size ≤ s.size
    · have hc : ((k : Int) + (t.size : Int)) ≤ (s.size : Int) := by omega
      have hex : s.extract k (k + t.size) = ⟨((s.data.toList.drop k).take t.data.toList.length).toArray⟩ := by
        rw [extract_list s k _ hlt, Nat.add_sub_cancel_left]; rfl
      have hto : (s.extract k (k + t.size)).toList = (s.data.toList.drop k).take t.data.toList.length := by rw [Lib.toList_data, hex]
      by_cases he : (s.data.toList.drop k).take t.data.toList.length = t.data.toList
      · have e1 : ((s.extract k (k + t.size)).toList == t.toList) = true := by rw [hto, Lib.toList_data, beq_iff_eq]; exact he
        have HC := Lib.hid (contains_yes (s := s.data.toList) (t := t.data.toList) (j := k) (by simpa using hlt) he)
        clear hno he hto hex hk
        go_wp2
        go_ret
        exact ⟨ret_bool HC.out.symm, rfl⟩
      · have e1 : ((s.extract k (k + t.size)).toList == t.toList) = false := by rw [hto, Lib.toList_data, beq_eq_false_iff_ne]; exact he
        have HNO := Lib.hid (show ∀ j, j < k + 1 → (s.data.toList.drop j).take t.data.toList.length ≠ t.data.toList from fun j hj => by
          by_cases h : j = k
          · subst h; exact he
          · exact hno j (by omega))
        clear hno he hto hex hk
        go_wp2
        go_round
        case rel => exact ⟨k + 1, by go_num, Or.inr (by omega), HNO.out⟩
        case measure => simp [intOf]; omega
    · have hc : ¬ ((k : Int) + (t.size : Int)) ≤ (s.size : Int) := by omega
      have HC := Lib.hid (contains_no (s := s.data.toList) (t := t.data.toList) (fun j hj => hno j (by simp only [Array.length_toList, ByteArray.size_data] at hj; rcases hk with rfl | hk <;> omega)))
      clear hno hk
      go_wp2
      go_ret
      exact ⟨ret_bool HC.out.symm, rfl⟩
end Go.Proofs.Ytpmakbjchepkmaa
