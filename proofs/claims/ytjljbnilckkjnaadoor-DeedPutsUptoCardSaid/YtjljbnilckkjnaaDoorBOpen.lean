/- A box, its letters, as arguments, opened. -/
import Derived.Test.YtjljbnilckkjnaaDoorBP1
import Derived.Test.YtjljbnilckkjnaaDoorChecked
import Derived.Test.YtjljbnilckkjnaaDoorRows
import Derived.ProofKit
import Derived.OpenShut
import Derived.SizedLaws
import Derived.Deep.DeepHandedRow
import Derived.Deep.Slices
import Derived.Deep.Strs
import Derived.Lib.SmallJoins
namespace Go.Proofs.YtjljbnilckkjnaaDoor
open Go.ChangeShapes Go.WideShapes Go.ChangeAt Go.RowKit Go.Deep Go.Joins

theorem own : ownKnob Tryd.prog.godebug = none := by kernel_rfl
theorem laidOut : laidOutB Tryd.prog = true := by kernel_rfl
theorem cells5 : Tryd.prog.cellsOf 5 = 1 := by kernel_rfl
theorem bytes5 : Tryd.prog.bytesOf 5 = 1 := by kernel_rfl
theorem cellsL3 : Tryd.prog.cellsOf 79 = 3 := by kernel_rfl
theorem cellsI : Tryd.prog.cellsOf 3 = 1 := by kernel_rfl
theorem cellsBs : Tryd.prog.cellsOf 26 = 1 := by kernel_rfl

theorem byte_of {x : Int} (h : (Lit.int .u8 x).wf = true) : 0 ≤ x ∧ x < 256 := by
  have h1 : IntKind.u8.min = 0 := rfl
  have h2 : IntKind.u8.max = 255 := rfl
  simp only [Lit.wf, Bool.and_eq_true, decide_eq_true_eq] at h
  omega
theorem int_of {x : Int} (h : (Lit.int .i64 x).wf = true) : -9223372036854775808 ≤ x ∧ x ≤ 9223372036854775807 := by
  have h1 : IntKind.i64.min = -9223372036854775808 := rfl
  have h2 : IntKind.i64.max = 9223372036854775807 := rfl
  simp only [Lit.wf, Bool.and_eq_true, decide_eq_true_eq] at h
  omega
theorem cell_spot {W : World} {a : Addr} {v : Value} (h : W.cell? a = some v) : a.spot = none := by
  unfold World.cell? at h
  split at h
  · split at h
    · cases h
    · rename_i hs
      simpa using hs
  · cases h
/-- Bytes that were read: without a word on the bulk. -/
theorem byt_of {H : Type} {enc : TypeId × Value → H} {W : World} {v : Value} {n : Nat} {x : DataW H × List MemPlace} (h : DataW.trod enc Tryd.prog W 0 (fun _ => true) true n 26 [v] = some x) :
    ∃ l, Byz W v l ∧ l.length ≤ maxLen := by
  rcases open_ints Tryd.underlying26 Tryd.underlying5 cells5 h with ⟨hcs, hx⟩ | ⟨a, len, cap, zs, hcs, _, hl, hm, hz, hx, hcell, hwz⟩
  · simp only [List.cons.injEq, and_true] at hcs
    subst hcs
    exact ⟨[], (Byt.nil W).z, by simp⟩
  · simp only [List.cons.injEq, and_true] at hcs
    subst hcs
    rcases Nat.eq_zero_or_pos len with h0 | h0
    · subst h0
      exact ⟨[], ⟨⟨some a, cap, rfl⟩, fun h => absurd rfl h⟩, by simp⟩
    · simp only [if_true] at hz
      have hc0 := hcell 0 (by omega)
      obtain ⟨g, off, sp⟩ := a
      rw [show (⟨g, off, sp⟩ : Addr).add 0 = ⟨g, off, sp⟩ by unfold Addr.add; simp] at hc0
      have hs : sp = none := cell_spot hc0
      subst hs
      have hlen : ((zs.take len).map fun x => UInt8.ofNat x.toNat).length = len := by rw [List.length_map, List.length_take]; omega
      refine ⟨(zs.take len).map fun x => UInt8.ofNat x.toNat, Byt.z ⟨some ⟨g, off, none⟩, cap, by rw [hlen], by rw [hlen]; exact hl, (fun h => by cases h), fun ad had => ?_⟩, by rw [hlen]; omega⟩
      injection had with had
      subst had
      refine ⟨g, off, rfl, World.block_lt_of_cell? W _ hc0, fun j hj => ?_⟩
      rw [hlen] at hj
      have hc := hcell j (by omega)
      rw [addr_plus] at hc
      rw [hc]
      have hb := byte_of (hwz zs[j] (List.getElem_mem _))
      simp only [List.getElem_map, List.getElem_take]
      rw [show zs.getD j 0 = zs[j] by simp [List.getD, show j < zs.length by omega]]
      congr 2
      rw [UInt8.toNat_ofNat']
      omega
set_option maxRecDepth 100000 in
/-- A letter that was read. -/
theorem letter_of {H : Type} {enc : TypeId × Value → H} {W : World} {cs : List Value} {n : Nat} {x : DataW H × List MemPlace} (h : DataW.trod enc Tryd.prog W 0 (fun _ => true) true n 79 cs = some x) :
    ∃ p : LV, cs = cellsLV p ∧ Byz W p.2 p.1.bytes ∧ p.1.bytes.length ≤ maxLen ∧ (-9223372036854775808 ≤ p.1.uid ∧ p.1.uid ≤ 9223372036854775807) := by
  obtain ⟨y0, y1, y2, m, _, hl, t0, t1, t2⟩ := trod_struct3 Tryd.underlying79 h
  rw [cellsL3] at hl
  match cs, hl with
  | [c0, c1, c2], _ =>
    simp only [cellsI, cells5, cellsBs, List.drop_zero, List.drop_succ_cons, List.take_succ_cons, List.take_zero] at t0 t1 t2
    obtain ⟨a0, e0, _, w0⟩ := DataW.trod_int Tryd.underlying3 t0
    obtain ⟨a1, e1, _, w1⟩ := DataW.trod_int Tryd.underlying5 t1
    simp only [List.cons.injEq, and_true] at e0 e1
    subst e0 e1
    obtain ⟨l, hb, hbl⟩ := byt_of t2
    have hb1 := byte_of w1
    have hf : ((UInt8.ofNat a1.toNat).toNat : Int) = a1 := by rw [UInt8.toNat_ofNat']; omega
    refine ⟨(⟨a0, UInt8.ofNat a1.toNat, l⟩, c2), ?_, hb, hbl, int_of w0⟩
    simp only [cellsLV, hf]
theorem choose_list {α : Type} {p : Nat → α → Prop} : ∀ n, (∀ i, i < n → ∃ x, p i x) → ∃ l : List α, l.length = n ∧ ∀ i x, l[i]? = some x → p i x
  | 0, _ => ⟨[], rfl, fun i x h => by simp at h⟩
  | n + 1, h => by
    obtain ⟨l, hl, hp⟩ := choose_list n (fun i hi => h i (by omega))
    obtain ⟨y, hy⟩ := h n (by omega)
    refine ⟨l ++ [y], by simp [hl], fun i x hx => ?_⟩
    rw [List.getElem?_append] at hx
    split at hx
    · exact hp i x hx
    · have : i = n := by
        rw [List.getElem?_singleton] at hx
        split at hx
        · omega
        · cases hx
      subst this
      rw [hl, Nat.sub_self] at hx
      simp at hx
      rw [← hx]; exact hy
set_option maxRecDepth 100000 in
/-- Letters that were read. -/
theorem letters_of {H : Type} {enc : TypeId × Value → H} {W : World} {v : Value} {n : Nat} {x : DataW H × List MemPlace} (h : DataW.trod enc Tryd.prog W 0 (fun _ => true) true n 50 [v] = some x) :
    ∃ ps, Lets W v ps ∧ ps.length ≤ maxLen ∧ ∀ p ∈ ps, p.1.bytes.length ≤ maxLen ∧ (-9223372036854775808 ≤ p.1.uid ∧ p.1.uid ≤ 9223372036854775807) := by
  rcases open_slice Tryd.underlying50 h with ⟨hcs, _⟩ | ⟨a, len, cap, m, n', D, Pl, hcs, _, hl, hm, hmm, _, hx⟩
  · simp only [List.cons.injEq, and_true] at hcs
    subst hcs
    exact ⟨[], Lets.nil W none 0, by simp, fun p hp => by simp at hp⟩
  · simp only [List.cons.injEq, and_true] at hcs
    subst hcs
    simp only [if_true] at hmm
    subst hmm
    rw [cellsL3] at hx
    have hsp : len ≠ 0 → ∃ g off, a = ⟨g, off, none⟩ ∧ g < W.heap.size := fun h0 => by
      obtain ⟨cs0, g1, g2⟩ := hx 0 (by omega)
      obtain ⟨p0, rfl, _⟩ := letter_of g2
      obtain ⟨_, _, hcell0⟩ := World.cells?_some g1
      have hz := hcell0 0 (by simp [cellsLV])
      obtain ⟨g, off, sp⟩ := a
      rw [show ((⟨g, off, sp⟩ : Addr).add (0 * 3)).add 0 = ⟨g, off, sp⟩ by unfold Addr.add; simp] at hz
      have hs : sp = none := cell_spot hz
      subst hs
      exact ⟨g, off, rfl, World.block_lt_of_cell? W _ hz⟩
    obtain ⟨ps, hpl, hp⟩ := choose_list (p := fun j (p : LV) => (∀ i u, (cellsLV p)[i]? = some u → W.cell? ((a.add (j * 3)).add i) = some u) ∧ Byz W p.2 p.1.bytes ∧ p.1.bytes.length ≤ maxLen ∧ (-9223372036854775808 ≤ p.1.uid ∧ p.1.uid ≤ 9223372036854775807)) len (fun j hj => by
      obtain ⟨cs', h1, h2⟩ := hx j (by omega)
      obtain ⟨p, rfl, q1, q2, q3⟩ := letter_of h2
      obtain ⟨_, hlen, hcell⟩ := World.cells?_some h1
      exact ⟨p, fun i u hu => by have := hcell i (by have := (List.getElem?_eq_some_iff.1 hu).1; simpa [cellsLV] using this); rw [hu] at this; exact this, q1, q2, q3⟩)
    subst hpl
    refine ⟨ps, ⟨⟨some a, _, rfl, hl⟩, fun hne => ?_, fun p hpm => ?_⟩, by omega, fun p hpm => ?_⟩
    · obtain ⟨g, off, rfl, hg⟩ := hsp (fun e => hne (List.eq_nil_of_length_eq_zero e))
      refine ⟨g, off, _, rfl, hg, fun j u hu => ?_⟩
      have hjl : j < ps.length * 3 := by rw [← cellsP_len]; exact (List.getElem?_eq_some_iff.1 hu).1
      have hq : j / 3 < ps.length := by omega
      have hat := (hp (j / 3) _ (List.getElem?_eq_getElem hq)).1 (j % 3) ((cellsLV ps[j / 3])[j % 3]'(by rw [cellsLV_len]; omega)) (List.getElem?_eq_getElem _)
      have hu2 := flat_at cellsLV 3 ps (j / 3) (fun _ _ => rfl) _ (List.getElem?_eq_getElem hq) (j % 3) _ (List.getElem?_eq_getElem (by rw [cellsLV_len]; omega))
      rw [show j / 3 * 3 + j % 3 = j by omega] at hu2
      have he : (cellsLV ps[j / 3])[j % 3]'(by rw [cellsLV_len]; omega) = u := by
        have : (cellsP ps)[j]? = some ((cellsLV ps[j / 3])[j % 3]'(by rw [cellsLV_len]; omega)) := hu2
        rw [hu] at this
        injection this with this
        exact this.symm
      rw [addr_plus, addr_plus, he, Nat.add_assoc, show j / 3 * 3 + j % 3 = j by omega] at hat
      exact hat
    · obtain ⟨j, hj⟩ := List.getElem?_of_mem hpm
      exact (hp j p hj).2.1
    · obtain ⟨j, hj⟩ := List.getElem?_of_mem hpm
      exact (hp j p hj).2.2
/-- A box as a value. -/
def boxV (name : ByteArray) (valid next : Int) (sv : Value) : Value := .agg #[.string name, .int .i64 valid, .int .i64 next, sv]
set_option maxRecDepth 100000 in
structure BoxIn (W : World) (name : ByteArray) (valid next : Int) (sv : Value) (ps : List LV) : Prop where
  lets : Lets W sv ps
  len : ps.length ≤ 9223372036854775807
  small : ∀ p ∈ ps, p.1.bytes.length ≤ 9223372036854775807 ∧ (-9223372036854775808 ≤ p.1.uid ∧ p.1.uid ≤ 9223372036854775807)
  name : name.size ≤ 9223372036854775807
  valid : -9223372036854775808 ≤ valid ∧ valid ≤ 9223372036854775807
  next : -9223372036854775808 ≤ next ∧ next ≤ 9223372036854775807
set_option maxRecDepth 100000 in
theorem open_box {H : Type} {enc : TypeId × Value → H} {W : World} {base : Nat} {v : Value} {d : DataW H} {p : List MemPlace}
    (hval : Value.okWide Tryd.prog W .any base 52 v) (h0 : DataW.Trod enc Tryd.prog W 0 (fun _ => true) true 52 v d p) :
    ∃ name valid next sv ps, v = boxV name valid next sv ∧ BoxIn W name valid next sv ps := by
  obtain ⟨v0, v1, v2, v3, y0, y1, y2, y3, n, rfl, _, _, t0, t1, t2, t3⟩ := open_agg4 Tryd.underlying52 (by kernel_rfl) (by kernel_rfl) hval h0
  obtain ⟨s, e0, _, ws⟩ := DataW.trod_string Tryd.underlying9 t0
  obtain ⟨a1, e1, _, w1⟩ := DataW.trod_int Tryd.underlying3 t1
  obtain ⟨a2, e2, _, w2⟩ := DataW.trod_int Tryd.underlying3 t2
  simp only [List.cons.injEq, and_true] at e0 e1 e2
  subst e0 e1 e2
  obtain ⟨ps, hl, hlen, hsm⟩ := letters_of t3
  unfold maxLen at ws hlen hsm
  exact ⟨s, a1, a2, v3, ps, rfl, ⟨hl, hlen, hsm, ws, int_of w1, int_of w2⟩⟩
end Go.Proofs.YtjljbnilckkjnaaDoor
