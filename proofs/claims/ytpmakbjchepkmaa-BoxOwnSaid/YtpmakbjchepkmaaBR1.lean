/- Box: a right box stays right; what Cut and Add tell, in letters that are read; integers that are handed in. -/
import Derived.Test.YtpmakbjchepkmaaBK8
import Derived.Test.YtpmakbjchepkmaaBM3
namespace Go.Proofs.Ytpmakbjchepkmaa
open Go Go.RowKit

theorem cut_right {valid next : Int} {l : List Letr} (u : Int) (h : chk valid next l = 0) : chk valid next (cutL l u) = 0 := by
  obtain ⟨a, b, c, d⟩ := chk_ok h
  have hs : (cutL l u).Sublist l := List.filter_sublist
  exact ok_chk a b (Nat.le_trans hs.length_le c) ⟨fun x hx => d.uid x (hs.subset hx), fun x hx => d.flags x (hs.subset hx), fun x hx => d.bytes x (hs.subset hx), d.rise.sublist hs⟩
theorem cut_len_go (u : Int) : ∀ (l : List Letr), l.Pairwise (fun x y => x.uid < y.uid) → (l.findIdx fun x => x.uid == u) ≠ l.length → (l.filter fun x => x.uid != u).length + 1 = l.length
  | [], _, h => absurd rfl h
  | x :: t, hp, h => by
    obtain ⟨h1, h2⟩ := List.pairwise_cons.1 hp
    by_cases e : x.uid = u
    · have : t.filter (fun x => x.uid != u) = t := by
        rw [List.filter_eq_self]
        intro y hy
        have := h1 y hy
        simp only [bne_iff_ne, ne_eq]
        omega
      rw [List.filter_cons, if_neg (by simp [e]), this, List.length_cons]
    · have hb : (x.uid == u) = false := by simpa using e
      rw [List.findIdx_cons, hb] at h
      simp only [cond_false, List.length_cons] at h
      have ih := cut_len_go u t h2 (by omega)
      rw [List.filter_cons, if_pos (by simp [e]), List.length_cons, List.length_cons]
      omega
theorem cut_len {valid next : Int} {l : List Letr} {u : Int} (h : cutE valid next l u = 0) : (cutL l u).length + 1 = l.length := by
  unfold cutE at h
  split at h
  · rename_i h0; exact absurd h h0
  · rename_i h0
    have h0 : chk valid next l = 0 := by simpa using h0
    split at h
    · cases h
    · rename_i h1
      exact cut_len_go u l (chk_ok h0).2.2.2.rise h1
theorem addE_right {valid next : Int} {l : List Letr} {p : List UInt8} (h : chk valid next l = 0) (hp : p.length ≤ 600) : addE valid next l 0 p.length = 8 ∨ addE valid next l 0 p.length = 0 := by
  unfold addE
  rw [if_neg (by simp [h]), if_neg (by decide), if_neg (by omega)]
  split
  · exact Or.inl rfl
  · exact Or.inr rfl
/-- Nothing that is read of these letters lies in block b. -/
structure Apart (b : Nat) (v : Value) (ps : List LV) : Prop where
  row : ps ≠ [] → v.ownBlock ≠ some b
  bytes : ∀ p ∈ ps, p.1.bytes ≠ [] → p.2.ownBlock ≠ some b
theorem Lets.fr {w w' : World} {v : Value} {ps : List LV} {b : Nat} (h : Lets w v ps) (ha : Apart b v ps) (hf : Fr (· = b) w w') : Lets w' v ps := by
  refine ⟨h.shape, fun hne => ?_, fun p hp => (h.bytes p hp).kept hf.size (fun g hg hn => hf.block g ((h.bytes p hp).lt g hg hn) (fun e => ha.bytes p hp hn (by rw [hg, e])))⟩
  obtain ⟨g, off, cap, e, hg, hc⟩ := h.cells hne
  have hgb : g ≠ b := fun e' => ha.row hne (by rw [e, ← e']; rfl)
  exact ⟨g, off, cap, e, Nat.lt_of_lt_of_le hg hf.size, fun j u hu => (World.cell?_of_block (a := ⟨g, off + j, none⟩) (hf.block g hg hgb)).trans (hc j u hu)⟩
theorem Lets.apart {w : World} {v : Value} {ps : List LV} (h : Lets w v ps) : Apart w.heap.size v ps := by
  refine ⟨fun hne e => ?_, fun p hp hn e => by have := (h.bytes p hp).lt _ e hn; omega⟩
  obtain ⟨g, off, cap, ev, hg, _⟩ := h.cells hne
  rw [ev] at e
  simp [Value.ownBlock] at e
  omega
theorem owns_apart {B : Nat} {w : World} {v : Value} {qs : List LV} (h : Owns B w v qs) (hf : ∀ q ∈ qs, Row B w q.2 q.1.bytes) (b : Nat) (hb : b < B) : Apart b v qs :=
  ⟨fun _ e => by have := (World.ownsRow.lt h b e).1; omega, fun p hp _ e => by have := (row_own (hf p hp) b e).1; omega⟩
/-- Cut, its box laid into a block of its own. -/
theorem cut_good (name : ByteArray) (valid next : Int) (a0 : Option Addr) (c0 : Nat) (qs : List LV) (u : Int) (W : World) (h : Lets W (.slice a0 qs.length c0) qs) (hlen : qs.length ≤ 32) (hE : cutE valid next (qs.map (·.1)) u = 0) :
    Calls Try.prog 20 #[.agg #[.string name, .int .i64 valid, .int .i64 next, .slice a0 qs.length c0], .int .i64 u] W fun e w' => ∃ (a : Option Addr) (c : Nat) (rs : List LV) (W' : World), e = .returned (.tuple #[.agg #[.string name, .int .i64 valid, .int .i64 next, .slice a rs.length c], .int .i64 0]) ∧
      W' = w'.alloc (.cells #[.string name, .int .i64 valid, .int .i64 next, .slice a rs.length c] 24) ∧
      rs.map (·.1) = cutL (qs.map (·.1)) u ∧ BoxW W' w'.heap.size name valid next (.slice a rs.length c) ∧ Lets W' (.slice a rs.length c) rs ∧ Below W.heap.size W W' ∧ W.heap.size ≤ w'.heap.size ∧ ∀ b, b < W.heap.size → Apart b (.slice a rs.length c) rs := by
  refine (cut_any name valid next (.slice a0 qs.length c0) qs u W h (by omega)).mono ?_
  rintro e w' ⟨hb, _, h3⟩
  obtain ⟨a, c, rs, rfl, ho, hq, hf⟩ := h3 hE
  have hx := BoxW.new w' name valid next (.slice a rs.length c) 24
  have hy : Below w'.heap.size w' (w'.alloc (.cells #[.string name, .int .i64 valid, .int .i64 next, .slice a rs.length c] 24)) := (Below.refl _ w').alloc (Nat.le_refl _) _
  exact ⟨a, c, rs, _, rfl, rfl, hq, hx, (ho.lets (fun p hp => (hf p hp).1.1.z)).below hy, hb.trans (hy.mono hb.size), hb.size, owns_apart ho (fun p hp => (hf p hp).1)⟩
theorem cut_lets (name : ByteArray) (valid next : Int) (a0 : Option Addr) (c0 : Nat) (qs : List LV) (u : Int) (W : World) (h : Lets W (.slice a0 qs.length c0) qs) (hlen : qs.length ≤ 32) (hE : cutE valid next (qs.map (·.1)) u = 0) :
    Calls Try.prog 20 #[.agg #[.string name, .int .i64 valid, .int .i64 next, .slice a0 qs.length c0], .int .i64 u] W fun e w' => ∃ (a : Option Addr) (c : Nat) (rs : List LV), e = .returned (.tuple #[.agg #[.string name, .int .i64 valid, .int .i64 next, .slice a rs.length c], .int .i64 0]) ∧
      rs.map (·.1) = cutL (qs.map (·.1)) u ∧ Lets w' (.slice a rs.length c) rs ∧ Below W.heap.size W w' ∧ ∀ b, b < W.heap.size → Apart b (.slice a rs.length c) rs := by
  refine (cut_any name valid next (.slice a0 qs.length c0) qs u W h (by omega)).mono ?_
  rintro e w' ⟨hb, _, h3⟩
  obtain ⟨a, c, rs, rfl, ho, hq, hf⟩ := h3 hE
  exact ⟨a, c, rs, rfl, hq, ho.lets (fun p hp => (hf p hp).1.1.z), hb, owns_apart ho (fun p hp => (hf p hp).1)⟩
/-- Add, its box laid into a block of its own. -/
theorem add_good (name : ByteArray) (valid next : Int) (a0 : Option Addr) (c0 : Nat) (qs : List LV) (pv : Value) (p : List UInt8) (W : World) (h : Lets W (.slice a0 qs.length c0) qs) (hlen : qs.length ≤ 32) (hp : Byz W pv p) (hE : addE valid next (qs.map (·.1)) 0 p.length = 0) :
    Calls Try.prog 15 #[.agg #[.string name, .int .i64 valid, .int .i64 next, .slice a0 qs.length c0], .int .u8 0, pv] W fun e w' => ∃ (a : Option Addr) (c : Nat) (rs : List LV) (W' : World), e = .returned (.tuple #[.agg #[.string name, .int .i64 valid, .int .i64 (next + 1), .slice a rs.length c], .int .i64 next, .int .i64 0]) ∧
      W' = w'.alloc (.cells #[.string name, .int .i64 valid, .int .i64 (next + 1), .slice a rs.length c] 24) ∧
      rs.map (·.1) = qs.map (·.1) ++ [⟨next, 0, p⟩] ∧ BoxW W' w'.heap.size name valid (next + 1) (.slice a rs.length c) ∧ Lets W' (.slice a rs.length c) rs ∧ Below W.heap.size W W' ∧ W.heap.size ≤ w'.heap.size ∧ ∀ b, b < W.heap.size → Apart b (.slice a rs.length c) rs := by
  have ha := add_any name valid next (.slice a0 qs.length c0) qs 0 pv p W h (by omega) hp
  refine ha.mono ?_
  rintro e w' ⟨hb, _, h3⟩
  obtain ⟨a, c, rs, rfl, ho, hq, hf⟩ := h3 hE
  have hx := BoxW.new w' name valid (next + 1) (.slice a rs.length c) 24
  have hy : Below w'.heap.size w' (w'.alloc (.cells #[.string name, .int .i64 valid, .int .i64 (next + 1), .slice a rs.length c] 24)) := (Below.refl _ w').alloc (Nat.le_refl _) _
  exact ⟨a, c, rs, _, rfl, rfl, hq, hx, (ho.lets (fun p hp => (hf p hp).1.1.z)).below hy, hb.trans (hy.mono hb.size), hb.size, owns_apart ho (fun p hp => (hf p hp).1)⟩

/-- The slice v reads as these integers. -/
structure Nums (w : World) (v : Value) (l : List Int) : Prop where
  shape : ∃ a cap, v = .slice a l.length cap
  cells : l ≠ [] → ∃ g off cap, v = .slice (some ⟨g, off, none⟩) l.length cap ∧ g < w.heap.size ∧ ∀ (i : Nat) (x : Int), l[i]? = some x → w.cell? ⟨g, off + i, none⟩ = some (.int .i64 x)
theorem Nums.below {w w' : World} {v : Value} {l : List Int} (h : Nums w v l) (hb : Below w.heap.size w w') : Nums w' v l := by
  refine ⟨h.shape, fun hne => ?_⟩
  obtain ⟨g, off, cap, e, hg, hc⟩ := h.cells hne
  exact ⟨g, off, cap, e, Nat.lt_of_lt_of_le hg hb.size, fun i x hx => (hb.cell (p := ⟨g, off + i, none⟩) hg).trans (hc i x hx)⟩
section
open Go.ChangeShapes Go.WideShapes Go.ChangeAt Go.RowKit Go.Deep Go.Joins
set_option maxRecDepth 100000 in
theorem open_nums {H : Type} {enc : TypeId × Value → H} {W : World} {base : Nat} {v : Value} {d : DataW H} {p : List MemPlace}
    (hval : Value.okWide Try.prog W .any base 41 v) (h0 : DataW.Trod enc Try.prog W 0 (fun _ => true) true 41 v d p) :
    ∃ l : List Int, Nums W v l ∧ l.length ≤ maxLen := by
  obtain ⟨a0, len, cap, rfl⟩ := okWide_slice Try.underlying41 hval
  obtain ⟨fuel, hf⟩ := h0
  rcases open_ints Try.underlying41 Try.underlying3 cellsI hf with ⟨hcs, hx⟩ | ⟨a, len', cap', zs, hcs, _, hl, hm, hz, hx, hcell, hwz⟩
  · simp [Value.cells] at hcs
    obtain ⟨rfl, rfl, rfl⟩ := hcs
    exact ⟨[], ⟨⟨none, 0, rfl⟩, fun h => absurd rfl h⟩, by simp⟩
  · simp [Value.cells] at hcs
    obtain ⟨rfl, rfl, rfl⟩ := hcs
    rcases Nat.eq_zero_or_pos len with h0 | h0
    · subst h0
      exact ⟨[], ⟨⟨some a, cap, rfl⟩, fun h => absurd rfl h⟩, by simp⟩
    · simp only [if_true] at hz
      have hc0 := hcell 0 (by omega)
      obtain ⟨g, off, sp⟩ := a
      rw [show (⟨g, off, sp⟩ : Addr).add 0 = ⟨g, off, sp⟩ by unfold Addr.add; simp] at hc0
      have hs : sp = none := cell_spot hc0
      subst hs
      have hlen : (zs.take len).length = len := by rw [List.length_take]; omega
      refine ⟨zs.take len, ⟨⟨some ⟨g, off, none⟩, cap, by rw [hlen]⟩, fun _ => ⟨g, off, cap, by rw [hlen], World.block_lt_of_cell? W _ hc0, fun j x hj => ?_⟩⟩, by rw [hlen]; omega⟩
      have hj2 : j < len := by have := (List.getElem?_eq_some_iff.1 hj).1; omega
      have hc := hcell j (by omega)
      rw [addr_plus] at hc
      rw [hc]
      rw [List.getElem?_take, if_pos hj2] at hj
      rw [show zs.getD j 0 = x by rw [List.getD_eq_getElem?_getD, hj]; rfl]
end
end Go.Proofs.Ytpmakbjchepkmaa
