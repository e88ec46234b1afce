/- Box: appends onto literals, as steps of a region. -/
import Derived.Test.YtpmakbjchepkmaaBA1
namespace Go.Proofs.Ytpmakbjchepkmaa
open Go Go.RowKit

theorem cells_nil (n : Nat) (l : List LV) (h : l = []) (hn : n = l.length) : n = 0 := by subst h; simpa using hn
/-- append([]api.Letter{}, x...). -/
theorem appL0 (w : World) {g : Nat} {x : Value} {p : List LV} (hv : Owns g w (.slice (some ⟨g, 0, none⟩) 0 0) []) (hx : Lets w x p) (hlen : p.length ≤ 1000000) :
    ∃ a c w', (∀ ty, (Builtin.append_ #[22, 22] ty #[.slice (some ⟨g, 0, none⟩) 0 0, x]).run Try.prog w = .ok (.slice a p.length c) w') ∧ Owns g w' (.slice a p.length c) p ∧ Below w.heap.size w w' ∧
      ∀ k, (Value.slice a p.length c).ownBlock = some k → k < w'.heap.size ∧ (k = g ∨ w.heap.size ≤ k) := by
  obtain ⟨i, hi, hz, hs, hb⟩ := info_parts infoLt
  have hgl := (World.ownsRow.lt hv g rfl).2
  by_cases hne : p = []
  · subst hne
    obtain ⟨a, cap, rfl, _⟩ := hx.shape
    refine ⟨some ⟨g, 0, none⟩, 0, w, fun ty => ?_, hv, Below.refl _ _, fun k hk => ?_⟩
    · cases a with
      | none => simp [Builtin.append_, run_underlying Try.underlying22, sizeOf, typeInfo, hi, Builtin.lenOf, Builtin.firstCells, storeCells]
      | some ad =>
        simp [Builtin.append_, run_underlying Try.underlying22, sizeOf, typeInfo, hi, Builtin.lenOf, Builtin.firstCells, storeCells]
        rfl
    · simp [Value.ownBlock] at hk; subst hk; exact ⟨hgl, Or.inl rfl⟩
  · obtain ⟨g', off, cap, rfl, hg', hc⟩ := hx.cells hne
    have hnz : 0 < p.length := List.length_pos_iff.2 hne
    have hbs : i.bytes = 40 := hb
    have hss : i.size = 3 := hs
    have hr' := run_append_grow (P := Try.prog) w 22 0 44 i _ Try.underlying22 hi hz ⟨g, 0, none⟩ 0 0 [] (by simp) (fun j u hj => by simp at hj) ⟨g', off, none⟩ p.length cap (cellsP p) (by rw [cellsP_len, hss]) (fun j u hu => by rw [addr_plus]; exact hc j u hu) (by omega) (by omega) (growslice_fits (by omega) (by rw [hbs]; omega))
    obtain ⟨v', w', hr, h2, h3, _⟩ := run_append_own (P := Try.prog) w g 22 0 44 i _ 3 40 Try.underlying22 hi hz hs hb rfl (by omega) _ 0 [] hv ⟨g', off, none⟩ p.length cap (cellsP p) (cellsP_len p) (fun j u hu => by rw [addr_plus]; exact hc j u hu) (cellsP_cell hx.bytes) (by unfold maxLen; omega) (by omega) (by omega)
    rw [hr] at hr'
    injection hr' with e1 e2
    subst e1 e2
    simp only [Nat.zero_add, List.nil_append] at h2 hr
    refine ⟨_, _, _, fun ty => hr, h2, (Below.refl _ _).drew.alloc (by simp) _, fun k hk => ?_⟩
    simp [Value.ownBlock] at hk
    subst hk
    exact ⟨by simp, Or.inr (by simp)⟩
/-- append([]byte{}, x...). -/
theorem appB0 (w : World) {g : Nat} {x : Value} {p : List UInt8} (hv : Row g w (.slice (some ⟨g, 0, none⟩) 0 0) []) (hx : Byz w x p) (hlen : p.length ≤ 1000000) :
    ∃ a c w', (∀ ty, (Builtin.append_ #[30, 30] ty #[.slice (some ⟨g, 0, none⟩) 0 0, x]).run Try.prog w = .ok (.slice a p.length c) w') ∧ Row g w' (.slice a p.length c) p ∧ Below w.heap.size w w' ∧
      (p ≠ [] → ∀ k, (Value.slice a p.length c).ownBlock = some k → k < w'.heap.size ∧ w.heap.size ≤ k) := by
  obtain ⟨i, hi, hz, hs, hb⟩ := info_parts infoU8
  by_cases hne : p = []
  · subst hne
    obtain ⟨⟨a, cap, rfl⟩, _⟩ := hx
    refine ⟨some ⟨g, 0, none⟩, 0, w, fun ty => ?_, hv, Below.refl _ _, fun h => absurd rfl h⟩
    cases a with
    | none => simp [Builtin.append_, run_underlying Try.underlying30, sizeOf, typeInfo, hi, Builtin.lenOf, Builtin.firstCells, storeCells]
    | some ad =>
      simp [Builtin.append_, run_underlying Try.underlying30, sizeOf, typeInfo, hi, Builtin.lenOf, Builtin.firstCells, storeCells]
      rfl
  · have hy := hx.2 hne
    have hnz : 0 < p.length := List.length_pos_iff.2 hne
    obtain ⟨g', off, cap, rfl, _, hg', hc⟩ := hy.cell hnz
    have hgl : g < w.heap.size := hv.1.lt g rfl
    have hss : i.size = 1 := hs
    have hbs : i.bytes = 1 := hb
    have hr' := run_append_grow (P := Try.prog) w 30 0 5 i _ Try.underlying30 hi hz ⟨g, 0, none⟩ 0 0 [] (by simp) (fun j u hj => by simp at hj) ⟨g', off, none⟩ p.length cap (p.map fun b => Value.int .u8 (b.toNat : Int)) (by rw [List.length_map, hss]; omega)
      (fun j u hu => by
        have hj : j < p.length := by have := (List.getElem?_eq_some_iff.1 hu).1; simpa using this
        rw [addr_plus, hc j hj]
        simp only [List.getElem?_map, List.getElem?_eq_getElem hj, Option.map_some, Option.some.injEq] at hu
        rw [hu]) (by omega) (by omega) (growslice_fits (by omega) (by rw [hbs]; omega))
    obtain ⟨v', w', hr, h2, h3, _⟩ := run_append_src (P := Try.prog) w 30 30 5 i Try.underlying30 hi hz hs hb hv (hx.src Try.underlying30) (by omega) (by simp; omega)
    have hr0 := hr 0
    rw [hr0] at hr'
    injection hr' with e1 e2
    subst e1 e2
    simp only [Nat.zero_add, List.nil_append] at h2 hr
    refine ⟨_, _, _, hr, h2, (Below.refl _ _).drew.alloc (by simp) _, fun _ k hk => ?_⟩
    simp [Value.ownBlock] at hk
    subst hk
    exact ⟨by simp, by simp⟩
section
variable {ops : Array Oper} {o : Oper} {a : Act} {w : World} {K : Act → World → Prop} {Q : Exit → Act → World → Prop} {E : Prop}
theorem step_appL0 (hg : o.guard = none) (s x : Operand) (ho : o.op = .call { callee := .builtin .append, args := #[s, x], argTypes := #[22, 22] }) {wa : World} {g : Nat} (xv : Value) {p : List LV} (hs : a.eval s = .slice (some ⟨g, 0, none⟩) 0 0) (hx : a.eval x = xv)
    (hc : Below (wa.alloc (.cells #[] 44)).heap.size (wa.alloc (.cells #[] 44)) w) (hgw : wa.heap.size = g) (hl : Lets w xv p) (hlen : p.length ≤ 1000000)
    (h : ∀ a' c w', Owns g w' (.slice a' p.length c) p → Below w.heap.size w w' → g ≤ w'.heap.size → (∀ k, (Value.slice a' p.length c).ownBlock = some k → k < w'.heap.size ∧ g ≤ k ∧ (k = g ∨ w.heap.size ≤ k)) → K (a.put o.dst (.slice a' p.length c)) w') :
    if Region.wanted o (yielded ops a.tmps) = true then Oper.wp Try.prog o a w K Q else E := by
  subst hgw
  obtain ⟨a', c, w', hr, h1, h2, h3⟩ := appL0 w ((owns_lit wa).below hc) hl hlen
  exact step_append hg s x _ _ ho _ _ hs hx _ w' hr (h a' c w' h1 h2 (by have := hc.size; have := h2.size; simp at *; omega) (fun k hk => ⟨(h3 k hk).1, (World.ownsRow.lt h1 k hk).1, (h3 k hk).2⟩))
theorem step_appB0 (hg : o.guard = none) (s x : Operand) (ho : o.op = .call { callee := .builtin .append, args := #[s, x], argTypes := #[30, 30] }) {wa : World} {g : Nat} (xv : Value) {p : List UInt8} (hs : a.eval s = .slice (some ⟨g, 0, none⟩) 0 0) (hx : a.eval x = xv)
    (hc : Below (wa.alloc (.cells #[] 5)).heap.size (wa.alloc (.cells #[] 5)) w) (hgw : wa.heap.size = g) (hl : Byz w xv p) (hlen : p.length ≤ 1000000)
    (h : ∀ a' c w', Byz w' (.slice a' p.length c) p → Below w.heap.size w w' → (p ≠ [] → ∀ k, (Value.slice a' p.length c).ownBlock = some k → k < w'.heap.size ∧ w.heap.size ≤ k) → K (a.put o.dst (.slice a' p.length c)) w') :
    if Region.wanted o (yielded ops a.tmps) = true then Oper.wp Try.prog o a w K Q else E := by
  subst hgw
  obtain ⟨a', c, w', hr, h1, h2, h3⟩ := appB0 w ((row_lit wa).below hc) hl hlen
  exact step_append hg s x _ _ ho _ _ hs hx _ w' hr (h a' c w' h1.1.z h2 h3)
/-- One letter more, of a literal. -/
theorem step_appL1 (hg : o.guard = none) (s x : Operand) (ho : o.op = .call { callee := .builtin .append, args := #[s, x], argTypes := #[22, 22] }) {wl wc : World} {B n c0 g : Nat} {a0 : Option Addr} {l : List LV} (q : LV) (hs : a.eval s = .slice a0 n c0) (hx : a.eval x = .slice (some ⟨g, 0, none⟩) 1 1)
    (ho' : Owns B wl (.slice a0 n c0) l) (hn : l.length = n) (hlen : n ≤ 1000) (hB : B ≤ wl.heap.size) (hc1 : Below wl.heap.size wl w)
    (hc2 : Below (wc.alloc (.cells #[.int .i64 q.1.uid, .int .u8 (q.1.flags.toNat : Int), q.2] 44)).heap.size (wc.alloc (.cells #[.int .i64 q.1.uid, .int .u8 (q.1.flags.toNat : Int), q.2] 44)) w) (hgw : wc.heap.size = g) (hy : Byz wc q.2 q.1.bytes)
    (h : ∀ a' c w', Owns B w' (.slice a' (n + 1) c) (l ++ [q]) → w.grownBy w' (Value.slice a0 n c0).ownBlock → ((∀ k, (Value.slice a0 n c0).ownBlock = some k → q.2.ownBlock = some k → q.1.bytes = []) → Byz w' q.2 q.1.bytes) → K (a.put o.dst (.slice a' (n + 1) c)) w') :
    if Region.wanted o (yielded ops a.tmps) = true then Oper.wp Try.prog o a w K Q else E := by
  subst hn hgw
  have hL := (lit_letter wc q.1 q.2 (hy.below ((Below.refl _ _).alloc (Nat.le_refl _) _))).below hc2
  obtain ⟨a', c, w', hr, h1, h2⟩ := appL w (ho'.below hc1) hL (Nat.le_trans hB hc1.size) (by simp; omega)
  rw [show (l ++ [(q.1, q.2)]).length = l.length + 1 by simp] at hr h1
  have hy2 : Byz w q.2 q.1.bytes := (hy.below ((Below.refl _ _).alloc (Nat.le_refl _) _)).below hc2
  exact step_append hg s x _ _ ho _ _ hs hx _ w' hr (h a' c w' h1 h2 (fun hd => hy2.kept h2.size (fun g hgk hn => h2.block g (hy2.lt g hgk hn) (fun e => hn (hd g e.symm hgk)))))
end
end Go.Proofs.Ytpmakbjchepkmaa
