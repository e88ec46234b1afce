/- Box: bytes.Clone, slices.Clone of letters. -/
import Derived.Test.YtpmakbjchepkmaaDoorB1
import Derived.Laws.OwnMore
import Derived.Deep.RegionWith
namespace Go.Proofs.YtpmakbjchepkmaaDoor
open Go Go.RowKit

/-- An append whose run is known, where each operation is met by itself. -/
theorem infoU8 : (Tryd.prog.info? 5).map (fun i => (i.zero, i.size, i.bytes)) = some (some (.int .u8 0), 1, 1) := by kernel_rfl
theorem infoLt : (Tryd.prog.info? 68).map (fun i => (i.zero, i.size, i.bytes)) = some (some (.agg #[.int .i64 0, .int .u8 0, .slice none 0 0]), 3, 40) := by kernel_rfl

/-- What bytes.Clone tells: new memory with these bytes. -/
def BytesR (W : World) (l : List UInt8) (e : Ending) (w' : World) : Prop := ∃ a c, e = .returned (.slice a l.length c) ∧ Row W.heap.size w' (.slice a l.length c) l ∧ Below W.heap.size W w'
set_option maxRecDepth 100000 in
set_option maxHeartbeats 1000000 in
theorem bclone_any (v : Value) (l : List UInt8) (w : World) (h : Byz w v l) (hl : l.length ≤ 1000000) :
    Calls Tryd.prog 29 #[v] w (BytesR w l) := by
  obtain ⟨⟨a, cap, rfl⟩, hb⟩ := id h
  cases a with
  | none =>
    have h0 : l = [] := by
      rcases l with _ | ⟨x, t⟩
      · rfl
      · obtain ⟨a', cap', e, h2, h3, _⟩ := hb (by simp)
        injection e with e1 _ e3
        have := h3 e1.symm
        simp only [List.length_cons] at h2
        omega
    subst h0
    have he := fun w => Lib.run_eql_slice_nil (P := Tryd.prog) w 43 5 none 0 cap 0 0 Tryd.underlying43
    clear hb h
    go_enter Tryd.func29, Tryd.ntmps29
    go_wp2
    go_ret
    exact ⟨none, 0, rfl, Row.nil _ _, Below.refl _ _⟩
  | some ad =>
    have he := fun w => Lib.run_eql_slice_nil (P := Tryd.prog) w 43 5 (some ad) l.length cap 0 0 Tryd.underlying43
    obtain ⟨i0, hi0, hz0, hz1, hz2⟩ := info_parts infoU8
    have hbl : Below w.heap.size w (w.alloc (.cells #[] 5)) := (Below.refl _ w).alloc (Nat.le_refl _) _
    have hrow : Row w.heap.size (w.alloc (.cells #[] 5)) (.slice (some ⟨w.heap.size, 0, none⟩) 0 0) [] := Row.made w 5 [] #[] rfl (Nat.le_refl _) (by simp)
    obtain ⟨v', w', hr, hrow', hg, _⟩ := run_append_src (P := Tryd.prog) _ 43 43 5 i0 Tryd.underlying43 hi0 hz0 hz1 hz2 hrow ((h.below hbl).src Tryd.underlying43) hbl.size (by simp; omega)
    rw [List.nil_append] at hrow'
    have hB : Below w.heap.size w w' := hbl.grown hg hbl.size (fun k hk => by cases hk; exact Nat.le_refl _)
    obtain ⟨a', c', rfl, _⟩ := hrow'.1.shape
    have HR := Lib.hid hr
    have HRow := Lib.hid hrow'
    have HB := Lib.hid hB
    clear hi0 hz0 hz1 hz2 hbl hrow hr hrow' hg hB hb h
    go_enter Tryd.func29, Tryd.ntmps29
    go_wp2_with (at_builtin; refine wpList_append_run _ rfl _ _ 43 43 rfl _ _ rfl rfl _ w' HR.out ?_)
    go_ret
    exact ⟨_, _, rfl, HRow.out, HB.out⟩

/-- What the call owns: letters. -/
def Owns (B : Nat) (w : World) (v : Value) (ps : List LV) : Prop := w.ownsRow B 68 3 v ps.length (cellsP ps)
theorem Owns.lets {B : Nat} {w : World} {v : Value} {ps : List LV} (h : Owns B w v ps) (hb : ∀ p ∈ ps, Byz w p.2 p.1.bytes) : Lets w v ps := by
  refine ⟨owns_shape h, fun hne => ?_, hb⟩
  rcases h.2 with ⟨_, h0⟩ | ⟨g, cap, cur, rfl, _, hg, _⟩
  · exact absurd (List.eq_nil_of_length_eq_zero h0) hne
  · refine ⟨g, 0, cap, rfl, (Array.getElem?_eq_some_iff.1 hg).1, fun j u hu => ?_⟩
    have := World.ownsRow.cells h (g := g) rfl j u hu
    rwa [addr_plus] at this
theorem Owns.below {B : Nat} {w w' : World} {v : Value} {ps : List LV} (h : Owns B w v ps) (hb : Below w.heap.size w w') : Owns B w' v ps :=
  owns_frame h (fun k hk => hb.block k (World.ownsRow.lt h k hk).2)
theorem cellsP_app (l m : List LV) : cellsP (l ++ m) = cellsP l ++ cellsP m := List.flatMap_append ..
theorem cellsP_cell {w : World} {l : List LV} (hl : ∀ p ∈ l, Byz w p.2 p.1.bytes) : ∀ u ∈ cellsP l, u.oneCell' = true := by
  intro u hu
  obtain ⟨x, hxl, hx⟩ := List.mem_flatMap.mp hu
  simp only [cellsLV, List.mem_cons, List.not_mem_nil, or_false] at hx
  rcases hx with rfl | rfl | rfl
  · rfl
  · rfl
  · obtain ⟨a, c, e⟩ := (hl x hxl).1
    rw [e]; rfl
theorem run_append_none_cap {P : Program} (w : World) (base : Nat) (t ty e : TypeId) (i : TypeInfo) (size : Nat) (ht : P.underlying t = some (.slice e)) (hi : P.info? e = some i)
    (v : Value) (n : Nat) (xs : List Value) (hown : w.ownsRow base e size v n xs) (c : Nat) :
    (Builtin.append_ #[t, t] ty #[v, .slice none 0 c]).run P w = .ok v w := by
  rcases hown.2 with ⟨rfl, rfl⟩ | ⟨g, cap, cur, rfl, _, _, hnc, _⟩
  · simp [Builtin.append_, run_underlying ht, sizeOf, typeInfo, hi, Builtin.lenOf, Builtin.firstCells]
  · simp [Builtin.append_, run_underlying ht, sizeOf, typeInfo, hi, Builtin.lenOf, Builtin.firstCells, hnc, storeCells]
/-- append(v, x...) onto letters that the call owns. -/
theorem appL (w : World) {B : Nat} {v x : Value} {l p : List LV} (hv : Owns B w v l) (hx : Lets w x p) (hB : B ≤ w.heap.size) (hlen : l.length + p.length ≤ 1000000) :
    ∃ a c w', (∀ ty, (Builtin.append_ #[38, 38] ty #[v, x]).run Tryd.prog w = .ok (.slice a (l ++ p).length c) w') ∧ Owns B w' (.slice a (l ++ p).length c) (l ++ p) ∧ w.grownBy w' v.ownBlock := by
  obtain ⟨i, hi, hz, hs, hb⟩ := info_parts infoLt
  have key : ∃ v' w', (∀ ty, (Builtin.append_ #[38, 38] ty #[v, x]).run Tryd.prog w = .ok v' w') ∧ Owns B w' v' (l ++ p) ∧ w.grownBy w' v.ownBlock := by
    by_cases hne : p = []
    · subst hne
      obtain ⟨a, cap, rfl, _⟩ := hx.shape
      cases a with
      | none =>
        refine ⟨v, w, fun ty => run_append_none_cap (P := Tryd.prog) w B 38 ty 68 i 3 Tryd.underlying38 hi v l.length (cellsP l) hv cap, by rw [List.append_nil]; exact hv, ⟨rfl, rfl, rfl, Nat.le_refl _, fun _ _ _ => rfl⟩⟩
      | some ad =>
        obtain ⟨v', w', hr, h2, h3, _⟩ := run_append_own (P := Tryd.prog) w B 38 0 68 i _ 3 40 Tryd.underlying38 hi hz hs hb rfl (by omega) v l.length (cellsP l) hv ad 0 cap [] rfl (fun j u hu => by simp at hu) (fun u hu => by simp at hu) (by unfold maxLen; omega) (by omega) hB
        refine ⟨v', w', fun ty => hr, ?_, h3⟩
        unfold Owns
        rw [List.append_nil]
        rw [List.append_nil] at h2
        exact h2
    · obtain ⟨g, off, cap, rfl, hg, hc⟩ := hx.cells hne
      obtain ⟨v', w', hr, h2, h3, _⟩ := run_append_own (P := Tryd.prog) w B 38 0 68 i _ 3 40 Tryd.underlying38 hi hz hs hb rfl (by omega) v l.length (cellsP l) hv ⟨g, off, none⟩ p.length cap (cellsP p) (cellsP_len p) (fun j u hu => by rw [addr_plus]; exact hc j u hu) (cellsP_cell hx.bytes) (by unfold maxLen; omega) (by omega) hB
      refine ⟨v', w', fun ty => hr, ?_, h3⟩
      unfold Owns
      rw [List.length_append, cellsP_app]
      exact h2
  obtain ⟨v', w', hr, h2, h3⟩ := key
  obtain ⟨a, c, rfl, _⟩ := owns_shape h2
  exact ⟨a, c, w', hr, h2, h3⟩
end Go.Proofs.YtpmakbjchepkmaaDoor
