/- Box: flags, laid again: plain facts; what Flag tells, in letters that are read; a turn that is handed in. -/
import Derived.Test.YtpmakbjchepkmaaBK3
namespace Go.Proofs.Ytpmakbjchepkmaa
open Go Go.RowKit

theorem n_or_not : ∀ x, x < 256 → ∀ f, f < 256 → (x ||| f) &&& (f ^^^ 255) = x &&& (f ^^^ 255) := by decide +kernel
theorem u_or_not (x f : UInt8) : (x ||| f) &&& (f ^^^ 255) = x &&& (f ^^^ 255) := by
  apply UInt8.toNat_inj.1
  have := n_or_not x.toNat x.toNat_lt f.toNat f.toNat_lt
  rw [UInt8.toNat_and, UInt8.toNat_or, UInt8.toNat_and, UInt8.toNat_xor]
  exact this
theorem n_lt : ∀ x, x < 32 → ∀ f, f < 32 → x ||| f < 32 ∧ x &&& (f ^^^ 255) < 32 := by decide +kernel
theorem layF_lt (how : Int) (x f : UInt8) (hx : x.toNat < 32) (hf : f.toNat < 32) : (layF how x f).toNat < 32 := by
  have h := n_lt x.toNat hx f.toNat hf
  unfold layF
  split
  · exact hf
  · split
    · rw [UInt8.toNat_or]; exact h.1
    · rw [UInt8.toNat_and, UInt8.toNat_xor]; exact h.2
theorem layF_twice (how : Int) (x f : UInt8) : layF how (layF how x f) f = layF how x f := by
  unfold layF
  split
  · rfl
  · split
    · rw [UInt8.or_assoc, UInt8.or_self]
    · rw [UInt8.and_assoc, UInt8.and_self]
theorem lay_more_less (x f : UInt8) : layF 2 (layF 1 x f) f = layF 2 x f := by simp [layF, u_or_not]

theorem findU_mod (l : List Letr) (u : Int) (k : Nat) (g : UInt8 → UInt8) : findU (l.modify k fun x => { x with flags := g x.flags }) u = findU l u := by
  unfold findU
  induction l generalizing k with
  | nil => cases k <;> rfl
  | cons x t ih =>
    cases k with
    | zero => rfl
    | succ k =>
      rw [List.modify_succ_cons, List.findIdx_cons, List.findIdx_cons, ih]
theorem mod_mem {l : List Letr} {k : Nat} {g : UInt8 → UInt8} {x : Letr} (h : x ∈ l.modify k fun x => { x with flags := g x.flags }) : ∃ y ∈ l, x.uid = y.uid ∧ x.bytes = y.bytes ∧ (x.flags = y.flags ∨ x.flags = g y.flags) := by
  obtain ⟨i, hi⟩ := List.getElem?_of_mem h
  rw [List.getElem?_modify] at hi
  cases hl : l[i]? with
  | none => rw [hl] at hi; simp at hi
  | some y =>
    rw [hl] at hi
    have hm := List.mem_of_getElem? hl
    by_cases e : k = i
    · simp [e] at hi; subst hi; exact ⟨y, hm, rfl, rfl, Or.inr rfl⟩
    · simp [e] at hi; subst hi; exact ⟨y, hm, rfl, rfl, Or.inl rfl⟩
theorem mod_uids (l : List Letr) (k : Nat) (g : UInt8 → UInt8) : (l.modify k fun x => { x with flags := g x.flags }).map (·.uid) = l.map (·.uid) := by
  apply List.ext_getElem?
  intro i
  rw [List.getElem?_map, List.getElem?_map, List.getElem?_modify]
  cases l[i]? with
  | none => simp
  | some y => by_cases e : k = i <;> simp [e]
theorem flagE_ok {valid next : Int} {l : List Letr} {u how : Int} {flags : UInt8} (h : flagE valid next l u how flags = 0) : chk valid next l = 0 ∧ (0 ≤ how ∧ how ≤ 2) ∧ flags.toNat < 32 ∧ findU l u ≠ l.length := by
  unfold flagE at h
  split at h
  · rename_i h0; exact absurd h h0
  · rename_i h0
    have h0 : chk valid next l = 0 := by simpa using h0
    split at h
    · cases h
    · split at h
      · cases h
      · rename_i h1 h2; exact ⟨h0, by omega, by omega, h2⟩
theorem ok_flagE {valid next : Int} {l : List Letr} {u how : Int} {flags : UInt8} (h1 : chk valid next l = 0) (h2 : 0 ≤ how ∧ how ≤ 2) (h3 : flags.toNat < 32) (h4 : findU l u ≠ l.length) : flagE valid next l u how flags = 0 := by
  unfold flagE
  rw [if_neg (by simp [h1]), if_neg (by omega), if_neg h4]
theorem flag_len (l : List Letr) (u how : Int) (flags : UInt8) : (flagL l u how flags).length = l.length := by unfold flagL; rw [List.length_modify]
/-- Behind a Flag that went well, another goes well. -/
theorem flag_more {valid next : Int} {l : List Letr} {u how how' : Int} {flags : UInt8} (h : flagE valid next l u how flags = 0) (h' : 0 ≤ how' ∧ how' ≤ 2) : flagE valid next (flagL l u how flags) u how' flags = 0 := by
  obtain ⟨h1, h2, h3, h4⟩ := flagE_ok h
  obtain ⟨a, b, c, d⟩ := chk_ok h1
  refine ok_flagE (ok_chk a b (by rw [flag_len]; exact c) ⟨fun x hx => ?_, fun x hx => ?_, fun x hx => ?_, ?_⟩) h' h3 ?_
  · obtain ⟨y, hy, e, _, _⟩ := mod_mem (g := fun f => layF how f flags) (k := findU l u) hx
    rw [e]; exact d.uid y hy
  · obtain ⟨y, hy, _, _, e⟩ := mod_mem (g := fun f => layF how f flags) (k := findU l u) hx
    rcases e with e | e
    · rw [e]; exact d.flags y hy
    · rw [e]; exact layF_lt _ _ _ (d.flags y hy) h3
  · obtain ⟨y, hy, _, e, _⟩ := mod_mem (g := fun f => layF how f flags) (k := findU l u) hx
    rw [e]; exact d.bytes y hy
  · have := d.rise
    have hu : ((flagL l u how flags).map (·.uid)).Pairwise (· < ·) := by
      rw [show (flagL l u how flags).map (·.uid) = l.map (·.uid) from mod_uids l (findU l u) (fun f => layF how f flags)]; exact List.pairwise_map.2 this
    exact List.pairwise_map.1 hu
  · rw [flag_len]
    rw [show findU (flagL l u how flags) u = findU l u from findU_mod l u (findU l u) (fun f => layF how f flags)]; exact h4
theorem flag_again (l : List Letr) (u how how' : Int) (flags : UInt8) : flagL (flagL l u how flags) u how' flags = l.modify (findU l u) fun x => { x with flags := layF how' (layF how x.flags flags) flags } := by
  have h : findU (flagL l u how flags) u = findU l u := findU_mod l u (findU l u) (fun f => layF how f flags)
  rw [flagL, h, flagL, List.modify_modify_eq]
  rfl
theorem flag_twice (l : List Letr) (u how : Int) (flags : UInt8) : flagL (flagL l u how flags) u how flags = flagL l u how flags := by
  rw [flag_again, flagL]
  congr 1
  funext x
  rw [layF_twice]
theorem flag_more_less (l : List Letr) (u : Int) (flags : UInt8) : flagL (flagL l u 1 flags) u 2 flags = flagL l u 2 flags := by
  rw [flag_again, flagL]
  congr 1
  funext x
  rw [lay_more_less]
/-- A letter that is not the one that is asked for stays. -/
theorem flag_at (l : List Letr) (u how : Int) (flags : UInt8) (i : Nat) (x : Letr) (hi : l[i]? = some x) : ∃ f, (flagL l u how flags)[i]? = some { x with flags := f } ∧ (x.uid ≠ u → f = x.flags) := by
  unfold flagL
  rw [List.getElem?_modify, hi]
  by_cases e : findU l u = i
  · refine ⟨layF how x.flags flags, by simp [e], fun hne => ?_⟩
    exfalso
    have hlt : findU l u < l.length := by rw [e]; exact (List.getElem?_eq_some_iff.1 hi).1
    have := List.findIdx_getElem (p := fun x : Letr => x.uid == u) (xs := l) (w := hlt)
    simp only [beq_iff_eq] at this
    obtain ⟨h1, h2⟩ := List.getElem?_eq_some_iff.1 hi
    subst e
    exact hne (by rw [← h2]; exact this)
  · exact ⟨x.flags, by simp [e], fun _ => rfl⟩

/-- What Flag tells, in letters that are read. -/
def FlagW (W : World) (name : ByteArray) (valid next : Int) (l : List Letr) (u how : Int) (flags : UInt8) (e : Ending) (w' : World) : Prop :=
  Below W.heap.size W w' ∧ (flagE valid next l u how flags ≠ 0 → e = .returned (.tuple #[boxV0, .int .i64 (flagE valid next l u how flags)])) ∧
  (flagE valid next l u how flags = 0 → ∃ a c qs, e = .returned (.tuple #[boxV name valid next (.slice a qs.length c), .int .i64 0]) ∧ Lets w' (.slice a qs.length c) qs ∧ qs.map (·.1) = flagL l u how flags)
theorem flag_lets (name : ByteArray) (valid next : Int) (sv : Value) (ps : List LV) (u how : Int) (flags : UInt8) (w : World) (h : Lets w sv ps) (hlen : ps.length ≤ 9223372036854775807) :
    Calls Try.prog 18 #[boxV name valid next sv, .int .i64 u, .int .i64 how, .int .u8 (flags.toNat : Int)] w (FlagW w name valid next (ps.map (·.1)) u how flags) :=
  (flag_any name valid next sv ps u how flags w h hlen).mono fun e w' ⟨h1, h2, h3⟩ => ⟨h1, h2, fun hE => by
    obtain ⟨a, c, qs, e1, e2, e3, e4⟩ := h3 hE
    exact ⟨a, c, qs, e1, e2.lets (fun p hp => (e4 p hp).1.1.z), e3⟩⟩
/-- A box is laid into a block of its own. -/
theorem lay_box (w : World) (name : ByteArray) (valid next : Int) (sv : Value) (t : TypeId) :
    ∃ W, W = ((((w.alloc (.cells #[.string ⟨#[]⟩, .int .i64 0, .int .i64 0, .slice none 0 0] t)).setCell ⟨w.heap.size, 0, none⟩ (.string name)).setCell ⟨w.heap.size, 1, none⟩ (.int .i64 valid)).setCell ⟨w.heap.size, 2, none⟩ (.int .i64 next)).setCell ⟨w.heap.size, 3, none⟩ sv ∧ BoxW W w.heap.size name valid next sv ∧ Below w.heap.size w W := by
  obtain ⟨W, hW, hb, hf⟩ := (BoxW.new w ⟨#[]⟩ 0 0 (.slice none 0 0) t).put4 name valid next sv
  have h1 : Below w.heap.size w (w.alloc (.cells #[.string ⟨#[]⟩, .int .i64 0, .int .i64 0, .slice none 0 0] t)) := (Below.refl _ w).alloc (Nat.le_refl _) _
  exact ⟨W, hW, hb, h1.trans (hf.below h1.size (fun k e => by omega))⟩

section
open Go.ChangeShapes Go.WideShapes Go.ChangeAt Go.RowKit Go.Deep Go.Joins
/-- A turn as a value. -/
def turnV (u how : Int) (f : UInt8) : Value := .agg #[.int .i64 u, .int .i64 how, .int .u8 (f.toNat : Int)]
set_option maxRecDepth 100000 in
theorem open_turn {H : Type} {enc : TypeId × Value → H} {W : World} {base : Nat} {v : Value} {d : DataW H} {p : List MemPlace}
    (hval : Value.okWide Try.prog W .any base 36 v) (h0 : DataW.Trod enc Try.prog W 0 (fun _ => true) true 36 v d p) :
    ∃ (u how : Int) (f : UInt8), v = turnV u how f ∧ (-9223372036854775808 ≤ u ∧ u ≤ 9223372036854775807) ∧ (-9223372036854775808 ≤ how ∧ how ≤ 9223372036854775807) := by
  obtain ⟨v0, v1, v2, y0, y1, y2, n, rfl, _, _, t0, t1, t2⟩ := open_agg3 Try.underlying36 (by kernel_rfl) (by kernel_rfl) hval h0
  obtain ⟨a0, e0, _, w0⟩ := DataW.trod_int Try.underlying3 t0
  obtain ⟨a1, e1, _, w1⟩ := DataW.trod_int Try.underlying3 t1
  obtain ⟨a2, e2, _, w2⟩ := DataW.trod_int Try.underlying5 t2
  simp only [List.cons.injEq, and_true] at e0 e1 e2
  subst e0 e1 e2
  have hb := byte_of w2
  refine ⟨a0, a1, UInt8.ofNat a2.toNat, ?_, int_of w0, int_of w1⟩
  unfold turnV
  rw [show ((UInt8.ofNat a2.toNat).toNat : Int) = a2 by rw [UInt8.toNat_ofNat_of_lt' (by show a2.toNat < 256; omega)]; omega]
end
end Go.Proofs.Ytpmakbjchepkmaa
