/- Box: Find. -/
import Derived.Test.YtpmakbjchepkmaaDoorBF2
import Derived.Test.YtpmakbjchepkmaaDoorB2
namespace Go.Proofs.YtpmakbjchepkmaaDoor
open Go Go.RowKit

theorem infoInt : (Tryd.prog.info? 3).map (fun i => (i.zero, i.size, i.bytes)) = some (some (.int .i64 0), 1, 8) := by kernel_rfl
/-- What the call owns: numbers. -/
def OwnsI (B : Nat) (w : World) (v : Value) (l : List Int) : Prop := w.ownsRow B 3 1 v l.length (l.map fun n => .int .i64 n)
theorem OwnsI.below {B : Nat} {w w' : World} {v : Value} {l : List Int} (h : OwnsI B w v l) (hb : Below w.heap.size w w') : OwnsI B w' v l :=
  owns_frame h (fun k hk => hb.block k (World.ownsRow.lt h k hk).2)
theorem appI (w : World) {B : Nat} {v : Value} {l : List Int} (n : Int) (hv : OwnsI B w v l) (hB : B ≤ w.heap.size) (hlen : l.length + 1 ≤ 1000) :
    ∃ a c w', (∀ ty, (Builtin.append_ #[44, 44] ty #[v, .slice (some ⟨w.heap.size, 0, none⟩) 1 1]).run Tryd.prog (w.alloc (.cells #[.int .i64 n] 3)) = .ok (.slice a (l ++ [n]).length c) w') ∧ OwnsI B w' (.slice a (l ++ [n]).length c) (l ++ [n]) ∧ (∀ W, Below B W w → Below B W w') := by
  have hb : Below w.heap.size w (w.alloc (.cells #[.int .i64 n] 3)) := (Below.refl _ w).alloc (Nat.le_refl _) _
  obtain ⟨i, hi, hz, hs, hbs⟩ := info_parts infoInt
  obtain ⟨v', w', hr, ho, hg, _⟩ := run_append_own (P := Tryd.prog) _ B 44 0 3 i _ 1 8 Tryd.underlying44 hi hz hs hbs rfl (by decide) v l.length _ (hv.below hb) ⟨w.heap.size, 0, none⟩ 1 1 [.int .i64 n] rfl
    (fun j u hu => by rw [addr_plus, Nat.zero_add, cell_of_row _ _ _ _ _ _ (heap_alloc_new w _)]; simpa using hu) (fun u hu => by rw [List.mem_singleton] at hu; subst hu; rfl) (by unfold maxLen; omega) (by omega) (Nat.le_trans hB hb.size)
  have hcl : (l ++ [n]).map (fun n => Value.int .i64 n) = l.map (fun n => Value.int .i64 n) ++ [.int .i64 n] := by simp
  have hln : (l ++ [n]).length = l.length + 1 := by simp
  rw [← hcl, ← hln] at ho
  obtain ⟨a, c, rfl, _⟩ := owns_shape ho
  exact ⟨a, c, w', fun _ => hr, ho, fun W hW => (hW.alloc hB _).grown hg (Nat.le_trans hB hb.size) (fun k hk => (World.ownsRow.lt hv k hk).1)⟩

def askOk (qs : List Qry) : Bool := qs.all fun q => decide (1 ≤ q.ask ∧ q.ask ≤ 7)
def trueOf (qs : List Qry) (x : Letr) : Bool := qs.all fun q => holdB q x
def findL (qs : List Qry) (l : List Letr) : List Int := (l.filter (trueOf qs)).map (·.uid)
def findE (valid next : Int) (l : List Letr) (qs : List Qry) : Int :=
  if chk valid next l ≠ 0 then chk valid next l else if 16 < qs.length then 6 else if askOk qs = false then 14 else 0
def FindR (W : World) (valid next : Int) (ps : List LV) (qs : List Qry) (e : Ending) (w' : World) : Prop :=
  Below W.heap.size W w' ∧ (findE valid next (ps.map (·.1)) qs ≠ 0 → e = .returned (.tuple #[.slice none 0 0, .int .i64 (findE valid next (ps.map (·.1)) qs)])) ∧
  (findE valid next (ps.map (·.1)) qs = 0 → ∃ a c, e = .returned (.tuple #[.slice a (findL qs (ps.map (·.1))).length c, .int .i64 0]) ∧ OwnsI W.heap.size w' (.slice a (findL qs (ps.map (·.1))).length c) (findL qs (ps.map (·.1))))
theorem FindR.bad {W w' : World} {valid next : Int} {ps : List LV} {qs : List Qry} {x : Int} (hx : findE valid next (ps.map (·.1)) qs = x) (h0 : x ≠ 0) (hb : Below W.heap.size W w') :
    FindR W valid next ps qs (.returned (.tuple #[.slice none 0 0, .int .i64 x])) w' := ⟨hb, fun _ => by rw [hx], fun h => absurd (hx.symm.trans h) h0⟩
theorem findL_snoc (qs : List Qry) (l : List Letr) (x : Letr) : findL qs (l ++ [x]) = findL qs l ++ (if trueOf qs x = true then [x.uid] else []) := by
  unfold findL
  rw [List.filter_append, List.map_append]
  congr 1
  by_cases h : trueOf qs x = true
  · simp [h]
  · simp [h]
theorem trueOf_any (qs : List Qry) (x : Letr) : (qs.any fun q => !holdB q x) = !trueOf qs x := by
  unfold trueOf
  induction qs with
  | nil => rfl
  | cons q t ih => simp only [List.any_cons, List.all_cons, ih]; cases holdB q x <;> simp

set_option maxHeartbeats 2000000 in
set_option maxRecDepth 100000 in
theorem find_bad (name : ByteArray) (valid next : Int) (sv qv : Value) (ps : List LV) (qs : List Qry) (w : World) (h : Lets w sv ps) (hlen : ps.length ≤ 9223372036854775807) (hq : Qrys w qv qs)
    (hE : chk valid next (ps.map (·.1)) ≠ 0 ∨ 16 < qs.length) :
    Calls Tryd.prog 16 #[boxV name valid next sv, qv] w (FindR w valid next ps qs) := by
  have hb0 : Below w.heap.size w (w.alloc (.cells #[.string name, .int .i64 valid, .int .i64 next, sv] 40)) := (Below.refl _ w).alloc (Nat.le_refl _) _
  have HCK := Lib.hid (check_any name valid next sv ps _ (h.below hb0) hlen)
  obtain ⟨qa, qc, rfl⟩ := hq.shape
  obtain ⟨sa, sc, rfl, _⟩ := h.shape
  have HB0 := Lib.hid hb0
  by_cases hc : chk valid next (ps.map (·.1)) = 0
  · have hl : 16 < qs.length := by rcases hE with h | h; exact absurd hc h; exact h
    have HX := Lib.hid (show findE valid next (ps.map (·.1)) qs = 6 by unfold findE; rw [if_neg (by simp [hc]), if_pos hl])
    rw [hc] at HCK
    unfold boxV at HCK ⊢
    clear h hq hb0 hE hc
    go_enter Tryd.func16, Tryd.ntmps16
    go_wp2_with fail
    refine HCK.out.mono ?_
    rintro e w1 ⟨rfl, hb1⟩
    have HB1 := Lib.hid (HB0.out.trans (hb1.mono HB0.out.size))
    clear hb1
    go_wp2
    go_ret2
    exact FindR.bad HX.out (by decide) HB1.out
  · have HX := Lib.hid (show findE valid next (ps.map (·.1)) qs = chk valid next (ps.map (·.1)) by unfold findE; rw [if_pos hc])
    generalize chk valid next (ps.map (·.1)) = ck at *
    have hc' : (ck != 0) = true := by simpa using hc
    have HC := Lib.hid hc
    unfold boxV at HCK ⊢
    clear h hq hb0 hE hc
    go_enter Tryd.func16, Tryd.ntmps16
    go_wp2_with fail
    refine HCK.out.mono ?_
    rintro e w1 ⟨rfl, hb1⟩
    have HB1 := Lib.hid (HB0.out.trans (hb1.mono HB0.out.size))
    clear hb1
    go_wp2
    go_ret2
    exact FindR.bad HX.out HC.out HB1.out
end Go.Proofs.YtpmakbjchepkmaaDoor
