/- Box: the document's Parts, walked. -/
import Derived.Test.YtpmakbjchepkmaaDoorCS2
import Derived.Test.YtpmakbjchepkmaaDoorBG1
namespace Go.Proofs.YtpmakbjchepkmaaDoor
open Go.RowKit

theorem digs_end (s : ByteArray) : ∀ k n i, s.size - i = k → Ascii s i → Ascii s (digs (s.data.toList.drop i) n i).2.1 ∧ i ≤ (digs (s.data.toList.drop i) n i).2.1
  | 0, n, i, hk, ha => by
    rw [drop_no s i (by have := ha.1; omega)]
    exact ⟨ha, Nat.le_refl _⟩
  | k + 1, n, i, hk, ha => by
    have h1 : i < s.size := by omega
    rw [drop_s s i h1]
    unfold digs
    split
    · rename_i hd
      split
      · exact ⟨ha, Nat.le_refl _⟩
      · have := digs_end s k (10 * n + ((s[i]'h1).toNat - 48)) (i + 1) (by omega) (ha.next h1 (by omega))
        exact ⟨this.1, by omega⟩
    · exact ⟨ha, Nat.le_refl _⟩
theorem oneB_end (s : ByteArray) (i : Nat) (ha : Ascii s i) : Ascii s (oneB (s.data.toList.drop i) i).2.1 ∧ i ≤ (oneB (s.data.toList.drop i) i).2.1 := by
  unfold oneB
  split
  · rename_i t he
    by_cases h1 : i < s.size
    · rw [drop_s s i h1] at he
      have := (List.cons.inj he).1
      exact ⟨ha.next h1 (by rw [this]; decide), Nat.le_succ _⟩
    · rw [drop_no s i h1] at he
      cases he
  · exact digs_end s _ 0 i rfl ha
/-- The parts of a set from a place on; else the place and the error. -/
def isAt (s : ByteArray) (i : Nat) (d : UInt8) : Bool := decide (∃ h : i < s.size, s[i]'h = d)
def pairB (s : ByteArray) (i : Nat) : Int × Int × Nat × Bool :=
  if (oneB (s.data.toList.drop i) i).2.2 = true ∧ isAt s (oneB (s.data.toList.drop i) i).2.1 58 = true then
    ((oneB (s.data.toList.drop i) i).1, (oneB (s.data.toList.drop ((oneB (s.data.toList.drop i) i).2.1 + 1)) ((oneB (s.data.toList.drop i) i).2.1 + 1)))
  else ((oneB (s.data.toList.drop i) i).1, (oneB (s.data.toList.drop i) i))
def partsF (s : ByteArray) : Nat → Nat → List (Int × Int) → List (Int × Int) × Nat × Nat
  | 0, _, acc => (acc, 0, 0)
  | f + 1, i, acc =>
    if (pairB s i).2.2.2 = false ∧ (pairB s i).2.2.1 = s.size then ([], s.size, 3)
    else if (pairB s i).2.2.2 = false ∨ ((pairB s i).2.2.1 < s.size ∧ isAt s (pairB s i).2.2.1 44 = false) then ([], (pairB s i).2.2.1, 4)
    else if (pairB s i).2.2.1 = s.size then (acc ++ [((pairB s i).1, (pairB s i).2.1)], 0, 0)
    else partsF s f ((pairB s i).2.2.1 + 1) (acc ++ [((pairB s i).1, (pairB s i).2.1)])
theorem letter_sign {w : World} {a : Option Addr} {n cap : Nat} {s : ByteArray} (hc : Lts w (.slice a n cap) s) (i : Nat) (ha : Ascii s i) (hi : i < s.size) :
    ∃ (g off : Nat) (X : ByteArray), a = some ⟨g, off, none⟩ ∧ w.cell? ⟨g, off + i, none⟩ = some (.string X) ∧ ∀ d : UInt8, d.toNat < 128 → (X.toList == [d]) = isAt s i d := by
  obtain ⟨a', cap', e, h2⟩ := hc
  cases e
  rcases letter_at s i ha hi with h | ⟨hb, X, h, hX⟩
  · obtain ⟨g, off, q1, _, q3⟩ := h2 _ _ h
    refine ⟨g, off, _, q1, q3, fun d _ => ?_⟩
    unfold isAt
    rw [lst_one]
    by_cases hd : s[i]'hi = d
    · rw [decide_eq_true ⟨hi, hd⟩, hd]; simp
    · rw [decide_eq_false (fun ⟨_, h⟩ => hd h), beq_eq_false_iff_ne]
      intro e
      exact hd (List.cons.inj e).1
  · obtain ⟨g, off, q1, _, q3⟩ := h2 _ _ h
    refine ⟨g, off, X, q1, q3, fun d hd => ?_⟩
    rw [ne_sign hX d]
    unfold isAt
    rw [decide_eq_false (fun ⟨_, h⟩ => by rw [h] at hb; omega)]
theorem parts_bad1 {s : ByteArray} {f i : Nat} {acc : List (Int × Int)} {a b : Int} (h : pairB s i = (a, b, s.size, false)) : partsF s (f + 1) i acc = ([], s.size, 3) := by
  unfold partsF; rw [h]; simp
theorem parts_bad2 {s : ByteArray} {f i j : Nat} {acc : List (Int × Int)} {a b : Int} (h : pairB s i = (a, b, j, false)) (hj : j ≠ s.size) : partsF s (f + 1) i acc = ([], j, 4) := by
  unfold partsF; rw [h]; simp [hj]
theorem parts_bad3 {s : ByteArray} {f i j : Nat} {acc : List (Int × Int)} {a b : Int} (h : pairB s i = (a, b, j, true)) (hj : j < s.size) (h4 : isAt s j 44 = false) : partsF s (f + 1) i acc = ([], j, 4) := by
  unfold partsF; rw [h]; simp [hj, h4]
theorem parts_fin {s : ByteArray} {f i : Nat} {acc : List (Int × Int)} {a b : Int} (h : pairB s i = (a, b, s.size, true)) : partsF s (f + 1) i acc = (acc ++ [(a, b)], 0, 0) := by
  unfold partsF; rw [h]; simp
theorem parts_next {s : ByteArray} {f i j : Nat} {acc : List (Int × Int)} {a b : Int} (h : pairB s i = (a, b, j, true)) (hj : j < s.size) (h4 : isAt s j 44 = true) : partsF s (f + 1) i acc = partsF s f (j + 1) (acc ++ [(a, b)]) := by
  rw [partsF, h]; simp [h4]; omega
theorem pair_one {s : ByteArray} {i : Nat} {xa : Int} {xi : Nat} {xo : Bool} (hx : oneB (s.data.toList.drop i) i = (xa, xi, xo)) (h : xo = false ∨ isAt s xi 58 = false) : pairB s i = (xa, xa, xi, xo) := by
  unfold pairB; rw [hx]; rcases h with h | h <;> simp [h]
theorem pair_two {s : ByteArray} {i : Nat} {xa za : Int} {xi zi : Nat} {zo : Bool} (hx : oneB (s.data.toList.drop i) i = (xa, xi, true)) (h : isAt s xi 58 = true) (hz : oneB (s.data.toList.drop (xi + 1)) (xi + 1) = (za, zi, zo)) : pairB s i = (xa, za, zi, zo) := by
  unfold pairB; rw [hx]; simp [h, hz]
theorem isAt_lt {s : ByteArray} {i : Nat} {d : UInt8} (h : isAt s i d = true) : ∃ h : i < s.size, s[i]'h = d := of_decide_eq_true h
theorem isAt_no {s : ByteArray} {d : UInt8} : isAt s s.size d = false := decide_eq_false (fun ⟨h, _⟩ => absurd h (Nat.lt_irrefl _))
def PartsR (R : List (Int × Int) × Nat × Nat) (w : World) (e : Ending) (w' : World) : Prop :=
  ∃ v, e = .returned (.tuple #[v, .int .i64 (R.2.1 : Int), .int .i64 (R.2.2 : Int)]) ∧ Below w.heap.size w w' ∧ (R.2.2 = 0 → OwnsP w.heap.size w' v R.1) ∧ (R.2.2 ≠ 0 → v = .slice none 0 0)
theorem PartsR.bad {R : List (Int × Int) × Nat × Nat} {w w' : World} {i e : Nat} (h : R = ([], i, e)) (h0 : e ≠ 0) (hb : Below w.heap.size w w') : PartsR R w (.returned (.tuple #[.slice none 0 0, .int .i64 (i : Int), .int .i64 (e : Int)])) w' := by
  subst h
  exact ⟨_, rfl, hb, fun h => absurd h h0, fun _ => rfl⟩
theorem PartsR.good {R : List (Int × Int) × Nat × Nat} {w w' : World} {l : List (Int × Int)} {v : Value} (h : R = (l, 0, 0)) (hb : Below w.heap.size w w') (ho : OwnsP w.heap.size w' v l) : PartsR R w (.returned (.tuple #[v, .int .i64 0, .int .i64 0])) w' := by
  subst h
  exact ⟨_, rfl, hb, fun _ => ho, fun h => absurd rfl h⟩

set_option maxRecDepth 100000 in
set_option maxHeartbeats 8000000 in
theorem parts_any (w : World) (v : Value) (s : ByteArray) (hv : Lts w v s) (hs : s.size ≤ 4294967296) :
    Calls Tryd.prog 13 #[v] w (PartsR (partsF s (s.size + 1) 0 []) w) := by
  have HV := Lib.hid hv
  obtain ⟨a, cap, rfl, hc⟩ := hv
  have hlen : (letsV s).length ≤ 4294967296 := by
    have := lets_length s (s.size - 0) 0
    unfold letsV lets
    rw [List.length_map]
    omega
  clear hc
  obtain ⟨R, hR⟩ : ∃ R, partsF s (s.size + 1) 0 [] = R := ⟨_, rfl⟩
  rw [hR]
  have HR := Lib.hid hR
  clear hR
  go_enter Tryd.func13, Tryd.ntmps13
  go_wp2_with fail
  go_loopw [5, 6] (fun ov iv wr => ∃ (oa : Option Addr) (oc i f : Nat) (acc : List (Int × Int)), ov = .slice oa acc.length oc ∧ iv = .int .i64 (i : Int) ∧ i ≤ s.size ∧ acc.length ≤ i ∧ Hid (Ascii s i ∧ s.size < i + f ∧ R = partsF s f i acc ∧ OwnsP w.heap.size wr (.slice oa acc.length oc) acc ∧ Below w.heap.size w wr)) (fun _ iv _ => s.size + 1 - (intOf iv).toNat)
  case atStart =>
    refine ⟨_, _, 0, s.size + 1, [], rfl, rfl, Nat.zero_le _, Nat.le_refl _, Lib.hid ⟨Ascii.zero s, by omega, HR.out.symm, ?_, (Below.refl _ w).alloc (Nat.le_refl _) _⟩⟩
    exact World.ownsRow_lit (size := 2) w #[] 0 (Nat.le_refl _) (by decide) rfl
  case round =>
    clear HR
    obtain ⟨oa, oc, i, f, acc, rfl, rfl, hi, hacc, hH⟩ := hrel
    obtain ⟨hA, hf, hR, hO, hB⟩ := hH.out
    obtain ⟨f, rfl⟩ : ∃ f', f = f' + 1 := ⟨f - 1, by omega⟩
    have hsz := hB.size
    obtain ⟨x, hx⟩ : ∃ x, oneB (s.data.toList.drop i) i = x := ⟨_, rfl⟩
    have hone := one_any wr _ s i (HV.out.below hB) hA (by omega)
    obtain ⟨hE1, hE2⟩ := oneB_end s i hA
    rw [hx] at hone hE1 hE2
    obtain ⟨xa, xi, xo⟩ := x
    simp only at hE1 hE2
    have hxs := hE1.1
    have ONE := Lib.hid hone
    have HX := Lib.hid hx
    have HRR := Lib.hid hR
    have HO := Lib.hid hO
    have HB := Lib.hid hB
    have LV := Lib.hid (HV.out.below hB)
    obtain ⟨hl1, hl2⟩ := letV_len s xi hE1
    clear hx hone hH hA hR hO hB
    cases xo with
    | false =>
      by_cases hz : xi = s.size
      · subst hz
        have hnn : (s.size : Int) = ((letsV s).length : Int) := by
          have : ¬ s.size < (letsV s).length := fun h => by have := hl2.1 h; omega
          omega
        have HP1 := Lib.hid (pair_one HX.out (Or.inl rfl))
        try clear hl2
        try clear hm2
        try clear hE1
        try clear hF1
        go_wp2_with fail
        refine ONE.out.mono ?_
        rintro e wn ⟨rfl, rfl⟩
        unfold resO
        have HE := Lib.hid (parts_bad1 (f := f) (acc := acc) HP1.out)
        go_wp2
        exact bodyPost_ret (v := .tuple #[.slice none 0 0, .int .i64 ((s.size : Nat) : Int), .int .i64 3]) (by simp [results, Tryd.results13, go_sem] <;> omega) rfl (PartsR.bad (HRR.out.trans HE.out) (by decide) HB.out)
      · have hn : ¬ (xi : Int) = ((letsV s).length : Int) := by have := hl2.2 (by omega); omega
        have HP1 := Lib.hid (pair_one HX.out (Or.inl rfl))
        try clear hl2
        try clear hm2
        try clear hE1
        try clear hF1
        go_wp2_with fail
        refine ONE.out.mono ?_
        rintro e wn ⟨rfl, rfl⟩
        unfold resO
        have HE := Lib.hid (parts_bad2 (f := f) (acc := acc) HP1.out hz)
        go_wp2
        exact bodyPost_ret (v := .tuple #[.slice none 0 0, .int .i64 ((xi : Nat) : Int), .int .i64 4]) (by simp [results, Tryd.results13, go_sem] <;> omega) rfl (PartsR.bad (HRR.out.trans HE.out) (by decide) HB.out)
    | true =>
      by_cases hz : xi = s.size
      · subst hz
        have hnn : (s.size : Int) = ((letsV s).length : Int) := by
          have : ¬ s.size < (letsV s).length := fun h => by have := hl2.1 h; omega
          omega
        have HP1 := Lib.hid (pair_one HX.out (Or.inr isAt_no))
        try clear hl2
        try clear hm2
        try clear hE1
        try clear hF1
        go_wp2_with fail
        refine ONE.out.mono ?_
        rintro e wn ⟨rfl, rfl⟩
        unfold resO
        obtain ⟨na, nc, w2, hr, ho, hg, _⟩ := appP wn (xa, xa) HO.out HB.out.size (by omega)
        have hgb : Below w.heap.size w w2 := HB.out.grown hg HB.out.size (fun k hk => (World.ownsRow.lt HO.out k hk).1)
        have hll : (acc ++ [(xa, xa)]).length = acc.length + 1 := by simp
        have HAP := Lib.hid hr
        have HO2 := Lib.hid ho
        have HB2 := Lib.hid hgb
        rw [hll] at HAP HO2
        clear hr ho hg hgb
        have HE := Lib.hid (parts_fin (f := f) (acc := acc) HP1.out)
        go_wp2_with (at_builtin; refine wpList_append_run _ rfl _ _ 22 22 rfl _ _ rfl rfl _ w2 HAP.out ?_)
        exact bodyPost_ret (v := .tuple #[.slice na (acc.length + 1) nc, .int .i64 0, .int .i64 0]) (by simp [results, Tryd.results13, go_sem] <;> omega) rfl (PartsR.good (HRR.out.trans HE.out) HB2.out HO2.out)
      · have hz2 : xi < s.size := by omega
        have hn : (xi : Int) < ((letsV s).length : Int) := by have := hl2.2 hz2; omega
        have hn2 : ¬ (xi : Int) = ((letsV s).length : Int) := by omega
        obtain ⟨g, off, X, rfl, hcX, hX⟩ := letter_sign LV.out xi hE1 hz2
        have hX58 := hX 58 (by decide)
        have hX44 := hX 44 (by decide)
        clear hX
        cases h58 : isAt s xi 58 with
        | false =>
          rw [h58] at hX58
          have HP1 := Lib.hid (pair_one HX.out (Or.inr h58))
          clear h58
          cases h44 : isAt s xi 44 with
          | false =>
            rw [h44] at hX44
            have H44 := Lib.hid h44
            have HE1 := Lib.hid hE1
            clear h44
            try clear hl2
            try clear hm2
            try clear hE1
            try clear hF1
            go_wp2_with fail
            refine ONE.out.mono ?_
            rintro e wn ⟨rfl, rfl⟩
            unfold resO
            have HE := Lib.hid (parts_bad3 (f := f) (acc := acc) HP1.out hz2 H44.out)
            go_wp2
            exact bodyPost_ret (v := .tuple #[.slice none 0 0, .int .i64 ((xi : Nat) : Int), .int .i64 4]) (by simp [results, Tryd.results13, go_sem] <;> omega) rfl (PartsR.bad (HRR.out.trans HE.out) (by decide) HB.out)
          | true =>
            rw [h44] at hX44
            have H44 := Lib.hid h44
            have HE1 := Lib.hid hE1
            clear h44
            try clear hl2
            try clear hm2
            try clear hE1
            try clear hF1
            go_wp2_with fail
            refine ONE.out.mono ?_
            rintro e wn ⟨rfl, rfl⟩
            unfold resO
            obtain ⟨na, nc, w2, hr, ho, hg, _⟩ := appP wn (xa, xa) HO.out HB.out.size (by omega)
            have hgb : Below w.heap.size w w2 := HB.out.grown hg HB.out.size (fun k hk => (World.ownsRow.lt HO.out k hk).1)
            have hll : (acc ++ [(xa, xa)]).length = acc.length + 1 := by simp
            have HAP := Lib.hid hr
            have HO2 := Lib.hid ho
            have HB2 := Lib.hid hgb
            rw [hll] at HAP HO2
            clear hr ho hg hgb
            have HE := Lib.hid (parts_next (f := f) (acc := acc) HP1.out hz2 H44.out)
            have HA2 := Lib.hid (HE1.out.next hz2 (by obtain ⟨_, h⟩ := isAt_lt H44.out; rw [h]; decide))
            go_wp2_with (at_builtin; refine wpList_append_run _ rfl _ _ 22 22 rfl _ _ rfl rfl _ w2 HAP.out ?_)
            go_roundw
            case rel => exact ⟨na, nc, xi + 1, f, acc ++ [(xa, xa)], by rw [hll], by go_num, by omega, by omega, Lib.hid ⟨HA2.out, by omega, HRR.out.trans HE.out, by rw [hll]; exact HO2.out, HB2.out⟩⟩
            case measure => simp [intOf]; omega
        | true =>
          rw [h58] at hX58
          have hA2 : Ascii s (xi + 1) := hE1.next hz2 (by obtain ⟨_, h⟩ := isAt_lt h58; rw [h]; decide)
          obtain ⟨z, hzz⟩ : ∃ z, oneB (s.data.toList.drop (xi + 1)) (xi + 1) = z := ⟨_, rfl⟩
          have htwo := one_any wr _ s (xi + 1) LV.out hA2 (by omega)
          obtain ⟨hF1, hF2⟩ := oneB_end s (xi + 1) hA2
          rw [hzz] at htwo hF1 hF2
          obtain ⟨za, zi, zo⟩ := z
          simp only at hF1 hF2
          have hzs := hF1.1
          have TWO := Lib.hid htwo
          have hp := pair_two HX.out h58 hzz
          have HP := Lib.hid hp
          obtain ⟨hm1, hm2⟩ := letV_len s zi hF1
          clear htwo hzz hp hX44
          cases zo with
          | false =>
            by_cases hy : zi = s.size
            · subst hy
              have hn3 : (s.size : Int) = ((letsV s).length : Int) := by
                have : ¬ s.size < (letsV s).length := fun h => by have := hm2.1 h; omega
                omega
              try clear hl2
              try clear hm2
              try clear hE1
              try clear hF1
              go_wp2_with fail
              refine ONE.out.mono ?_
              rintro e wn ⟨rfl, rfl⟩
              unfold resO
              go_wp2_with fail
              refine TWO.out.mono ?_
              rintro e wn ⟨rfl, rfl⟩
              unfold resO
              have HE := Lib.hid (parts_bad1 (f := f) (acc := acc) HP.out)
              go_wp2
              exact bodyPost_ret (v := .tuple #[.slice none 0 0, .int .i64 ((s.size : Nat) : Int), .int .i64 3]) (by simp [results, Tryd.results13, go_sem] <;> omega) rfl (PartsR.bad (HRR.out.trans HE.out) (by decide) HB.out)
            · have hn3 : ¬ (zi : Int) = ((letsV s).length : Int) := by have := hm2.2 (by omega); omega
              try clear hl2
              try clear hm2
              try clear hE1
              try clear hF1
              go_wp2_with fail
              refine ONE.out.mono ?_
              rintro e wn ⟨rfl, rfl⟩
              unfold resO
              go_wp2_with fail
              refine TWO.out.mono ?_
              rintro e wn ⟨rfl, rfl⟩
              unfold resO
              have HE := Lib.hid (parts_bad2 (f := f) (acc := acc) HP.out hy)
              go_wp2
              exact bodyPost_ret (v := .tuple #[.slice none 0 0, .int .i64 ((zi : Nat) : Int), .int .i64 4]) (by simp [results, Tryd.results13, go_sem] <;> omega) rfl (PartsR.bad (HRR.out.trans HE.out) (by decide) HB.out)
          | true =>
            by_cases hy : zi = s.size
            · subst hy
              have hn3 : (s.size : Int) = ((letsV s).length : Int) := by
                have : ¬ s.size < (letsV s).length := fun h => by have := hm2.1 h; omega
                omega
              try clear hl2
              try clear hm2
              try clear hE1
              try clear hF1
              go_wp2_with fail
              refine ONE.out.mono ?_
              rintro e wn ⟨rfl, rfl⟩
              unfold resO
              go_wp2_with fail
              refine TWO.out.mono ?_
              rintro e wn ⟨rfl, rfl⟩
              unfold resO
              obtain ⟨na, nc, w2, hr, ho, hg, _⟩ := appP wn (xa, za) HO.out HB.out.size (by omega)
              have hgb : Below w.heap.size w w2 := HB.out.grown hg HB.out.size (fun k hk => (World.ownsRow.lt HO.out k hk).1)
              have hll : (acc ++ [(xa, za)]).length = acc.length + 1 := by simp
              have HAP := Lib.hid hr
              have HO2 := Lib.hid ho
              have HB2 := Lib.hid hgb
              rw [hll] at HAP HO2
              clear hr ho hg hgb
              have HE := Lib.hid (parts_fin (f := f) (acc := acc) HP.out)
              go_wp2_with (at_builtin; refine wpList_append_run _ rfl _ _ 22 22 rfl _ _ rfl rfl _ w2 HAP.out ?_)
              exact bodyPost_ret (v := .tuple #[.slice na (acc.length + 1) nc, .int .i64 0, .int .i64 0]) (by simp [results, Tryd.results13, go_sem] <;> omega) rfl (PartsR.good (HRR.out.trans HE.out) HB2.out HO2.out)
            · have hy2 : zi < s.size := by omega
              have hn3 : (zi : Int) < ((letsV s).length : Int) := by have := hm2.2 hy2; omega
              have hn4 : ¬ (zi : Int) = ((letsV s).length : Int) := by omega
              obtain ⟨g', off', Z, ee, hcZ, hZ⟩ := letter_sign LV.out zi hF1 hy2
              cases ee
              have hZ44 := hZ 44 (by decide)
              clear hZ
              cases h44 : isAt s zi 44 with
              | false =>
                rw [h44] at hZ44
                have H44 := Lib.hid h44
                have HF1 := Lib.hid hF1
                clear h44 h58
                try clear hl2
                try clear hm2
                try clear hE1
                try clear hF1
                go_wp2_with fail
                refine ONE.out.mono ?_
                rintro e wn ⟨rfl, rfl⟩
                unfold resO
                go_wp2_with fail
                refine TWO.out.mono ?_
                rintro e wn ⟨rfl, rfl⟩
                unfold resO
                have HE := Lib.hid (parts_bad3 (f := f) (acc := acc) HP.out hy2 H44.out)
                go_wp2
                exact bodyPost_ret (v := .tuple #[.slice none 0 0, .int .i64 ((zi : Nat) : Int), .int .i64 4]) (by simp [results, Tryd.results13, go_sem] <;> omega) rfl (PartsR.bad (HRR.out.trans HE.out) (by decide) HB.out)
              | true =>
                rw [h44] at hZ44
                have H44 := Lib.hid h44
                have HF1 := Lib.hid hF1
                clear h44 h58
                try clear hl2
                try clear hm2
                try clear hE1
                try clear hF1
                go_wp2_with fail
                refine ONE.out.mono ?_
                rintro e wn ⟨rfl, rfl⟩
                unfold resO
                go_wp2_with fail
                refine TWO.out.mono ?_
                rintro e wn ⟨rfl, rfl⟩
                unfold resO
                obtain ⟨na, nc, w2, hr, ho, hg, _⟩ := appP wn (xa, za) HO.out HB.out.size (by omega)
                have hgb : Below w.heap.size w w2 := HB.out.grown hg HB.out.size (fun k hk => (World.ownsRow.lt HO.out k hk).1)
                have hll : (acc ++ [(xa, za)]).length = acc.length + 1 := by simp
                have HAP := Lib.hid hr
                have HO2 := Lib.hid ho
                have HB2 := Lib.hid hgb
                rw [hll] at HAP HO2
                clear hr ho hg hgb
                have HE := Lib.hid (parts_next (f := f) (acc := acc) HP.out hy2 H44.out)
                have HA2 := Lib.hid (HF1.out.next hy2 (by obtain ⟨_, h⟩ := isAt_lt H44.out; rw [h]; decide))
                go_wp2_with (at_builtin; refine wpList_append_run _ rfl _ _ 22 22 rfl _ _ rfl rfl _ w2 HAP.out ?_)
                go_roundw
                case rel => exact ⟨na, nc, zi + 1, f, acc ++ [(xa, za)], by rw [hll], by go_num, by omega, by omega, Lib.hid ⟨HA2.out, by omega, HRR.out.trans HE.out, by rw [hll]; exact HO2.out, HB2.out⟩⟩
                case measure => simp [intOf]; omega
end Go.Proofs.YtpmakbjchepkmaaDoor
