/- Box: the document's Flag: where it is refused; its bits. -/
import Derived.Test.YtpmakbjchepkmaaBW2
namespace Go.Proofs.Ytpmakbjchepkmaa
open Go Go.RowKit

/-- One bit of flags that are laid. -/
def bitL (how : Nat) (was named : Bool) : Bool := if how = 0 then named else if how = 1 then was || named else was && !named
/-- The first j bits. -/
def bitsL (how was named : Nat) : Nat → Nat
  | 0 => 0
  | j + 1 => bitsL how was named j + if bitL how (was / 2 ^ j % 2 == 1) (named / 2 ^ j % 2 == 1) then 2 ^ j else 0
theorem bitsL_lt (how was named : Nat) : ∀ j, bitsL how was named j < 2 ^ j
  | 0 => by simp [bitsL]
  | j + 1 => by
    have := bitsL_lt how was named j
    unfold bitsL
    rw [Nat.pow_succ]
    split <;> omega
def layN (how was named : Nat) : Nat := if how = 0 then named else if how = 1 then was ||| named else was &&& (named ^^^ 255)
theorem bitsL_lay0 : ∀ was, was < 32 → ∀ named, named < 32 → bitsL 0 was named 5 = layN 0 was named := by decide +kernel
theorem bitsL_lay1 : ∀ was, was < 32 → ∀ named, named < 32 → bitsL 1 was named 5 = layN 1 was named := by decide +kernel
theorem bitsL_lay2 : ∀ was, was < 32 → ∀ named, named < 32 → bitsL 2 was named 5 = layN 2 was named := by decide +kernel
theorem layF_layN (how : Nat) (x f : UInt8) : (layF (how : Int) x f).toNat = layN how x.toNat f.toNat := by
  unfold layF layN
  by_cases h0 : how = 0
  · subst h0; rfl
  · by_cases h1 : how = 1
    · subst h1; simp
    · rw [if_neg (by omega), if_neg (by omega), if_neg h0, if_neg h1, UInt8.toNat_and, UInt8.toNat_xor]; rfl
theorem lay_bits {how : Nat} (hh : how = 0 ∨ how = 1 ∨ how = 2) (x f : UInt8) (hx : x.toNat < 32) (hf : f.toNat < 32) : bitsL how x.toNat f.toNat 5 = (layF (how : Int) x f).toNat := by
  rw [layF_layN]
  rcases hh with rfl | rfl | rfl
  · exact bitsL_lay0 _ hx _ hf
  · exact bitsL_lay1 _ hx _ hf
  · exact bitsL_lay2 _ hx _ hf

set_option maxHeartbeats 4000000 in
set_option maxRecDepth 100000 in
theorem rflag_bad (name : ByteArray) (valid next : Int) (sv : Value) (ps : List LV) (u how : Int) (flags : UInt8) (w : World) (h : Lets w sv ps) (hlen : ps.length ≤ 9223372036854775807) (hbad : chk valid next (ps.map (·.1)) ≠ 0 ∨ how < 0 ∨ 2 < how ∨ 32 ≤ flags.toNat) :
    Calls Try.prog 19 #[boxV name valid next sv, .int .i64 u, .int .i64 how, .int .u8 (flags.toNat : Int)] w (TurnR w (flagE valid next (ps.map (·.1)) u how flags) name valid next (flagL (ps.map (·.1)) u how flags)) := by
  have hb0 : Below w.heap.size w ((w.alloc (.cells #[.string name, .int .i64 valid, .int .i64 next, sv] 24)).alloc (.cells #[.string ⟨#[]⟩, .int .i64 0, .int .i64 0, .slice none 0 0] 24)) := ((Below.refl _ w).alloc (Nat.le_refl _) _).alloc (by simp) _
  have h0 := h.below hb0
  have hBx : BoxW ((w.alloc (.cells #[.string name, .int .i64 valid, .int .i64 next, sv] 24)).alloc (.cells #[.string ⟨#[]⟩, .int .i64 0, .int .i64 0, .slice none 0 0] 24)) w.heap.size name valid next sv :=
    (BoxW.new w name valid next sv 24).below ((Below.refl _ _).alloc (Nat.le_refl _) _) (by simp)
  have hBr : BoxW ((w.alloc (.cells #[.string name, .int .i64 valid, .int .i64 next, sv] 24)).alloc (.cells #[.string ⟨#[]⟩, .int .i64 0, .int .i64 0, .slice none 0 0] 24)) (w.heap.size + 1) ⟨#[]⟩ 0 0 (.slice none 0 0) := by
    have := BoxW.new (w.alloc (.cells #[.string name, .int .i64 valid, .int .i64 next, sv] 24)) ⟨#[]⟩ 0 0 (.slice none 0 0) 24
    simpa using this
  have hsz0 : ((w.alloc (.cells #[.string name, .int .i64 valid, .int .i64 next, sv] 24)).alloc (.cells #[.string ⟨#[]⟩, .int .i64 0, .int .i64 0, .slice none 0 0] 24)).heap.size = w.heap.size + 2 := by simp
  have hck := refCheck name valid next sv ps _ h0 hlen
  obtain ⟨sa, sc, rfl, _⟩ := h.shape
  have hu := flags.toNat_lt
  generalize hX : flagE valid next (ps.map (·.1)) u how flags = X
  unfold flagE at hX
  unfold boxV at hck ⊢
  generalize chk valid next (ps.map (·.1)) = ck at *
  have HCK := Lib.hid hck
  have HBX := Lib.hid hBx
  have HBR := Lib.hid hBr
  have HB0 := Lib.hid hb0
  have HSZ := Lib.hid hsz0
  have HXX := Lib.hid hX
  have HBAD := Lib.hid hbad
  clear hck hBx hBr hb0 hsz0 h0 h hX hbad
  go_enter Try.func19, Try.ntmps19
  go_wp2_with fail
  refine HCK.out.mono ?_
  rintro e w1 ⟨rfl, hb1⟩
  have hB1 := HBX.out.below hb1 (by rw [HSZ.out]; omega)
  have hR1 := HBR.out.below hb1 (by rw [HSZ.out]; omega)
  have hbb := HB0.out.trans (hb1.mono HB0.out.size)
  have hz1 : w.heap.size + 2 ≤ w1.heap.size := by have := hb1.size; rw [HSZ.out] at this; exact this
  obtain ⟨W4, hW4, hb4, hf4⟩ := hR1.put4 ⟨#[]⟩ 0 0 (.slice none 0 0)
  have HW4 := Lib.hid hW4
  have HB4 := Lib.hid (hbb.trans (hf4.below hbb.size (fun k e => by omega)))
  obtain ⟨k0, k1, k2, k3, _⟩ := hb4
  obtain ⟨r0, r1, r2, r3, s0, s1, s2, s3⟩ := hR1
  obtain ⟨c0, c1, c2, c3, f0, f1, f2, f3⟩ := hB1
  have hX := HXX.out
  clear hb1 hbb hW4 hf4 HB0 HBX HBR HCK HSZ HXX
  by_cases hc : ck = 0
  · subst hc
    have hbad := HBAD.out.resolve_left (fun h => h rfl)
    rw [if_neg (by simp), if_pos hbad] at hX
    subst hX
    have hcase : (((how != 0) = true ∧ (how != 1) = true) ∧ (how != 2) = true) ∨ (((how != 0) = false) ∧ (31 : Int) < (flags.toNat : Int)) ∨ (((how != 0) = true ∧ (how != 1) = false) ∧ (31 : Int) < (flags.toNat : Int)) ∨ (((how != 0) = true ∧ (how != 1) = true ∧ (how != 2) = false) ∧ (31 : Int) < (flags.toNat : Int)) := by
      simp only [bne_iff_ne, ne_eq, bne_eq_false_iff_eq]; omega
    clear hbad HBAD
    rcases hcase with ⟨⟨h1, h2⟩, h3⟩ | ⟨h1, h4⟩ | ⟨⟨h1, h2⟩, h4⟩ | ⟨⟨h1, h2, h3⟩, h4⟩
    all_goals
      go_wp2
      rw [← HW4.out]
      exact bodyPost_ret (v := .tuple #[boxV0, .int .i64 2]) (by simp [results, Try.results19, go_sem, k0, k1, k2, k3, boxV0, boxV]) rfl (TurnR.bad rfl (by decide) HB4.out)
  · have hc' : (ck != 0) = true := by simpa using hc
    rw [if_pos hc] at hX
    subst hX
    clear HBAD
    go_wp2
    rw [← HW4.out]
    exact bodyPost_ret (v := .tuple #[boxV0, .int .i64 ck]) (by simp [results, Try.results19, go_sem, k0, k1, k2, k3, boxV0, boxV]) rfl (TurnR.bad rfl hc HB4.out)
end Go.Proofs.Ytpmakbjchepkmaa
namespace Go.Proofs.Ytpmakbjchepkmaa
open Go Go.RowKit

theorem bit_keep {how was named j b : Nat} (hb : b = 2 ^ j) (hc : bitL how (was / b % 2 == 1) (named / b % 2 == 1) = false) : Value.int .u8 ((bitsL how was named j : Nat) : Int) = Value.int .u8 ((bitsL how was named (j + 1) : Nat) : Int) := by
  subst hb
  rw [bitsL, hc]
  rfl
theorem bit_add {how was named j b : Nat} (hb : b = 2 ^ j) (hj : j ≤ 4) (hc : bitL how (was / b % 2 == 1) (named / b % 2 == 1) = true) : Value.int .u8 ((((bitsL how was named j : Nat) : Int) + (b : Int)) % 256) = Value.int .u8 ((bitsL how was named (j + 1) : Nat) : Int) := by
  subst hb
  have h1 := bitsL_lt how was named j
  have h2 : 2 ^ j ≤ 2 ^ 4 := Nat.pow_le_pow_right (by omega) hj
  rw [bitsL, hc, if_pos rfl]
  congr 1
  omega
theorem putU_none (u : Int) (ls : List LV) : ∀ l : List LV, (∀ q ∈ l, q.1.uid ≠ u) → putU u ls l = l
  | [], _ => rfl
  | q :: t, h => by
    have ih := putU_none u ls t (fun x hx => h x (List.mem_cons_of_mem _ hx))
    unfold putU at ih ⊢
    rw [List.flatMap_cons, if_neg (h q (List.mem_cons_self ..)), ih]
    rfl
theorem putU_one (u : Int) (y : LV) : ∀ l : List LV, (l.map (·.1)).Pairwise (fun a b => a.uid < b.uid) → (putU u [y] l).map (·.1) = (l.map (·.1)).modify (findU (l.map (·.1)) u) (fun _ => y.1)
  | [], _ => rfl
  | q :: t, h => by
    rw [List.map_cons, List.pairwise_cons] at h
    have ih := putU_one u y t h.2
    have hc : putU u [y] (q :: t) = (if q.1.uid = u then [y] else [q]) ++ putU u [y] t := by simp [putU]
    rw [hc, List.map_append, List.map_cons, findU, List.findIdx_cons]
    by_cases e : q.1.uid = u
    · rw [if_pos e, putU_none u [y] t (fun x hx => by have := h.1 x.1 (List.mem_map.2 ⟨x, hx, rfl⟩); omega), show (q.1.uid == u) = true by simpa using e]
      rfl
    · rw [if_neg e, ih, show (q.1.uid == u) = false by simpa using e]
      rfl
theorem putU_flag {u : Int} {how : Int} {flags : UInt8} {ps : List LV} {k : Nat} {q : LV} {bv : Value} (hr : (ps.map (·.1)).Pairwise (fun a b => a.uid < b.uid)) (hk : ps[k]? = some q) (hu : q.1.uid = u) :
    (putU u [({ q.1 with flags := layF how q.1.flags flags }, bv)] ps).map (·.1) = flagL (ps.map (·.1)) u how flags ∧ findU (ps.map (·.1)) u ≠ (ps.map (·.1)).length := by
  have hm : q.1 ∈ ps.map (·.1) := List.mem_map.2 ⟨q, List.mem_of_getElem? hk, rfl⟩
  have hlt : findU (ps.map (·.1)) u < (ps.map (·.1)).length := List.findIdx_lt_length.2 ⟨q.1, hm, by simpa using hu⟩
  have hx : ((ps.map (fun p : LV => p.1))[findU (ps.map (·.1)) u]'hlt).uid = u := beq_iff_eq.1 (List.findIdx_getElem (xs := ps.map (fun p : LV => p.1)) (p := fun x : Letr => x.uid == u) (w := hlt))
  have hq : (ps.map (fun p : LV => p.1))[findU (ps.map (·.1)) u]'hlt = q.1 := by
    obtain ⟨j, hj, hjq⟩ := List.mem_iff_getElem.1 hm
    rcases Nat.lt_trichotomy (findU (ps.map (·.1)) u) j with h | h | h
    · have := List.pairwise_iff_getElem.1 hr _ _ hlt hj h
      rw [hjq] at this; omega
    · subst h; exact hjq
    · have := List.pairwise_iff_getElem.1 hr _ _ hj hlt h
      rw [hjq] at this; omega
  refine ⟨?_, by omega⟩
  rw [putU_one u _ ps hr, flagL]
  exact modify_at _ _ _ _ (List.getElem?_eq_getElem hlt) (by rw [hq])
end Go.Proofs.Ytpmakbjchepkmaa
