/- Frame: what Scan tells, over lists; slices of slices of bytes that the call owns. -/
import Derived.Test.YtjlhcgimijcghaaF14
import Derived.Test.YtjlhcgimijcghaaMemV
namespace Go.Proofs.Ytjlhcgimijcghaa
open Go Go.RowKit

theorem oneP_ok (l : List UInt8) (k : Nat) (h : (oneP l k).2.2 = 0) : ∃ k' : Nat, (oneP l k).2.1 = (k' : Int) ∧ k + 7 ≤ k' ∧ k' ≤ l.length ∧ (oneP l k).1.length + k + 6 = k' := by
  by_cases h1 : l.length < k
  · unfold oneP at h; rw [if_pos h1] at h; simp at h
  · by_cases h2 : l.length - k < 6
    · unfold oneP at h; rw [if_neg h1, if_pos h2] at h; simp at h
    · by_cases h3 : numF ((l.drop k).take 2) 0 = 0 ∨ 2000 < numF ((l.drop k).take 2) 0
      · unfold oneP at h; rw [if_neg h1, if_neg h2, if_pos h3] at h; simp at h
      · by_cases h4 : l.length - k - 6 < numF ((l.drop k).take 2) 0
        · unfold oneP at h; rw [if_neg h1, if_neg h2, if_neg h3, if_pos h4] at h; simp at h
        · unfold oneP at h ⊢
          rw [if_neg h1, if_neg h2, if_neg h3, if_neg h4] at h ⊢
          split at h
          · rename_i h5
            rw [if_pos h5]
            refine ⟨_, rfl, by omega, by omega, ?_⟩
            simp only [List.length_take, List.length_drop]
            omega
          · simp at h

def scanF : Nat → List UInt8 → Nat → List (List UInt8) × Nat
  | 0, _, k => ([], k)
  | f + 1, l, k => if (oneP l k).2.2 = 0 then ((oneP l k).1 :: (scanF f l (oneP l k).2.1.toNat).1, (scanF f l (oneP l k).2.1.toNat).2) else ([], k)
def scanN (l : List UInt8) : List (List UInt8) × Nat := scanF (l.length + 1) l 0
theorem scanF_ok {f : Nat} {l : List UInt8} {k k' : Nat} (h : (oneP l k).2.2 = 0) (hk : (oneP l k).2.1 = (k' : Int)) : scanF (f + 1) l k = ((oneP l k).1 :: (scanF f l k').1, (scanF f l k').2) := by
  conv => lhs; unfold scanF
  rw [if_pos h, hk, Int.toNat_natCast]
theorem scanF_no {f : Nat} {l : List UInt8} {k : Nat} (h : (oneP l k).2.2 ≠ 0) : scanF (f + 1) l k = ([], k) := by
  unfold scanF; rw [if_neg h]
/-- Two frames, one behind the other. -/
theorem scan_two (p q : List UInt8) (hp : p.length ≠ 0) (hp2 : p.length ≤ 2000) (hq : q.length ≠ 0) (hq2 : q.length ≤ 2000) : scanN (packL p ++ packL q) = ([p, q], (packL p).length + (packL q).length) := by
  have e1 := oneP_pack [] (packL q) p hp hp2
  have e2 := oneP_pack (packL p) [] q hq hq2
  have l1 := packL_len p
  have l2 := packL_len q
  simp only [List.nil_append, List.append_nil, List.length_nil, Nat.zero_add] at e1 e2
  have hl : (packL p ++ packL q).length = (packL p).length + (packL q).length := List.length_append
  unfold scanN
  rw [show (packL p ++ packL q).length + 1 = ((packL p ++ packL q).length - 2) + 1 + 1 + 1 by omega]
  rw [scanF_ok (k' := (packL p).length) (by rw [e1]) (by rw [e1]; simp only; omega), scanF_ok (k' := (packL p).length + (packL q).length) (by rw [e2]) (by rw [e2]; simp only; omega), e1, e2, scanF_no]
  have h3 : (packL p ++ packL q).length - ((packL p).length + (packL q).length) < 6 := by omega
  unfold oneP
  rw [if_neg (by omega), if_pos h3]
  simp

/-- A slice of slices of bytes that the call owns: from block B on. -/
def Held (B : Nat) (w : World) (v : Value) (ls : List (List UInt8)) : Prop :=
  ∃ xs : List Value, xs.length = ls.length ∧ VRow B w v xs ∧ (∀ x ∈ xs, x.oneCell' = true) ∧ ∀ (i : Nat) (x : Value) (l : List UInt8), xs[i]? = some x → ls[i]? = some l → Byt w x l ∧ ∀ g, x.ownBlock = some g → v.ownBlock ≠ some g
theorem Held.nil (B : Nat) (w : World) : Held B w (.slice none 0 0) [] := ⟨[], rfl, VRow.nil _ _, (fun _ h => by cases h), fun _ _ _ h => by simp at h⟩
theorem Held.shape {B : Nat} {w : World} {v : Value} {ls : List (List UInt8)} (h : Held B w v ls) : ∃ a c, v = .slice a ls.length c ∧ ls.length ≤ c := by
  obtain ⟨xs, h1, h2, _⟩ := h
  rw [← h1]
  exact h2.1.shape
theorem Held.lt {B : Nat} {w : World} {v : Value} {ls : List (List UInt8)} (h : Held B w v ls) : ∀ g, v.ownBlock = some g → g < w.heap.size := by
  obtain ⟨xs, _, h2, _⟩ := h
  exact h2.1.lt
theorem Held.below {B : Nat} {w w' : World} {v : Value} {ls : List (List UInt8)} (h : Held B w v ls) (hb : Below w.heap.size w w') : Held B w' v ls := by
  obtain ⟨xs, h1, h2, h3, h4⟩ := h
  exact ⟨xs, h1, h2.below hb, h3, fun i x l hx hl => ⟨(h4 i x l hx hl).1.below hb, (h4 i x l hx hl).2⟩⟩
theorem Held.less {B C : Nat} {w : World} {v : Value} {ls : List (List UInt8)} (h : Held B w v ls) (hC : C ≤ B) : Held C w v ls := by
  obtain ⟨xs, h1, h2, h3, h4⟩ := h
  exact ⟨xs, h1, ⟨h2.1, fun ad n c hv => by obtain ⟨q1, q2⟩ := h2.2 ad n c hv; exact ⟨Nat.le_trans hC q1, q2⟩⟩, h3, h4⟩
theorem infoS : (Try.prog.info? 22).map (fun i => (i.zero, i.size, i.bytes)) = some (some (.slice none 0 0), 1, 24) := by kernel_rfl
theorem vown {B : Nat} {w : World} {v : Value} {l : List Value} (h : VRow B w v l) : ∀ g, v.ownBlock = some g → B ≤ g := by
  intro g hg
  obtain ⟨a, cap, rfl, _⟩ := h.1.shape
  cases a with
  | none => simp [Value.ownBlock] at hg
  | some ad =>
    simp [Value.ownBlock] at hg
    subst hg
    exact (h.2 ad _ _ rfl).1

/-- append(held, x). -/
theorem held_push (w : World) {B : Nat} {v : Value} {ls : List (List UInt8)} (h : Held B w v ls) (hB : B ≤ w.heap.size) (a : Option Addr) (c : Nat) (l : List UInt8) (hx : Byt w (.slice a l.length c) l)
    (hne : ∀ g, (Value.slice a l.length c).ownBlock = some g → v.ownBlock ≠ some g) (hlen : ls.length ≤ 1000000000) :
    ∃ v' w', (∀ ty, (Builtin.append_ #[33, 33] ty #[v, .slice (some ⟨w.heap.size, 0, none⟩) 1 1]).run Try.prog (w.alloc (.cells #[.slice a l.length c] 22)) = .ok v' w') ∧ Held B w' v' (ls ++ [l]) ∧ Below w.heap.size w (w.alloc (.cells #[.slice a l.length c] 22)) ∧ (w.alloc (.cells #[.slice a l.length c] 22)).grownBy w' v.ownBlock := by
  have hb1 : Below w.heap.size w (w.alloc (.cells #[.slice a l.length c] 22)) := (Below.refl _ w).alloc (Nat.le_refl _) _
  obtain ⟨xs, h1, h2, h3, h4⟩ := h
  obtain ⟨i0, hi, hz0, hz1, hz2⟩ := info_parts infoS
  have hcell : (w.alloc (.cells #[.slice a l.length c] 22)).cell? ⟨w.heap.size, 0, none⟩ = some (.slice a l.length c) := by rw [World.cell?_alloc_mark]; rfl
  have hnew : VByt (w.alloc (.cells #[.slice a l.length c] 22)) (.slice (some ⟨w.heap.size, 0, none⟩) 1 1) [.slice a l.length c] :=
    ⟨some ⟨w.heap.size, 0, none⟩, 1, rfl, Nat.le_refl _, (fun h => by cases h), fun ad had => by
      injection had with had
      subst had
      refine ⟨w.heap.size, 0, rfl, by simp, fun j hj => ?_⟩
      obtain rfl : j = 0 := by simpa using hj
      exact hcell⟩
  obtain ⟨v', w', r, R, g, hor⟩ := run_append_vrow (P := Try.prog) (w.alloc (.cells #[.slice a l.length c] 22)) 33 22 i0 Try.underlying33 hi (.slice none 0 0) rfl 24 hz0 hz1 hz2 (h2.below hb1) hnew (fun u hu => by simp at hu; subst hu; rfl) (Nat.le_trans hB hb1.size) h3 (by simp only [List.length_cons, List.length_nil]; omega) (by simp only [List.length_cons, List.length_nil]; omega)
  have hsz : (w.alloc (.cells #[.slice a l.length c] 22)).heap.size = w.heap.size + 1 := by simp
  have hap : ∀ g, g < w.heap.size → v.ownBlock ≠ some g → v'.ownBlock ≠ some g := fun gx hgx hn e => by
    rcases hor with o | o
    · exact hn (o ▸ e)
    · have := o gx e; omega
  refine ⟨v', w', r, ⟨xs ++ [.slice a l.length c], by simp [h1], R, fun x hx => ?_, fun i x l' hxi hli => ?_⟩, hb1, g⟩
  · rcases List.mem_append.1 hx with hx | hx
    · exact h3 x hx
    · simp at hx; subst hx; rfl
  · by_cases hil : i < xs.length
    · rw [List.getElem?_append_left hil] at hxi
      rw [List.getElem?_append_left (by omega)] at hli
      obtain ⟨q1, q2⟩ := h4 i x l' hxi hli
      have hxl := q1.lt
      exact ⟨(q1.below hb1).kept g.size fun gx hgx => g.block gx (by have := hxl gx hgx; omega) (fun e => q2 gx hgx e.symm), fun gx hgx => hap gx (hxl gx hgx) (q2 gx hgx)⟩
    · rw [List.getElem?_append_right (by omega)] at hxi hli
      obtain ⟨hi0, _⟩ := List.getElem?_eq_some_iff.1 hxi
      have hi1 : i - xs.length = 0 := by simp only [List.length_cons, List.length_nil] at hi0; omega
      rw [hi1] at hxi
      rw [show i - ls.length = 0 by omega] at hli
      simp at hxi hli
      subst hxi hli
      have hxl := hx.lt
      exact ⟨(hx.below hb1).kept g.size fun gx hgx => g.block gx (by have := hxl gx hgx; omega) (fun e => hne gx hgx e.symm), fun gx hgx => hap gx (hxl gx hgx) (hne gx hgx)⟩
theorem Held.own {B : Nat} {w : World} {v : Value} {ls : List (List UInt8)} (h : Held B w v ls) : ∀ g, v.ownBlock = some g → B ≤ g := by
  obtain ⟨xs, _, h2, _⟩ := h
  exact vown h2
end Go.Proofs.Ytjlhcgimijcghaa
