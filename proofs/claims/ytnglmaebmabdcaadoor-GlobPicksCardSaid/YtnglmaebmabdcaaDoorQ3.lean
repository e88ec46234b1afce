/- Glob: the code's match, with its two ways back, walked. -/
import Derived.Test.YtnglmaebmabdcaaDoorQ1
import Derived.Test.YtnglmaebmabdcaaDoorQ2
import Derived.Shelf.Strings.SlTrimAscii
namespace Go.Proofs.YtnglmaebmabdcaaDoor
open Go Go.RowKit

/-- A byte of a text. -/
def byt (s : ByteArray) (i : Nat) : Nat := (s.get! i).toNat
theorem byt_at (s : ByteArray) (i : Nat) (h : i < s.size) : byt s i = (s[i]'h).toNat := by unfold byt; rw [get_lt s i h]
/-- Where a match may come back to, in its block. -/
def Bk (W : World) (b : Nat) (t : Bool) (p n : Nat) : Prop := W.heap[b]? = some (.cells #[.bool t, .int .i64 (p : Int), .int .i64 (n : Int)] 45 (0, 0))
theorem Bk.c0 {W : World} {b : Nat} {t : Bool} {p n : Nat} (h : Bk W b t p n) : W.cell? ⟨b, 0, none⟩ = some (.bool t) := by unfold Bk at h; simp [World.cell?, h]
theorem Bk.c1 {W : World} {b : Nat} {t : Bool} {p n : Nat} (h : Bk W b t p n) : W.cell? ⟨b, 1, none⟩ = some (.int .i64 (p : Int)) := by unfold Bk at h; simp [World.cell?, h]
theorem Bk.c2 {W : World} {b : Nat} {t : Bool} {p n : Nat} (h : Bk W b t p n) : W.cell? ⟨b, 2, none⟩ = some (.int .i64 (n : Int)) := by unfold Bk at h; simp [World.cell?, h]
theorem Bk.f {W : World} {b : Nat} {t : Bool} {p n : Nat} (h : Bk W b t p n) (j : Nat) : W.frozen? ⟨b, j, none⟩ = false := by unfold Bk at h; simp [World.frozen?, h]
theorem Bk.row {W : World} {b : Nat} {t : Bool} {p n : Nat} (h : Bk W b t p n) (t' : Bool) (p' n' : Nat) : Bk (W.setRow b #[.bool t', .int .i64 (p' : Int), .int .i64 (n' : Int)]) b t' p' n' := setRow_heap W b _ _ _ _ h
theorem Bk.other {W : World} {b g : Nat} {t : Bool} {p n : Nat} (h : Bk W b t p n) (hne : b ≠ g) (cs : Array Value) : Bk (W.setRow g cs) b t p n := (setRow_other W g b cs hne).trans h
theorem Bk.setO {W : World} {b g : Nat} {t : Bool} {p n : Nat} (h : Bk W b t p n) (hne : b ≠ g) (j : Nat) (v : Value) : Bk (W.setCell ⟨g, j, none⟩ v) b t p n := (heap_setCell_other W ⟨g, j, none⟩ b v hne).trans h
theorem Bk.set2 {W : World} {b : Nat} {t : Bool} {p n : Nat} (h : Bk W b t p n) (n' : Nat) : Bk (W.setCell ⟨b, 2, none⟩ (.int .i64 (n' : Int))) b t p n' := by
  unfold Bk at *
  rw [heap_setCell_same W b 2 _ _ (.int .i64 (n' : Int)) h]
  rfl
theorem one_back (t : Bool) (p n : Int) : (#[.bool t, .int .i64 p, .int .i64 n] : Array Value).all (·.oneCell') = true := by simp [Value.oneCell']
theorem size_back (t : Bool) (p n : Int) : (Tryd.prog.info? 45).map (·.size) = some (#[.bool t, .int .i64 p, .int .i64 n] : Array Value).size := by kernel_rfl
theorem below_row {B : Nat} {w W : World} (h : Below B w W) {g : Nat} (hg : B ≤ g) (cs : Array Value) : Below B w (W.setRow g cs) := h.trans ⟨rfl, rfl, rfl, by simp, fun k hk => setRow_other W g k cs (by omega)⟩

theorem step_k {P : Program} {K : Act → World → Prop} {C : Code} {Q : Exit → Act → World → Prop} {a : Act} {w : World} (h : ∀ a w, C.wp P Q a w → K a w) (k : C.wp P Q a w) : K a w := h a w k
theorem Bk.clear {W : World} {b : Nat} {t : Bool} {p n : Nat} (h : Bk W b t p n) : Bk (((W.setCell ⟨b, 0, none⟩ (.bool false)).setCell ⟨b, 1, none⟩ (.int .i64 0)).setCell ⟨b, 2, none⟩ (.int .i64 0)) b false 0 0 := by
  unfold Bk at *
  rw [heap_setCell_same _ b 2 _ _ _ (heap_setCell_same _ b 1 _ _ _ (heap_setCell_same W b 0 _ _ _ h))]
  rfl
/-- How far a way back has come. -/
def bkV (nl : Nat) (t : Bool) (p n : Nat) : Nat := if t = true then p * (nl + 2) + n + 1 else 0
def bkW (nl : Nat) (W : World) (b : Nat) : Nat :=
  match W.heap[b]? with
  | some (.cells #[.bool t, .int _ p, .int _ n] _ _) => bkV nl t p.toNat n.toNat
  | _ => 0
theorem Bk.v {W : World} {b : Nat} {t : Bool} {p n : Nat} (h : Bk W b t p n) (nl : Nat) : bkW nl W b = bkV nl t p n := by
  unfold bkW
  rw [h]
  rfl
def mx (pl nl : Nat) : Nat := (pl + 1) * (nl + 2)
def mu (M a b : Nat) : Nat := (M - a) * (M + 1) + (M - b)
theorem bkV_le {pl nl : Nat} {t : Bool} {p n : Nat} (hp : p ≤ pl) (hn : n ≤ nl) : bkV nl t p n ≤ mx pl nl := by
  unfold bkV mx
  split
  · have := Nat.mul_le_mul_right (nl + 2) hp
    rw [Nat.add_mul]; omega
  · exact Nat.zero_le _
/-- One behind the other. -/
def lexle (a b a' b' : Nat) : Prop := a < a' ∨ (a = a' ∧ b ≤ b')
def lexlt (a b a' b' : Nat) : Prop := a < a' ∨ (a = a' ∧ b < b')
theorem mu_lt {M a b a' b' : Nat} (h : lexlt a b a' b') (ha : a' ≤ M) (hb : b' ≤ M) : mu M a' b' < mu M a b := by
  unfold mu
  rcases h with h | ⟨rfl, h⟩
  · have h1 : M - a' + 1 ≤ M - a := by omega
    have h2 := Nat.mul_le_mul_right (M + 1) h1
    rw [Nat.add_mul] at h2
    omega
  · omega
theorem lexle.lt {a b a' b' a2 b2 : Nat} (h : lexle a b a' b') (h2 : lexlt a' b' a2 b2) : lexlt a b a2 b2 := by
  unfold lexle lexlt at *; omega
theorem lexle.le {a b a' b' a2 b2 : Nat} (h : lexle a b a' b') (h2 : lexle a' b' a2 b2) : lexle a b a2 b2 := by
  unfold lexle at *; omega
theorem bkV_p {nl p n p' n' : Nat} (t : Bool) (hp : t = true → p < p') (hn : n ≤ nl) : bkV nl t p n < bkV nl true p' n' := by
  unfold bkV
  rw [if_pos rfl]
  split
  · rename_i h
    have := Nat.mul_le_mul_right (nl + 2) (show p + 1 ≤ p' from hp h)
    rw [Nat.add_mul] at this
    omega
  · omega
theorem bkV_n {nl p n n' : Nat} (hn : n < n') : bkV nl true p n < bkV nl true p n' := by
  unfold bkV
  rw [if_pos rfl, if_pos rfl]
  omega

/-- Where the loop stands. -/
def MT (P N : ByteArray) (w : World) (vs vp : Nat) (C : Nat → Nat → Prop) (x7 x8 : Value) (W : World) : Prop :=
  ∃ (sT : Bool) (sp sn : Nat) (pT : Bool) (pp pn p n : Nat), x7 = .int .i64 (p : Int) ∧ x8 = .int .i64 (n : Int) ∧
    Hid (Gl.Inv P.size N.size (byt P) (byt N) sT sp sn pT pp pn p n) ∧ Bk W w.heap.size sT sp sn ∧ Bk W (w.heap.size + 1) pT pp pn ∧ Below w.heap.size w W ∧
    lexle vs vp (bkV N.size sT sp sn) (bkV N.size pT pp pn) ∧ C p n ∧ p ≤ P.size ∧ n ≤ N.size ∧ sp ≤ P.size ∧ pp ≤ P.size ∧ sn ≤ N.size ∧ pn ≤ N.size

theorem dropW_nil {p : UInt8 → Bool} : ∀ {l : List UInt8}, l.dropWhile p = [] ↔ ∀ b, b ∈ l → p b = true := by
  intro l
  induction l with
  | nil => simp
  | cons a l ih =>
    rw [List.dropWhile_cons]
    cases h : p a with
    | true => simp [ih, h]
    | false => simp [h]
theorem byt_list (s : ByteArray) (i : Nat) (h : i < s.size) : s.data.toList[i]? = some (UInt8.ofNat (byt s i)) := by
  rw [get_at_list s i h, byt_at s i h]
  simp
theorem trim_none (l cs : List UInt8) : (Lib.trimS l cs).isEmpty = true ↔ ∀ b, b ∈ l → cs.contains b = true := by
  unfold Lib.trimS Lib.trimLeftS Lib.trimRightS
  rw [List.isEmpty_iff, dropW_nil]
  constructor
  · intro h b hb
    have hb' : b ∈ l.reverse := List.mem_reverse.2 hb
    rw [← List.takeWhile_append_dropWhile (p := (cs.contains ·)) (l := l.reverse), List.mem_append] at hb'
    rcases hb' with h1 | h1
    · exact List.all_eq_true.1 List.all_takeWhile b h1
    · exact h b (List.mem_reverse.2 h1)
  · intro h b hb
    exact h b (List.mem_reverse.1 ((List.dropWhile_sublist _).subset (List.mem_reverse.1 hb)))
theorem trim_signs (P : ByteArray) (p : Nat) (hp : p ≤ P.size) : (Lib.trimS (P.data.toList.drop p) [42, 37]).isEmpty = true ↔ ∀ i, p ≤ i → i < P.size → (byt P i = 42 ∨ byt P i = 37) := by
  rw [trim_none]
  have hu : ∀ n : Nat, n < 256 → (([42, 37] : List UInt8).contains (UInt8.ofNat n) = true ↔ (n = 42 ∨ n = 37)) := by
    intro n hn
    have h1 : UInt8.ofNat n = 42 ↔ n = 42 := ⟨fun h => by have := congrArg UInt8.toNat h; simpa [Nat.mod_eq_of_lt hn] using this, fun h => by rw [h]; rfl⟩
    have h2 : UInt8.ofNat n = 37 ↔ n = 37 := ⟨fun h => by have := congrArg UInt8.toNat h; simpa [Nat.mod_eq_of_lt hn] using this, fun h => by rw [h]; rfl⟩
    simp [h1, h2]
  have hlt : ∀ i, byt P i < 256 := fun i => (P.get! i).toNat_lt
  constructor
  · intro h i h1 h2
    refine (hu _ (hlt i)).1 (h _ ?_)
    refine List.mem_of_getElem? (i := i - p) ?_
    rw [List.getElem?_drop, show p + (i - p) = i by omega]
    exact byt_list P i h2
  · intro h b hb
    obtain ⟨j, hj⟩ := List.mem_iff_getElem?.1 hb
    rw [List.getElem?_drop] at hj
    have hlt2 : p + j < P.size := by
      have := (List.getElem?_eq_some_iff.1 hj).1
      rw [← Lib.size_eq] at this; exact this
    rw [byt_list P _ hlt2] at hj
    rw [← Option.some.inj hj]
    exact (hu _ (hlt _)).2 (h _ (by omega) hlt2)

theorem MT.next {P N : ByteArray} {w wr W : World} {vs vp : Nat} (hvs : bkW N.size wr w.heap.size = vs) (hvp : bkW N.size wr (w.heap.size + 1) = vp) {sT : Bool} {sp sn : Nat} {pT : Bool} {pp pn p n : Nat} {x7 x8 : Value}
    (h7 : x7 = .int .i64 (p : Int)) (h8 : x8 = .int .i64 (n : Int)) (hI : Gl.Inv P.size N.size (byt P) (byt N) sT sp sn pT pp pn p n) (hs : Bk W w.heap.size sT sp sn) (hp : Bk W (w.heap.size + 1) pT pp pn) (hb : Below w.heap.size w W)
    (hlt : lexlt vs vp (bkV N.size sT sp sn) (bkV N.size pT pp pn)) (h3 : sp ≤ P.size) (h4 : pp ≤ P.size) (h5 : sn ≤ N.size) (h6 : pn ≤ N.size) :
    MT P N w 0 0 (fun _ _ => True) x7 x8 W ∧ mu (mx P.size N.size) (bkW N.size W w.heap.size) (bkW N.size W (w.heap.size + 1)) < mu (mx P.size N.size) (bkW N.size wr w.heap.size) (bkW N.size wr (w.heap.size + 1)) := by
  have h2 := hI.hn
  refine ⟨⟨sT, sp, sn, pT, pp, pn, p, n, h7, h8, Lib.hid hI, hs, hp, hb, ?_, trivial, hI.hp, h2, h3, h4, h5, h6⟩, ?_⟩
  · unfold lexle; omega
  · rw [hvs, hvp, hs.v, hp.v]
    exact mu_lt hlt (bkV_le h3 h5) (bkV_le h4 h6)
theorem Bk.drewN {W : World} {b : Nat} {t : Bool} {p n : Nat} (h : Bk W b t p n) (k : Nat) : Bk (W.drewN k) b t p n := h
theorem below_drewN {B : Nat} {w W : World} (h : Below B w W) (k : Nat) : Below B w (W.drewN k) := h.trans ⟨rfl, rfl, rfl, Nat.le_refl _, fun _ _ => rfl⟩

theorem idx_first {l : List UInt8} {c : UInt8} : ∀ {j : Nat}, l[j]? = some c → ∃ k : Nat, k ≤ j ∧ Lib.indexByte l c = (k : Int) ∧ ∀ i, i < k → l[i]? ≠ some c := by
  induction l with
  | nil => intro j h; simp at h
  | cons b l ih =>
    intro j h
    by_cases e : b = c
    · subst e
      exact ⟨0, Nat.zero_le _, by simp [Lib.indexByte], fun i hi => absurd hi (Nat.not_lt_zero _)⟩
    · cases j with
      | zero => simp at h; exact absurd h e
      | succ j =>
        obtain ⟨k, h1, h2, h3⟩ := ih (j := j) (by simpa using h)
        refine ⟨k + 1, by omega, ?_, fun i hi => ?_⟩
        · unfold Lib.indexByte
          rw [if_neg (by simpa using e), if_neg (by rw [h2, beq_iff_eq]; omega), h2]
          omega
        · cases i with
          | zero => simpa using e
          | succ i => simpa using h3 i (by omega)
/-- Where the next / stands. -/
theorem idx_sign (N : ByteArray) (sn pn : Nat) (h1 : sn ≤ pn) (h2 : pn < N.size) (hc : byt N pn = 47) :
    ∃ k : Nat, sn + k ≤ pn ∧ Lib.indexByte (N.extract sn N.size).data.toList 47 = (k : Int) ∧ ∀ i, sn ≤ i → i < sn + k → byt N i ≠ 47 := by
  have hl : (N.extract sn N.size).data.toList[pn - sn]? = some 47 := by
    rw [Lib.extract_to_end, List.getElem?_drop, show sn + (pn - sn) = pn by omega, byt_list N pn h2, hc]
    rfl
  obtain ⟨k, h3, h4, h5⟩ := idx_first hl
  refine ⟨k, by omega, h4, fun i h6 h7 h8 => h5 (i - sn) (by omega) ?_⟩
  rw [Lib.extract_to_end, List.getElem?_drop, show sn + (i - sn) = i by omega, byt_list N i (by omega), h8]
  rfl

set_option maxHeartbeats 4000000 in
set_option maxRecDepth 100000 in
theorem match_any (P N : ByteArray) (w : World) (hP : P.size ≤ 1000) (hN : N.size ≤ 1000) :
    Calls Tryd.prog 27 #[.string P, .string N] w fun e w' => (∃ b, e = .returned (.bool b) ∧ (b = true ↔ Gl.D P.size N.size (byt P) (byt N) 0 0)) ∧ Below w.heap.size w w' := by
  go_enter Tryd.func27, Tryd.ntmps27
  go_wp2
  go_loopw [7, 8] (fun x7 x8 wr => MT P N w 0 0 (fun _ _ => True) x7 x8 wr) (fun _ _ wr => mu (mx P.size N.size) (bkW N.size wr w.heap.size) (bkW N.size wr (w.heap.size + 1)))
  case atStart =>
    have hb1 : Below w.heap.size w (w.alloc (.cells #[.bool false, .int .i64 0, .int .i64 0] 45)) := (Below.refl _ w).alloc (Nat.le_refl _) _
    have hs0 : Bk (w.alloc (.cells #[.bool false, .int .i64 0, .int .i64 0] 45)) w.heap.size false 0 0 := heap_alloc_last w _
    refine ⟨false, 0, 0, false, 0, 0, 0, 0, rfl, rfl, Lib.hid (Gl.Inv.zero 0 0 0 0), ?_, ?_, hb1.alloc (by simp) _, .inr ⟨rfl, Nat.zero_le _⟩, trivial, by omega, by omega, by omega, by omega, by omega, by omega⟩
    · exact (heap_alloc_old _ _ (by simp)).trans hs0
    · have := heap_alloc_last (w.alloc (.cells #[.bool false, .int .i64 0, .int .i64 0] 45)) (.cells #[.bool false, .int .i64 0, .int .i64 0] 45)
      simpa [Bk] using this
  case round =>
    obtain ⟨sT, sp, sn, pT, pp, pn, p, n, rfl, rfl, hI, hs, hp, hb, _, _, h1, h2, h3, h4, h5, h6⟩ := hrel
    have hvs := hs.v N.size
    have hvp := hp.v N.size
    generalize bkV N.size sT sp sn = vs at hvs
    generalize bkV N.size pT pp pn = vp at hvp
    refine wp_block ?_
    apply wp_scope_straight
    refine wp_seq_k (fun Ka hKa => ?_)
    refine wp_label ?_
    refine hKa _ _ ?_
    clear hKa Ka
    refine wp_seq_k (fun Kb hKb => ?_)
    go_cut [7, 8] from 9 to 43 (fun x7 x8 wx => MT P N w vs vp (fun p n => n = N.size ∨ Gl.Stuck P.size N.size (byt P) (byt N) p n) x7 x8 wx)
    case first =>
      refine wp_block ?_
      go_loopw [7, 8] (fun x7 x8 wx => MT P N w vs vp (fun _ _ => True) x7 x8 wx) (fun x7 _ _ => P.size - (intOf x7).toNat)
      case atStart => exact ⟨sT, sp, sn, pT, pp, pn, p, n, rfl, rfl, hI, hs, hp, hb, .inr ⟨by rw [← hvs, hs.v], by rw [← hvp, hp.v]; exact Nat.le_refl _⟩, trivial, h1, h2, h3, h4, h5, h6⟩
      case round =>
        clear hI hs hp hb hvs hvp h1 h2 h3 h4 h5 h6 hKb
        obtain ⟨sT, sp, sn, pT, pp, pn, p, n, rfl, rfl, hI, hs, hp, hb, hle, _, h1, h2, h3, h4, h5, h6⟩ := hrel
        by_cases hpl : p < P.size
        · by_cases hnl : n < N.size
          · have hpc := byt_at P p hpl
            have hnc := byt_at N n hnl
            have hpli : (p : Int) < (P.size : Int) := by omega
            have hnli : (n : Int) < (N.size : Int) := by omega
            by_cases c1 : byt P p = 42
            · have HR := Lib.hid (show MT P N w vs vp (fun _ _ => True) (.int .i64 ((p + 1 : Nat) : Int)) (.int .i64 (n : Int)) ((wr.setRow w.heap.size #[.bool true, .int .i64 ((p + 1 : Nat) : Int), .int .i64 (n : Int)]).setRow (w.heap.size + 1) #[.bool false, .int .i64 ((0 : Nat) : Int), .int .i64 ((0 : Nat) : Int)]) from
                ⟨true, p + 1, n, false, 0, 0, p + 1, n, rfl, rfl, Lib.hid (hI.out.meetStar hpl c1 0 0), (hs.row true (p + 1) n).other (by omega) _, (hp.other (by omega) _).row false 0 0, below_row (below_row hb (Nat.le_refl _) _) (by omega) _, hle.le (.inl (bkV_p sT (fun e => by have := (hI.out.star e).1; omega) (by omega))), trivial, by omega, by omega, by omega, by omega, by omega, by omega⟩)
              have q1 : (((P[p]'hpl).toNat : Int) == 42) = true := by rw [← hpc, c1]; rfl
              have r1 := Lib.hid hs
              have r2 := Lib.hid (hp.other (g := w.heap.size) (by omega) #[.bool true, .int .i64 ((p : Int) + 1), .int .i64 (n : Int)])
              clear hI hs hp hb hle
              go_wp2_with (first | (refine wpList_store_row rfl 45 _ _ rfl w.heap.size _ rfl rfl 45 _ r1.out (size_back _ _ _) rfl (one_back _ _ _) ?_) | (refine wpList_store_row rfl 45 _ _ rfl (w.heap.size + 1) _ rfl rfl 45 _ r2.out (size_back _ _ _) rfl (one_back _ _ _) ?_))
              refine ⟨HR.out, ?_⟩
              simp [intOf]; omega
            · by_cases c2 : byt P p = 37
              · have HR := Lib.hid (show MT P N w vs vp (fun _ _ => True) (.int .i64 ((p + 1 : Nat) : Int)) (.int .i64 (n : Int)) (wr.setRow (w.heap.size + 1) #[.bool true, .int .i64 ((p + 1 : Nat) : Int), .int .i64 (n : Int)]) from
                  ⟨sT, sp, sn, true, p + 1, n, p + 1, n, rfl, rfl, Lib.hid (hI.out.meetPart hpl c2), hs.other (by omega) _, hp.row true (p + 1) n, below_row hb (by omega) _, hle.le (.inr ⟨rfl, Nat.le_of_lt (bkV_p pT (fun e => by have := (hI.out.part e).1; omega) (by omega))⟩), trivial, by omega, by omega, by omega, by omega, by omega, by omega⟩)
                have q1 : (((P[p]'hpl).toNat : Int) == 42) = false := by rw [← hpc]; simpa using (by omega : ¬ (byt P p : Int) = 42)
                have q2 : (((P[p]'hpl).toNat : Int) == 37) = true := by rw [← hpc, c2]; rfl
                have r2 := Lib.hid hp
                clear hI hs hp hb hle
                go_wp2_with (first | (refine wpList_store_row rfl 45 _ _ rfl (w.heap.size + 1) _ rfl rfl 45 _ r2.out (size_back _ _ _) rfl (one_back _ _ _) ?_))
                refine ⟨HR.out, ?_⟩
                simp [intOf]; omega
              · have q1 : (((P[p]'hpl).toNat : Int) == 42) = false := by rw [← hpc]; simpa using (by omega : ¬ (byt P p : Int) = 42)
                have q2 : (((P[p]'hpl).toNat : Int) == 37) = false := by rw [← hpc]; simpa using (by omega : ¬ (byt P p : Int) = 37)
                by_cases c3 : byt P p = byt N n
                · have HR := Lib.hid (show MT P N w vs vp (fun _ _ => True) (.int .i64 ((p + 1 : Nat) : Int)) (.int .i64 ((n + 1 : Nat) : Int)) wr from
                    ⟨sT, sp, sn, pT, pp, pn, p + 1, n + 1, rfl, rfl, Lib.hid (hI.out.meetLit hpl hnl c1 c2 c3), hs, hp, hb, hle, trivial, by omega, by omega, by omega, by omega, by omega, by omega⟩)
                  have q3 : (((P[p]'hpl).toNat : Int) == ((N[n]'hnl).toNat : Int)) = true := by rw [← hpc, ← hnc, c3]; simp
                  clear hI hs hp hb hle
                  go_wp2
                  refine ⟨HR.out, ?_⟩
                  simp [intOf]; omega
                · have HR := Lib.hid (show MT P N w vs vp (fun p n => n = N.size ∨ Gl.Stuck P.size N.size (byt P) (byt N) p n) (.int .i64 (p : Int)) (.int .i64 (n : Int)) wr from
                    ⟨sT, sp, sn, pT, pp, pn, p, n, rfl, rfl, hI, hs, hp, hb, hle, .inr ⟨hnl, fun _ => ⟨c1, c2, c3⟩⟩, h1, h2, h3, h4, h5, h6⟩)
                  have q3 : (((P[p]'hpl).toNat : Int) == ((N[n]'hnl).toNat : Int)) = false := by rw [← hpc, ← hnc]; simpa using (by omega : ¬ (byt P p : Int) = (byt N n : Int))
                  clear hI hs hp hb hle
                  go_wp2
                  go_meet
                  exact HR.out
          · have HR := Lib.hid (show MT P N w vs vp (fun p n => n = N.size ∨ Gl.Stuck P.size N.size (byt P) (byt N) p n) (.int .i64 (p : Int)) (.int .i64 (n : Int)) wr from
              ⟨sT, sp, sn, pT, pp, pn, p, n, rfl, rfl, hI, hs, hp, hb, hle, .inl (by omega), h1, h2, h3, h4, h5, h6⟩)
            clear hI hs hp hb hle
            go_wp2
            go_meet
            exact HR.out
        · have HR := Lib.hid (show MT P N w vs vp (fun p n => n = N.size ∨ Gl.Stuck P.size N.size (byt P) (byt N) p n) (.int .i64 (p : Int)) (.int .i64 (n : Int)) wr from
            ⟨sT, sp, sn, pT, pp, pn, p, n, rfl, rfl, hI, hs, hp, hb, hle, (by by_cases e : n = N.size; exact .inl e; exact .inr ⟨by omega, fun h => absurd h hpl⟩), h1, h2, h3, h4, h5, h6⟩)
          clear hI hs hp hb hle
          go_wp2
          go_meet
          exact HR.out
    case rest =>
      refine hKb _ _ ?_
      clear hKb Kb hI hs hp hb h1 h2 h3 h4 h5 h6
      obtain ⟨sT, sp, sn, pT, pp, pn, p, n, rfl, rfl, hI, hs, hp, hb, hle, hC, h1, h2, h3, h4, h5, h6⟩ := hcut
      obtain ⟨wA, rfl⟩ : ∃ wA, wA = wc := ⟨_, rfl⟩
      have s0 := hs.c0; have s1 := hs.c1; have s2 := hs.c2; have p0 := hp.c0; have p1 := hp.c1; have p2 := hp.c2
      have fs2 := hs.f 2; have fp0 := hp.f 0; have fp1 := hp.f 1; have fp2 := hp.f 2
      by_cases hnl : n = N.size
      · have HD := Lib.hid (hI.out.done hnl)
        have HB := Lib.hid hb
        have hnn : ((n : Int) == (N.size : Int)) = true := by rw [hnl]; simp
        have hpi : (p : Int) ≤ (P.size : Int) := by omega
        have htr := Any.strings_Trim_laid Tryd.lays160 (by kernel_rfl) (P.extract p P.size) ⟨#[42, 37]⟩ wA (by rw [Lib.size_eq, Lib.extract_to_end, List.length_drop, ← Lib.size_eq]; omega) (by decide) (ascii_of_all (by decide))
        rw [Lib.extract_to_end] at htr
        clear hI hs hp hb hle hC hnl
        go_wp2_with (first | (go_at_call 39; refine htr.mono ?_; rintro e w1 ⟨rfl, hb1⟩))
        rw [Exit.noGoto_ret]
        go_wp2
        go_ret
        exact ⟨⟨_, rfl, (trim_signs P p h1).trans HD.out.symm⟩, HB.out.trans (hb1.mono HB.out.size)⟩
      · have hst := Lib.hid (hC.resolve_left hnl)
        have hn : n < N.size := by omega
        have hnn : ((n : Int) == (N.size : Int)) = false := by rw [beq_eq_false_iff_ne]; omega
        have hpnT : pT = true → pn < N.size := fun e => by have := (hI.out.part e).2.1; omega
        have hsnT : sT = true → sn ≤ n := fun e => (hI.out.star e).2.1
        have hsnp : sT = true → pT = true → sn ≤ pn := fun e1 e2 => (hI.out.both e1 e2).2.1
        have hI' := Lib.hid hI; have hs' := Lib.hid hs; have hp' := Lib.hid hp; have hb' := Lib.hid hb; have hle' := Lib.hid hle
        clear hI hs hp hb hle hC hnl
        cases hpT : pT with
        | true =>
          subst hpT
          have hpn := hpnT rfl
          have hpni : (pn : Int) < (N.size : Int) := by omega
          have hpc := byt_at N pn hpn
          by_cases hc : byt N pn = 47
          · have q1 : (((N[pn]'hpn).toNat : Int) != (((⟨#[47]⟩ : ByteArray)[0]'(by decide)).toNat : Int)) = false := by
              rw [← hpc, hc]; rfl
            cases hsT : sT with
            | false =>
              subst hsT
              have HR := Lib.hid (hI'.out.out.fails hst.out rfl fun _ => hc)
              have HB := Lib.hid (fun a => below_drewN hb'.out a)
              clear hI' hst hs' hp' hb' hle' hvs hvp
              go_upto_region 15 with fail
              go_quiet (fail)
              go_wp2
              go_ret
              exact ⟨⟨false, rfl, by simpa using HR.out⟩, HB.out _⟩
            | true =>
              subst hsT
              have hsp := hsnp rfl rfl
              obtain ⟨k, k1, k2, k3⟩ := idx_sign N sn pn hsp hpn hc
              obtain ⟨WF, hWF⟩ : ∃ WF : Nat → World, WF = fun a => (((((wA.drewN a).setCell ⟨w.heap.size, 2, none⟩ (.int .i64 ((sn : Int) + (k : Int)))).setCell ⟨w.heap.size, 2, none⟩ (.int .i64 ((sn : Int) + (k : Int) + 1))).setCell ⟨w.heap.size + 1, 0, none⟩ (.bool false)).setCell ⟨w.heap.size + 1, 1, none⟩ (.int .i64 0)).setCell ⟨w.heap.size + 1, 2, none⟩ (.int .i64 0) := ⟨_, rfl⟩
              have HR := Lib.hid (fun (a b : Nat) => MT.next (W := (WF a).drewN b) hvs hvp rfl rfl (hI'.out.out.goStar hst.out rfl (fun _ => hc) (sn + k) (by omega) (fun h => by cases h) (fun _ => ⟨k1, k3⟩) 0 0)
                (by rw [hWF]; exact ((((((hs'.out.drewN a).set2 (sn + k)).set2 (sn + k + 1)).setO (by omega) _ _).setO (by omega) _ _).setO (by omega) _ _).drewN b)
                (by rw [hWF]; exact (((((hp'.out.drewN a).setO (by omega) 2 _).setO (by omega) 2 _).clear)).drewN b)
                (by rw [hWF]; exact below_drewN ((((((below_drewN hb'.out a).setCell (Nat.le_refl _) _).setCell (Nat.le_refl _) _).setCell (by show _ ≤ w.heap.size + 1; omega) _).setCell (by show _ ≤ w.heap.size + 1; omega) _).setCell (by show _ ≤ w.heap.size + 1; omega) _) b) (hle'.out.lt (.inl (bkV_n (by omega)))) h3 (by omega) (by omega) (by omega))
              rw [hWF] at HR
              have hidx := Tryd.strings_Index_one (N.extract sn N.size) 47
              rw [k2] at hidx
              have hsni : (sn : Int) ≤ (N.size : Int) := by omega
              clear hI' hst hs' hp' hb' hle' hvs hvp k2 k3 hWF
              go_upto_region 15 with fail
              go_quiet (fail)
              go_upto_region 20 with fail
              have hwr : IntKind.i64.wrap ((sn : Int) + (k : Int)) = (sn : Int) + (k : Int) := IntWalk.i64_in _ (by omega)
              go_cut [] from 78 to 86 (fun wx => ∃ q, wx = (wA.drewN q).setCell ⟨w.heap.size, 2, none⟩ (.int .i64 ((sn : Int) + (k : Int))))
              case first =>
                go_region_with (first | (go_at_call 40; refine (hidx _).mono ?_; rintro e w1 ⟨rfl, rfl⟩))
                all_goals (go_wp2_with fail; go_meet; exact ⟨_, rfl⟩)
              case rest =>
                obtain ⟨q, rfl⟩ := hcut
                go_upto_region 22 with fail
                go_region
                all_goals go_wp2
                all_goals rw [Exit.noGoto_normal]
                all_goals go_wp2
                all_goals exact HR.out _ 1
          · have q1 : (((N[pn]'hpn).toNat : Int) != (((⟨#[47]⟩ : ByteArray)[0]'(by decide)).toNat : Int)) = true := by
              rw [← hpc]
              show ((byt N pn : Int) != 47) = true
              rw [bne_iff_ne]; omega
            have HR := Lib.hid (fun (a b : Nat) => MT.next (W := ((wA.drewN a).setCell ⟨w.heap.size + 1, 2, none⟩ (.int .i64 ((pn + 1 : Nat) : Int))).drewN b) hvs hvp rfl rfl (hI'.out.out.goPart hst.out rfl hc) (((hs'.out.drewN a).setO (by omega) _ _).drewN b) (((hp'.out.drewN a).set2 (pn + 1)).drewN b)
              (below_drewN ((below_drewN hb'.out a).setCell (by show _ ≤ w.heap.size + 1; omega) _) b) (hle'.out.lt (.inr ⟨rfl, bkV_n (by omega)⟩)) h3 h4 h5 (by omega))
            clear hI' hst hs' hp' hb' hle' hvs hvp
            go_upto_region 15 with fail
            go_quiet (fail)
            go_upto_region 17 with fail
            go_quiet (fail)
            go_wp2
            rw [Exit.noGoto_normal]
            go_wp2
            exact HR.out _ _
        | false =>
          subst hpT
          cases hsT : sT with
          | false =>
            subst hsT
            have HR := Lib.hid (hI'.out.out.fails hst.out rfl fun hT => by cases hT)
            have HB := Lib.hid (fun a => below_drewN hb'.out a)
            clear hI' hst hs' hp' hb' hle' hvs hvp
            go_upto_region 15 with fail
            go_quiet (fail)
            go_wp2
            rw [Exit.noGoto_ret]
            go_wp2
            go_ret
            exact ⟨⟨false, rfl, by simpa using HR.out⟩, HB.out _⟩
          | true =>
            subst hsT
            have hsp := hsnT rfl
            obtain ⟨WF, hWF⟩ : ∃ WF : Nat → World, WF = fun a => ((((wA.drewN a).setCell ⟨w.heap.size, 2, none⟩ (.int .i64 ((sn : Int) + 1))).setCell ⟨w.heap.size + 1, 0, none⟩ (.bool false)).setCell ⟨w.heap.size + 1, 1, none⟩ (.int .i64 0)).setCell ⟨w.heap.size + 1, 2, none⟩ (.int .i64 0) := ⟨_, rfl⟩
            have HR := Lib.hid (fun (a b : Nat) => MT.next (W := (WF a).drewN b) hvs hvp rfl rfl (hI'.out.out.goStar hst.out rfl (fun h => by cases h) sn (Nat.le_refl _) (fun _ => rfl) (fun h => by cases h) 0 0)
              (by rw [hWF]; exact (((((hs'.out.drewN a).set2 (sn + 1)).setO (by omega) _ _).setO (by omega) _ _).setO (by omega) _ _).drewN b)
              (by rw [hWF]; exact ((((hp'.out.drewN a).setO (by omega) 2 _).clear)).drewN b)
              (by rw [hWF]; exact below_drewN (((((below_drewN hb'.out a).setCell (Nat.le_refl _) _).setCell (by show _ ≤ w.heap.size + 1; omega) _).setCell (by show _ ≤ w.heap.size + 1; omega) _).setCell (by show _ ≤ w.heap.size + 1; omega) _) b) (hle'.out.lt (.inl (bkV_n (by omega)))) h3 (by omega) (by omega) (by omega))
            rw [hWF] at HR
            clear hI' hst hs' hp' hb' hle' hvs hvp hWF
            go_upto_region 15 with fail
            go_quiet (fail)
            go_upto_region 22 with fail
            go_region
            all_goals go_wp2
            all_goals rw [Exit.noGoto_normal]
            all_goals go_wp2
            all_goals exact HR.out _ 1
end Go.Proofs.YtnglmaebmabdcaaDoor
