/- Frame: sum, number, Sum. -/
import Derived.Test.YtjlhcgimijcghaaF4
namespace Go.Proofs.Ytjlhcgimijcghaa
open Go Go.RowKit

theorem Rd.below {G : Nat} {vs : List Value} {ls : List (List UInt8)} {w w' : World} (h : Rd G vs ls w) (hb : Below w.heap.size w w') : Rd G vs ls w' :=
  ⟨h.1, fun j v l hv hl => by
    obtain ⟨h1, h2⟩ := h.2 j v l hv hl
    exact ⟨(hb.cell (World.block_lt_of_cell? w _ h1)).trans h1, h2.below hb⟩⟩
/-- What the rows read as stands where but one cell turns that none of them is in. -/
theorem Rd.fr {G B : Nat} {vs : List Value} {ls : List (List UInt8)} {w w' : World} (h : Rd G vs ls w) (hf : Fr (fun k => k = B) w w') (hG : G ≠ B) (hv : ∀ v ∈ vs, v.ownBlock ≠ some B) : Rd G vs ls w' :=
  ⟨h.1, fun j v l hj hl => by
    obtain ⟨h1, h2⟩ := h.2 j v l hj hl
    exact ⟨cell_fr h1 hf hG, h2.fr hf (fun g hg e => hv v (List.mem_of_getElem? hj) (e ▸ hg))⟩⟩
theorem through_fr (K B G cap : Nat) (vs : List Value) (ls : List (List UInt8)) (J : List UInt8 → World → Prop) (w : World) (hn : ls.length ≤ 1000) (hl : ∀ l ∈ ls, l.length ≤ 140737488355328)
    (hR : Rd G vs ls w) (hG : G ≠ B) (hv : ∀ v ∈ vs, v.ownBlock ≠ some B)
    (hstep : ∀ d b wr, J d wr → Fr (fun k => k = B) w wr → (d ++ [b]).length ≤ (ls.flatten).length → Calls Try.prog K #[.int .u8 (b.toNat : Int), .pointer (some ⟨B, 0, none⟩)] wr fun e w' => e = .returned (.tuple #[]) ∧ J (d ++ [b]) w' ∧ Fr (fun k => k = B) w w')
    (hen : ∀ args w, (callFunc K args).run Try.prog w = .ok (.enter K args) w) (h0 : J [] w) :
    Calls Try.prog 24 #[.slice (some ⟨G, 0, none⟩) ls.length cap, .func (.func K) #[] #[.pointer (some ⟨B, 0, none⟩)]] w fun e w' => e = .returned (.tuple #[]) ∧ J ls.flatten w' ∧ Fr (fun k => k = B) w w' :=
  through_any K B G cap vs ls (fun d wr => J d wr ∧ Fr (fun k => k = B) w wr) w hn hl (fun _ _ h => hR.fr h.2 hG hv) (fun d b wr h hle => hstep d b wr h.1 h.2 hle) hen ⟨h0, Fr.refl _ _⟩
/-- What closures with one number do. -/
theorem through_u32 (K B G cap : Nat) (vs : List Value) (ls : List (List UInt8)) (f : List UInt8 → Nat) (w : World) (hn : ls.length ≤ 1000) (hl : ∀ l ∈ ls, l.length ≤ 140737488355328)
    (hR : Rd G vs ls w) (hG : G ≠ B) (hv : ∀ v ∈ vs, v.ownBlock ≠ some B)
    (hstep : ∀ d b wr, wr.cell? ⟨B, 0, none⟩ = some (.int .u32 (f d : Nat)) → wr.frozen? ⟨B, 0, none⟩ = false → Calls Try.prog K #[.int .u8 (b.toNat : Int), .pointer (some ⟨B, 0, none⟩)] wr fun e w' => e = .returned (.tuple #[]) ∧ w'.cell? ⟨B, 0, none⟩ = some (.int .u32 (f (d ++ [b]) : Nat)) ∧ w'.frozen? ⟨B, 0, none⟩ = false ∧ Fr (fun k => k = B) wr w')
    (hen : ∀ args w, (callFunc K args).run Try.prog w = .ok (.enter K args) w) (h0 : w.cell? ⟨B, 0, none⟩ = some (.int .u32 (f [] : Nat))) (h1 : w.frozen? ⟨B, 0, none⟩ = false) :
    Calls Try.prog 24 #[.slice (some ⟨G, 0, none⟩) ls.length cap, .func (.func K) #[] #[.pointer (some ⟨B, 0, none⟩)]] w fun e w' => e = .returned (.tuple #[]) ∧ w'.cell? ⟨B, 0, none⟩ = some (.int .u32 (f ls.flatten : Nat)) ∧ Fr (fun k => k = B) w w' :=
  (through_fr K B G cap vs ls (fun d wr => wr.cell? ⟨B, 0, none⟩ = some (.int .u32 (f d : Nat)) ∧ wr.frozen? ⟨B, 0, none⟩ = false) w hn hl hR hG hv
    (fun d b wr h hf _ => (hstep d b wr h.1 h.2).mono fun _ _ ⟨e1, e2, e3, e4⟩ => ⟨e1, ⟨e2, e3⟩, hf.trans e4 (fun _ h => h) (fun _ _ h => h)⟩) hen ⟨h0, h1⟩).mono fun _ _ ⟨e1, e2, e3⟩ => ⟨e1, e2.1, e3⟩
theorem en_sum : ∀ args w, (callFunc 25 args).run Try.prog w = .ok (.enter 25 args) w := fun _ _ => rfl
theorem en_num : ∀ args w, (callFunc 27 args).run Try.prog w = .ok (.enter 27 args) w := fun _ _ => rfl
theorem en_lay : ∀ args w, (callFunc 26 args).run Try.prog w = .ok (.enter 26 args) w := fun _ _ => rfl
theorem bits8_foldl (d : List UInt8) (b : UInt8) (r : Nat) : (bitsOf (d ++ [b])).foldl stp r = (bit8 b).foldl stp ((bitsOf d).foldl stp r) := by
  rw [bitsOf_append, List.foldl_append]; simp [bitsOf]
theorem new_cell (w : World) (v : Value) (t : TypeId) : (w.alloc (.cells #[v] t)).cell? ⟨w.heap.size, 0, none⟩ = some v ∧ (w.alloc (.cells #[v] t)).frozen? ⟨w.heap.size, 0, none⟩ = false :=
  ⟨by rw [World.cell?_alloc_mark]; rfl, World.frozen?_alloc_new w _ _ 0⟩

theorem xor_max (y : Nat) (h : y < 4294967296) : bits BinOp.xor IntKind.u32 IntKind.u32.max (y : Int) = ((4294967295 - y : Nat) : Int) := by
  have h1 := u32_xor_nat 4294967295 y (by omega) h
  have h2 : 4294967295 ^^^ y = 4294967295 - y := by
    have e := congrArg BitVec.toNat (BitVec.allOnes_xor (x := BitVec.ofNat 32 y))
    rw [BitVec.toNat_xor, BitVec.toNat_not, BitVec.toNat_allOnes, BitVec.toNat_ofNat, Nat.mod_eq_of_lt (by omega)] at e
    exact e
  rw [h2] at h1
  exact h1

set_option maxHeartbeats 1000000 in
theorem sum_any (G cap : Nat) (vs : List Value) (ls : List (List UInt8)) (w : World) (hn : ls.length ≤ 1000) (hl : ∀ l ∈ ls, l.length ≤ 140737488355328) (hR : Rd G vs ls w) (hG : G < w.heap.size) :
    Calls Try.prog 19 #[.slice (some ⟨G, 0, none⟩) ls.length cap] w fun e w' => e = .returned (.int .u32 (crcN ls.flatten : Nat)) ∧ Below w.heap.size w w' := by
  have hmf : ∀ (fn : Fn) (first cap : Array Value) (w : World), (Instr.makeFunc fn first cap).run Try.prog w = .ok (.func fn first cap) w := fun _ _ _ _ => rfl
  have hb1 : Below w.heap.size w (w.alloc (.cells #[.int .u32 4294967295] 24)) := (Below.refl _ w).alloc (Nat.le_refl _) _
  have hth := (through_u32 25 w.heap.size G cap vs ls (fun d => (bitsOf d).foldl stp 4294967295) (w.alloc (.cells #[.int .u32 4294967295] 24)) hn hl (hR.below hb1) (by omega)
      (fun v hv e => by
        obtain ⟨j, hj⟩ := List.getElem?_of_mem hv
        obtain ⟨hlt, _⟩ := List.getElem?_eq_some_iff.1 hj
        have := (hR.2 j v _ hj (List.getElem?_eq_getElem (by rw [← hR.1]; exact hlt))).2.lt _ e
        omega)
      (fun d b wr h1 h2 => (sumc_any w.heap.size _ b wr h1 h2 (foldl_stp_lt _ (by omega))).mono fun e w' ⟨h1, h2, h3, h4⟩ => ⟨h1, by rw [bits8_foldl]; exact h2, h3, h4⟩)
      en_sum (new_cell w _ _).1 (new_cell w _ _).2).mono fun e w' ⟨e1, e2, e3⟩ => (⟨e1, e2, e3.to_below hb1 hb1.size (fun k hk => Nat.le_of_eq hk.symm)⟩ : _ ∧ _ ∧ Below w.heap.size w w')
  have hlt := foldl_stp_lt (bitsOf ls.flatten) (r := 4294967295) (by omega)
  generalize hF : crcN ls.flatten = F
  unfold crcN at hF
  generalize hy : (bitsOf ls.flatten).foldl stp 4294967295 = y at *
  clear hR hb1
  have HTH := Lib.hid hth
  clear hth
  go_enter Try.func19, Try.ntmps19
  go_wp2_with fail
  refine HTH.out.mono ?_
  rintro e w1 ⟨rfl, hc, hb⟩
  have HB := Lib.hid hb
  clear hb
  go_wp2
  go_ret
  refine ⟨?_, HB.out⟩
  show Ending.returned (.int .u32 (bits BinOp.xor IntKind.u32 IntKind.u32.max (y : Int))) = _
  rw [xor_max y hlt]
  congr 2
  omega

theorem numF_lt : ∀ (l : List UInt8) {n : Nat}, n < 4294967296 → numF l n < 4294967296
  | [], _, h => h
  | b :: t, n, _ => by
    have := b.toNat_lt
    exact numF_lt t (n := n * 256 % 4294967296 + b.toNat) (by omega)
theorem numF_snoc (d : List UInt8) (b : UInt8) (n : Nat) : numF (d ++ [b]) n = numF d n * 256 % 4294967296 + b.toNat := by
  unfold numF; rw [List.foldl_append]; rfl
/-- A new block with one row. -/
theorem rd_one {w : World} {v : Value} {l : List UInt8} (h : Byt w v l) (t : TypeId) : Rd w.heap.size [v] [l] (w.alloc (.cells #[v] t)) :=
  ⟨rfl, fun j v' l' hv hl => by
    cases j with
    | zero =>
      simp at hv hl
      subst hv hl
      exact ⟨by rw [World.cell?_alloc_mark]; rfl, h.below ((Below.refl _ w).alloc (Nat.le_refl _) _)⟩
    | succ j => simp at hv⟩
theorem rd_two {w : World} {v1 v2 : Value} {l1 l2 : List UInt8} (h1 : Byt w v1 l1) (h2 : Byt w v2 l2) (t : TypeId) : Rd w.heap.size [v1, v2] [l1, l2] (w.alloc (.cells #[v1, v2] t)) :=
  ⟨rfl, fun j v' l' hv hl => by
    match j with
    | 0 =>
      simp at hv hl
      subst hv hl
      exact ⟨by rw [World.cell?_alloc_mark]; rfl, h1.below ((Below.refl _ w).alloc (Nat.le_refl _) _)⟩
    | 1 =>
      simp at hv hl
      subst hv hl
      exact ⟨by rw [World.cell?_alloc_mark]; rfl, h2.below ((Below.refl _ w).alloc (Nat.le_refl _) _)⟩
    | j + 2 => simp at hv⟩
theorem rd_three {w : World} {v1 v2 v3 : Value} {l1 l2 l3 : List UInt8} (h1 : Byt w v1 l1) (h2 : Byt w v2 l2) (h3 : Byt w v3 l3) (t : TypeId) : Rd w.heap.size [v1, v2, v3] [l1, l2, l3] (w.alloc (.cells #[v1, v2, v3] t)) :=
  ⟨rfl, fun j v' l' hv hl => by
    match j with
    | 0 =>
      simp at hv hl
      subst hv hl
      exact ⟨by rw [World.cell?_alloc_mark]; rfl, h1.below ((Below.refl _ w).alloc (Nat.le_refl _) _)⟩
    | 1 =>
      simp at hv hl
      subst hv hl
      exact ⟨by rw [World.cell?_alloc_mark]; rfl, h2.below ((Below.refl _ w).alloc (Nat.le_refl _) _)⟩
    | 2 =>
      simp at hv hl
      subst hv hl
      exact ⟨by rw [World.cell?_alloc_mark]; rfl, h3.below ((Below.refl _ w).alloc (Nat.le_refl _) _)⟩
    | j + 3 => simp at hv⟩

set_option maxHeartbeats 1000000 in
theorem number_any (v : Value) (l : List UInt8) (w : World) (hv : Byt w v l) (hl : l.length ≤ 140737488355328) :
    Calls Try.prog 22 #[v] w fun e w' => e = .returned (.int .u32 (numF l 0 : Nat)) ∧ Below w.heap.size w w' := by
  have hmf : ∀ (fn : Fn) (first cap : Array Value) (w : World), (Instr.makeFunc fn first cap).run Try.prog w = .ok (.func fn first cap) w := fun _ _ _ _ => rfl
  have hlt := hv.lt
  obtain ⟨a, c, rfl, hcap⟩ := hv.shape
  have hb1 : Below w.heap.size w (w.alloc (.cells #[.int .u32 0] 24)) := (Below.refl _ w).alloc (Nat.le_refl _) _
  have hR := rd_one (hv.below hb1) 22
  have hb2 := hb1.alloc hb1.size (.cells #[.slice a l.length c] 22)
  have hc1 : (w.alloc (.cells #[.int .u32 0] 24)).cell? ⟨w.heap.size, 0, none⟩ = some (.int .u32 0) := (new_cell w (.int .u32 0) 24).1
  have hsz : (w.alloc (.cells #[.int .u32 0] 24)).heap.size = w.heap.size + 1 := by simp
  have hbb : ((w.alloc (.cells #[.int .u32 0] 24)).alloc (.cells #[.slice a l.length c] 22)).heap[w.heap.size]? = (w.alloc (.cells #[.int .u32 0] 24)).heap[w.heap.size]? := Below.heap_alloc _ _ _ (by omega)
  have hth := (through_u32 27 w.heap.size (w.heap.size + 1) 1 [.slice a l.length c] [l] (fun d => numF d 0) _ (by simp) (by simpa using hl) (by rw [hsz] at hR; exact hR) (by omega)
      (fun v hv' e => by simp only [List.mem_singleton] at hv'; subst hv'; have := hlt _ e; omega)
      (fun d b wr h1 h2 => (numc_any w.heap.size _ b wr h1 h2 (numF_lt d (by omega))).mono fun e w' ⟨h1, h2, h3, h4⟩ => ⟨h1, by rw [numF_snoc]; exact h2, h3, h4⟩)
      en_num ((World.cell?_of_block (a := ⟨w.heap.size, 0, none⟩) hbb).trans hc1) ((World.frozen?_of_block (a := ⟨w.heap.size, 0, none⟩) hbb).trans (new_cell w _ _).2)).mono fun e w' ⟨e1, e2, e3⟩ => (⟨e1, e2, e3.to_below hb2 hb2.size (fun k hk => Nat.le_of_eq hk.symm)⟩ : _ ∧ _ ∧ Below w.heap.size w w')
  simp only [List.flatten_cons, List.flatten_nil, List.append_nil, List.length_cons, List.length_nil, Nat.zero_add] at hth
  generalize numF l 0 = F at *
  have HTH := Lib.hid hth
  clear hth hR hb1 hb2 hc1 hbb hv hlt
  go_enter Try.func22, Try.ntmps22
  go_wp2_with fail
  refine HTH.out.mono ?_
  rintro e w1 ⟨rfl, hc, hb⟩
  have HB := Lib.hid hb
  clear hb
  go_wp2
  go_ret
  exact ⟨rfl, HB.out⟩

/-- Sum, of whatever reads as l. -/
theorem Sum_any (v : Value) (l : List UInt8) (w : World) (hv : Byt w v l) (hl : l.length ≤ 140737488355328) :
    Calls Try.prog 10 #[v] w fun e w' => e = .returned (.int .u32 (crcN l : Nat)) ∧ Below w.heap.size w w' := by
  have hR := rd_one hv 22
  obtain ⟨a, c, rfl, hcap⟩ := hv.shape
  have hb1 : Below w.heap.size w (w.alloc (.cells #[.slice a l.length c] 22)) := (Below.refl _ w).alloc (Nat.le_refl _) _
  have hs := (sum_any w.heap.size 1 [.slice a l.length c] [l] _ (by simp) (by simpa using hl) hR (by simp)).mono fun e w' ⟨e1, e2⟩ => (⟨e1, hb1.trans (e2.mono hb1.size)⟩ : _ ∧ Below w.heap.size w w')
  simp only [List.flatten_cons, List.flatten_nil, List.append_nil, List.length_cons, List.length_nil, Nat.zero_add] at hs
  generalize crcN l = F at *
  have HS := Lib.hid hs
  clear hs hR hb1
  go_enter Try.func10, Try.ntmps10
  go_wp2_with fail
  refine HS.out.mono ?_
  rintro e w1 ⟨rfl, hb⟩
  have HB := Lib.hid hb
  clear hb
  go_wp2
  go_ret
  exact ⟨rfl, HB.out⟩
end Go.Proofs.Ytjlhcgimijcghaa
