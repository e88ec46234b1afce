/- Bag: BagCounts. -/
import Derived.Test.YtdcpdeiljabkaaaNO
namespace Go.Proofs.Ytdcpdeiljabkaaa
open Go Go.RowKit

theorem add_most (b : Bg) (x : Und) : (b.add x).2.most = b.most := by
  unfold Bg.add
  split
  · rfl
  · split <;> rfl
theorem not_bad_len {x : Und} (h : x.bad = false) : x.bytes.length ≤ 2006 := by
  unfold Und.bad at h
  simp only [Bool.not_eq_false', Bool.and_eq_true, decide_eq_true_eq] at h
  exact h.2
theorem add_cases (b : Bg) (x : Und) : ((b.add x).1 = 2 ∧ (b.add x).2 = b) ∨ ((b.add x).1 = 8 ∧ (b.add x).2 = { b with lost := b.lost + 1 } ∧ b.most ≤ b.us.length) ∨ ((b.add x).1 = 0 ∧ (b.add x).2 = { b with us := b.us ++ [x] } ∧ ¬ b.most ≤ b.us.length ∧ x.bytes.length ≤ 2006) := by
  unfold Bg.add
  by_cases h1 : x.bad = true
  · rw [if_pos h1]; exact Or.inl ⟨rfl, rfl⟩
  · rw [if_neg h1]
    by_cases h2 : b.most ≤ b.us.length
    · rw [if_pos h2]; exact Or.inr (Or.inl ⟨rfl, rfl, h2⟩)
    · rw [if_neg h2]; exact Or.inr (Or.inr ⟨rfl, rfl, h2, not_bad_len (by simpa using h1)⟩)
theorem cls_at {W : World} {a : Option Addr} {n c : Nat} {l : List Cl} (h : Cls W (.slice a n c) l) {j : Nat} {d : Cl} (hd : l[j]? = some d) : ∃ g off bv, a = some ⟨g, off, none⟩ ∧ g < W.heap.size ∧ ClAt W g (off + j * 6) d bv := by
  obtain ⟨a', c', e, _, hp⟩ := h
  injection e with e1 _ _
  rw [e1]
  exact hp j d hd
theorem tak_one {B p : Nat} {w w' : World} {b : Bg} {sv : Value} {ps : List UV} {i : Int} {keep : Bool} {e : Ending} (h : TakR B w p b sv ps i keep e w') :
    ∃ (xs xd : Int) (aa : Option Addr) (nn cc : Nat) (f : Int), e = .returned (.tuple #[.agg #[.int .i64 xs, .int .i64 xd, .slice aa nn cc], .int .i64 f]) ∧ (f == 0) = b.has i ∧ OpS B w p sv ps (if (b.has i && !keep) = true then b.cut i.toNat else b) w' := by
  rcases h with ⟨h1, rfl, h2⟩ | ⟨x, a, c, h1, _, rfl, _, h2⟩
  · exact ⟨_, _, _, _, _, _, rfl, by rw [h1]; rfl, by rw [h1]; exact h2⟩
  · refine ⟨_, _, _, _, _, _, rfl, by rw [h1]; rfl, ?_⟩
    rw [h1]
    cases keep with
    | true => exact h2
    | false => exact h2
theorem ex_alloc {P : Program} {o : Oper} {a : Act} {w : World} (t : TypeId) (ho : o.op = .alloc t) (Z : Array Value) (hz : (zeroValue t).run P w = .ok (.agg Z) w) : (execOp a.eval o).run P w = .ok (.value (.pointer (some ⟨w.heap.size, 0, none⟩))) (w.alloc (.cells Z t)) := by
  unfold execOp
  simp only [ho, Sem.run_bind, run_alloc_row w t Z hz, Result.andThen_ok]
  rfl
theorem run_index_call (W : World) (g off n c j : Nat) (hj : j < n) (hn : n ≤ 9223372036854775807) : (Instr.indexAt 22 (.slice (some ⟨g, off, none⟩) n c) (.int .i64 (j : Int))).run Try.prog W = .ok (.pointer (some ⟨g, off + j * 6, none⟩)) W := by
  have hj' : (j : Int) < (n : Int) := by omega
  go_simp
theorem run_load_int (W : World) (N j : Nat) (z : Int) (h : W.cell? ⟨N, j, none⟩ = some (.int .i64 z)) : (Instr.loadAt 3 (.pointer (some ⟨N, j, none⟩))).run Try.prog W = .ok (.int .i64 z) W := by go_simp
theorem run_load_bool (W : World) (N j : Nat) (z : Bool) (h : W.cell? ⟨N, j, none⟩ = some (.bool z)) : (Instr.loadAt 4 (.pointer (some ⟨N, j, none⟩))).run Try.prog W = .ok (.bool z) W := by go_simp
theorem zero_und (w : World) : (zeroValue 34).run Try.prog w = .ok (.agg #[.int .i64 0, .int .i64 0, .slice none 0 0]) w := Try.zeroValue34 w
/-- Where the loop stands. -/
structure CntS (w wr : World) (p n1 j came tk : Nat) (b : Bg) (sv : Value) (ps : List UV) : Prop where
  bag : BagAt w.heap.size wr p b sv ps
  most : b.most = n1
  fits : b.us.length ≤ n1
  sum : came = b.us.length + tk + b.lost
  cj : came ≤ j
  bytes : ∀ x ∈ b.us, x.bytes.length ≤ 2006
  below : Below w.heap.size w wr
theorem svlow {B p : Nat} {w : World} {b : Bg} {sv : Value} {ps : List UV} (h : BagAt B w p b sv ps) : ∀ g, sv.ownBlock = some g → B ≤ g := fun g hg => (h.us.has g (Or.inl hg)).1
theorem has_of {b : Bg} {i : Int} (h : b.has i = true) : i.toNat < b.us.length := by
  unfold Bg.has at h
  simp only [Bool.and_eq_true, decide_eq_true_eq] at h
  omega
theorem cut_len (b : Bg) (k : Nat) (h : k < b.us.length) : (b.cut k).us.length + 1 = b.us.length := by
  unfold Bg.cut
  simp only [List.length_eraseIdx, if_pos h]
  omega
theorem cut_mem {b : Bg} {k : Nat} {P : Und → Prop} (h : ∀ x ∈ b.us, P x) : ∀ x ∈ (b.cut k).us, P x := fun x hx => h x (List.mem_of_mem_eraseIdx hx)
theorem CntS.added {w wr w' : World} {p n1 j came tk : Nat} {b : Bg} {sv : Value} {ps : List UV} {x : Und} (h : CntS w wr p n1 j came tk b sv ps) (hop : OpR w.heap.size wr p sv ps (b.add x).2 w') :
    ∃ (sv' : Value) (ps' : List UV) (came' : Nat), (came' : Int) = (if ((b.add x).1 == 2) = true then (came : Int) else (came : Int) + 1) ∧ CntS w w' p n1 (j + 1) came' tk (b.add x).2 sv' ps' := by
  have hb := hop.below (N := w.heap.size) h.bag.base (svlow h.bag) h.below.size
  obtain ⟨sv', ps', h1, _, _⟩ := hop
  have hs := h.sum
  have hc := h.cj
  have hf := h.fits
  have hm := h.most
  rcases add_cases b x with ⟨e1, e2⟩ | ⟨e1, e2, e3⟩ | ⟨e1, e2, e3, e4⟩
  · refine ⟨sv', ps', came, by rw [e1]; rfl, ?_⟩
    rw [e2] at h1 ⊢
    exact ⟨h1, hm, hf, hs, by omega, h.bytes, h.below.trans hb⟩
  · refine ⟨sv', ps', came + 1, by rw [e1]; rfl, ?_⟩
    rw [e2] at h1 ⊢
    exact ⟨h1, hm, hf, by show came + 1 = b.us.length + tk + (b.lost + 1); omega, by omega, h.bytes, h.below.trans hb⟩
  · refine ⟨sv', ps', came + 1, by rw [e1]; rfl, ?_⟩
    rw [e2] at h1 ⊢
    have hl : (b.us ++ [x]).length = b.us.length + 1 := by simp
    refine ⟨h1, hm, by show (b.us ++ [x]).length ≤ n1; omega, by show came + 1 = (b.us ++ [x]).length + tk + b.lost; omega, by omega, fun y hy => ?_, h.below.trans hb⟩
    rcases List.mem_append.1 hy with hy | hy
    · exact h.bytes y hy
    · rw [List.mem_singleton.1 hy]; exact e4
theorem CntS.kept {w wr w' : World} {p n1 j came tk : Nat} {b : Bg} {sv : Value} {ps : List UV} (h : CntS w wr p n1 j came tk b sv ps) (hop : OpS w.heap.size wr p sv ps b w') : ∃ sv' ps', CntS w w' p n1 (j + 1) came tk b sv' ps' := by
  have hb := hop.below (N := w.heap.size) h.bag.base (svlow h.bag) h.below.size
  obtain ⟨sv', ps', h1, _, _⟩ := hop
  exact ⟨sv', ps', h1, h.most, h.fits, h.sum, by have := h.cj; omega, h.bytes, h.below.trans hb⟩
theorem CntS.took {w wr w' : World} {p n1 j came tk : Nat} {b : Bg} {sv : Value} {ps : List UV} {i : Int} (h : CntS w wr p n1 j came tk b sv ps) (hi : b.has i = true) (hop : OpS w.heap.size wr p sv ps (b.cut i.toNat) w') : ∃ sv' ps', CntS w w' p n1 (j + 1) came (tk + 1) (b.cut i.toNat) sv' ps' := by
  have hb := hop.below (N := w.heap.size) h.bag.base (svlow h.bag) h.below.size
  obtain ⟨sv', ps', h1, _, _⟩ := hop
  have hl := cut_len b i.toNat (has_of hi)
  have hs := h.sum
  have hf := h.fits
  exact ⟨sv', ps', h1, h.most, by omega, by show came = (b.cut i.toNat).us.length + (tk + 1) + b.lost; omega, by have := h.cj; omega, cut_mem h.bytes, h.below.trans hb⟩
theorem CntS.lost {w wr w' : World} {p n1 j came tk : Nat} {b : Bg} {sv : Value} {ps : List UV} {i : Int} (h : CntS w wr p n1 j came tk b sv ps) (hop : OpS w.heap.size wr p sv ps (b.lose i).2 w') : ∃ sv' ps', CntS w w' p n1 (j + 1) came tk (b.lose i).2 sv' ps' := by
  have hb := hop.below (N := w.heap.size) h.bag.base (svlow h.bag) h.below.size
  obtain ⟨sv', ps', h1, _, _⟩ := hop
  unfold Bg.lose at h1 ⊢
  by_cases hi : b.has i = true
  · rw [if_pos hi] at h1 ⊢
    have hl := cut_len b i.toNat (has_of hi)
    have hs := h.sum
    have hf := h.fits
    exact ⟨sv', ps', h1, h.most, by show (b.cut i.toNat).us.length ≤ n1; omega, by show came = (b.cut i.toNat).us.length + tk + (b.lost + 1); omega, by have := h.cj; omega, cut_mem h.bytes, h.below.trans hb⟩
  · rw [if_neg hi] at h1 ⊢
    exact ⟨sv', ps', h1, h.most, h.fits, h.sum, by have := h.cj; omega, h.bytes, h.below.trans hb⟩
set_option maxHeartbeats 16000000 in
set_option maxRecDepth 100000 in
theorem walk_counts (n : Nat) (v : Value) (l : List Cl) (w : World) (hn : n < 256) (h : Cls w v l) :
    Calls Try.prog 4 #[.int .u8 (n : Int), v] w fun e w' => e = .returned (.bool true) ∧ Below w.heap.size w w' := by
  obtain ⟨n1, hn1⟩ : ∃ n1 : Nat, 1 + n % 48 = n1 := ⟨_, rfl⟩
  have hr1 : 1 ≤ n1 ∧ n1 ≤ 48 := by omega
  have HNEW := Lib.hid (new_any w.heap.size n1 w hr1.1 hr1.2 (Nat.le_refl _))
  have HC := Lib.hid h
  obtain ⟨va, vc, rfl, hl, _⟩ := id h
  clear h
  have en : (1 : Int) + (n : Int) % 48 = (n1 : Int) := by omega
  clear hn1
  go_enter Try.func4, Try.ntmps4
  go_wp2_with fail
  refine HNEW.out.mono ?_
  rintro e w1 ⟨rfl, hB1, hb1⟩
  have HS1 := Lib.hid (⟨hB1, rfl, Nat.zero_le _, rfl, Nat.le_refl _, (fun x hx => by cases hx), hb1⟩ : CntS w w1 w.heap.size n1 0 0 0 ⟨n1, 0, []⟩ (.slice none 0 0) [])
  obtain ⟨p, hp⟩ : ∃ p, w.heap.size = p := ⟨_, rfl⟩
  rw [show CntS w w1 w.heap.size = CntS w w1 p by rw [hp]] at HS1
  rw [hp]
  have HP := Lib.hid hp
  clear hB1 hb1 HNEW hp
  go_wp2_with fail
  go_loopw [8, 9, 10] (fun cv tv iv wr => ∃ (j came tk : Nat) (b : Bg) (sv : Value) (ps : List UV), j ≤ l.length ∧ j ≤ 150 ∧ cv = .int .i64 (came : Int) ∧ tv = .int .i64 (tk : Int) ∧ iv = .int .i64 (j : Int) ∧ Hid (CntS w wr p n1 j came tk b sv ps)) (fun _ _ iv _ => 150 - (intOf iv).toNat)
  case atStart => exact ⟨0, 0, 0, _, _, _, Nat.zero_le _, by omega, rfl, rfl, rfl, HS1⟩
  case round =>
    clear HS1
    obtain ⟨j, came, tk, b, sv, ps, hj, hj2, rfl, rfl, rfl, HS⟩ := hrel
    have hcb : came ≤ 150 := by have := HS.out.cj; omega
    have htb : tk ≤ 150 := by have := HS.out.sum; omega
    have hlob : b.lost ≤ 150 := by have := HS.out.sum; omega
    by_cases hlt : j < l.length ∧ j < 150
    case neg =>
      have hcase : ¬ (j : Int) < (l.length : Int) ∨ ((j : Int) < (l.length : Int) ∧ ¬ (j : Int) < 150) := by omega
      have HLV := Lib.hid (live_any wr)
      have HBB := Lib.hid HS.out.below
      clear HS hlt
      rcases hcase with h1 | ⟨h1, h2⟩
      all_goals
        go_wp2_with fail
        refine HLV.out.mono ?_
        rintro e w9 ⟨rfl, hb9⟩
        have HE := Lib.hid (HBB.out.trans (hb9.mono HBB.out.size))
        clear hb9 HLV
        go_wp2
        go_ret
        exact ⟨rfl, HE.out⟩
    obtain ⟨hjl, hj150⟩ := hlt
    have hjl' : (j : Int) < (l.length : Int) := by omega
    have hj150' : (j : Int) < 150 := by omega
    obtain ⟨d, hd⟩ : ∃ d, l[j]? = some d := ⟨_, List.getElem?_eq_getElem hjl⟩
    have hCw := HC.out.below HS.out.below
    obtain ⟨g, off, bv, hga, hg, hcl⟩ := cls_at HC.out hd
    subst hga
    have HCL : Hid (∀ u, Below w.heap.size w u → u.rangeAt g (off + j * 6) (clS d bv) ∧ Byz u bv d.x.bytes) := Lib.hid (fun u hu => ⟨fun i y hy => (hu.cell (p := ⟨g, off + j * 6 + i, none⟩) hg).trans (hcl.r i y hy), hcl.b.below hu⟩)
    have hbl := hcl.bl
    obtain ⟨xa, xc, hbv⟩ := hcl.b.1
    clear hcl hCw hd hg
    obtain ⟨hrg, hbz⟩ := HCL.out wr HS.out.below
    have a0 : wr.cell? ⟨g, off + j * 6, none⟩ = some (.int .i64 d.act) := hrg 0 _ rfl
    rcases (show d.act = 0 ∨ d.act = 1 ∨ d.act = 2 ∨ (d.act ≠ 0 ∧ d.act ≠ 1 ∧ d.act ≠ 2) by omega) with hact | hact | hact | ⟨hact0, hact1, hact2⟩
    · -- Add
      have e0 : (d.act == 0) = true := by rw [hact]; rfl
      have hop := add_any w.heap.size p wr b sv ps d.x bv HS.out.bag hbz hbl (by have := HS.out.fits; omega) (by have := HS.out.most; omega) (by omega)
      have HA := Lib.hid hop
      have HR : Hid (wr.rangeAt g (off + j * 6 + 1) [.int .i64 d.x.src, .int .i64 d.x.dst, bv]) := Lib.hid (fun i y hy => by
        have := hrg (1 + i) y (by unfold clS; rw [Nat.add_comm, List.getElem?_cons_succ]; exact List.getElem?_append_left (l₁ := [.int .i64 d.x.src, .int .i64 d.x.dst, bv]) (List.getElem?_eq_some_iff.1 hy).1 ▸ hy)
        rw [Nat.add_assoc]
        exact this)
      have HL3 : Hid ((Try.prog.info? 34).map (·.size) = some ([.int .i64 d.x.src, .int .i64 d.x.dst, bv] : List Value).length) := Lib.hid (by show _ = some 3; kernel_rfl)
      unfold AddR at HA
      have HADD : Hid (∀ w', OpR w.heap.size wr p sv ps (b.add d.x).2 w' → ∃ (sv' : Value) (ps' : List UV) (came' : Nat), (came' : Int) = (if ((b.add d.x).1 == 2) = true then (came : Int) else (came : Int) + 1) ∧ CntS w w' p n1 (j + 1) came' tk (b.add d.x).2 sv' ps') := Lib.hid (fun w' h => HS.out.added h)
      obtain ⟨E, hE⟩ : ∃ E, (b.add d.x).1 = E := ⟨_, rfl⟩
      obtain ⟨b', hb'⟩ : ∃ b', (b.add d.x).2 = b' := ⟨_, rfl⟩
      rw [hE, hb'] at HA HADD
      rw [hbv] at HR HL3 HA
      clear hop hrg hbz hE hb' hact HS hbl
      go_wp2_with (first
        | (refine wpList_load_mid rfl 34 _ rfl g (off + j * 6 + 1) rfl _ _ HR.out Try.underlying34 rfl HL3.out ?_))
      refine HA.out.mono ?_
      rintro e w3 ⟨rfl, hop⟩
      obtain ⟨sv', ps', came', hce, hT⟩ := HADD.out w3 hop
      have HT := Lib.hid hT
      have HCE := Lib.hid hce
      clear hop hT hce HADD HA HR a0
      cases hE2 : (E == 2) with
      | true =>
        have hE3 : (E != 2) = false := by rw [bne, hE2]; rfl
        have hce := HCE.out
        rw [hE2, if_pos rfl] at hce
        have HCF := Lib.hid hce
        clear HCE
        have hs := HT.out
        have HLn := Lib.hid (len_any _ _ _ _ _ _ hs.bag)
        have HLo := Lib.hid (lost_any _ _ _ _ _ _ hs.bag)
        have hfit : ¬ (n1 : Int) < (b'.us.length : Int) := by have := hs.fits; omega
        have hsum : ((came : Int) != (b'.us.length : Int) + (tk : Int) + (b'.lost : Int)) = false := by rw [bne_eq_false_iff_eq]; have := hs.sum; first | omega | (have := HTK.out; omega)
        have hul : b'.us.length ≤ 48 := by have := hs.fits; omega
        have hll : b'.lost ≤ 151 := by have := hs.sum; have := hs.cj; omega
        clear hs
        go_wp2_with fail
        refine HLn.out.mono ?_
        rintro e w7 ⟨rfl, rfl⟩
        go_wp2_with fail
        refine HLn.out.mono ?_
        rintro e w7 ⟨rfl, rfl⟩
        go_wp2_with fail
        refine HLo.out.mono ?_
        rintro e w7 ⟨rfl, rfl⟩
        clear HLn HLo
        go_wp2
        go_roundw
        case rel => exact ⟨j + 1, _, _, b', sv', ps', by omega, by omega, by rw [HCF.out], rfl, by go_num, HT⟩
        case measure => simp [intOf]; omega
      | false =>
        have hE3 : (E != 2) = true := by rw [bne, hE2]; rfl
        have hce := HCE.out
        rw [hE2, if_neg (by simp)] at hce
        have HCF := Lib.hid hce
        clear HCE
        have hs := HT.out
        have HLn := Lib.hid (len_any _ _ _ _ _ _ hs.bag)
        have HLo := Lib.hid (lost_any _ _ _ _ _ _ hs.bag)
        have hfit : ¬ (n1 : Int) < (b'.us.length : Int) := by have := hs.fits; omega
        have hsum : (((came : Int) + 1) != (b'.us.length : Int) + (tk : Int) + (b'.lost : Int)) = false := by rw [bne_eq_false_iff_eq]; have := hs.sum; first | omega | (have := HTK.out; omega)
        have hul : b'.us.length ≤ 48 := by have := hs.fits; omega
        have hll : b'.lost ≤ 151 := by have := hs.sum; have := hs.cj; omega
        clear hs
        go_wp2_with fail
        refine HLn.out.mono ?_
        rintro e w7 ⟨rfl, rfl⟩
        go_wp2_with fail
        refine HLn.out.mono ?_
        rintro e w7 ⟨rfl, rfl⟩
        go_wp2_with fail
        refine HLo.out.mono ?_
        rintro e w7 ⟨rfl, rfl⟩
        clear HLn HLo
        go_wp2
        go_roundw
        case rel => exact ⟨j + 1, _, _, b', sv', ps', by omega, by omega, by rw [HCF.out], rfl, by go_num, HT⟩
        case measure => simp [intOf]; omega
    · -- Take
      have e0 : (d.act == 0) = false := by rw [hact]; rfl
      have e1 : (d.act == 1) = true := by rw [hact]; rfl
      have HCE : Hid (∀ u, Below w.heap.size w u → u.cell? ⟨g, off + j * 6 + 4, none⟩ = some (.int .i64 d.i) ∧ u.cell? ⟨g, off + j * 6 + 5, none⟩ = some (.bool d.keep)) := Lib.hid (fun u hu => ⟨(HCL.out u hu).1 4 _ rfl, (HCL.out u hu).1 5 _ rfl⟩)
      have HCT : Hid (∀ u, Below wr.heap.size wr u → Calls Try.prog 11 #[.pointer (some ⟨p, 0, none⟩), .int .i64 d.i, .bool d.keep] u fun e w' => ∃ v', e = .returned v' ∧ ∃ (xs xd : Int) (aa : Option Addr) (nn cc : Nat) (f : Int), v' = .tuple #[.agg #[.int .i64 xs, .int .i64 xd, .slice aa nn cc], .int .i64 f] ∧ (f == 0) = b.has d.i ∧ OpS w.heap.size u p sv ps (if (b.has d.i && !d.keep) = true then b.cut d.i.toNat else b) w') := Lib.hid (fun u hu => (take_any w.heap.size p u b sv ps d.i d.keep (HS.out.bag.below hu) (by have := HS.out.fits; omega) HS.out.bytes).mono fun e w' h => by
        obtain ⟨xs, xd, aa, nn, cc, f, h1, h2, h3⟩ := tak_one h
        exact ⟨_, h1, xs, xd, aa, nn, cc, f, rfl, h2, h3⟩)
      have HBW := Lib.hid HS.out.below
      have HPL := Lib.hid HS.out.bag.lt
      have HSVL := Lib.hid (fun g hg => (HS.out.bag.us.has g (Or.inl hg)).2)
      have hwd := (Below.refl wr.heap.size wr).drew
      have HST : Hid (∀ wx wy wz, Below wr.heap.size wr wx → OpS w.heap.size wx p sv ps (if (b.has d.i && !d.keep) = true then b.cut d.i.toNat else b) wy → Fr (fun k => wr.heap.size ≤ k) wy wz → OpS w.heap.size wr p sv ps (if (b.has d.i && !d.keep) = true then b.cut d.i.toNat else b) wz ∧ Below w.heap.size w wy ∧ Below w.heap.size w wz) := Lib.hid (fun wx wy wz h1 h2 h3 => by
        have h4 := OpS.lift HS.out.bag h1 h2 h3 (Nat.le_refl _)
        have hbx := HS.out.bag.below h1
        have hwx := HS.out.below.trans (h1.mono HS.out.below.size)
        have h5 := h2.below (N := w.heap.size) hbx.base (svlow hbx) hwx.size
        exact ⟨h4, hwx.trans h5, HS.out.below.trans (h4.below (N := w.heap.size) HS.out.bag.base (svlow HS.out.bag) HS.out.below.size)⟩)
      have HNX : Hid (∀ wz, OpS w.heap.size wr p sv ps (if (b.has d.i && !d.keep) = true then b.cut d.i.toNat else b) wz → ∃ (b' : Bg) (sv' : Value) (ps' : List UV) (tk' : Nat), tk' = (if (b.has d.i && !d.keep) = true then tk + 1 else tk) ∧ CntS w wz p n1 (j + 1) came tk' b' sv' ps') := Lib.hid (fun wz h => by
        by_cases hc : (b.has d.i && !d.keep) = true
        · rw [if_pos hc] at h ⊢
          obtain ⟨sv', ps', h1⟩ := HS.out.took (by simp only [Bool.and_eq_true] at hc; exact hc.1) h
          exact ⟨_, sv', ps', _, rfl, h1⟩
        · rw [if_neg hc] at h ⊢
          obtain ⟨sv', ps', h1⟩ := HS.out.kept h
          exact ⟨_, sv', ps', _, rfl, h1⟩)
      have HI3 : ∀ (a b : Int) (aa : Option Addr) (nn cc : Nat), Hid ((Try.prog.info? 34).map (·.size) = some (#[.int .i64 a, .int .i64 b, .slice aa nn cc] : Array Value).size) := fun a b aa nn cc => Lib.hid (infoU3 _ rfl)
      obtain ⟨i4, i5⟩ := HCE.out wr HS.out.below
      clear hrg hbz hact hbl HS hlob
      generalize hH : b.has d.i = H at *
      generalize d.keep = KP at *
      generalize d.i = di at *
      clear hH
      go_wp2_with fail
      refine wp_region_held_drew (S := fun W => W.cell? ⟨g, off + j * 6 + 4, none⟩ = some (.int .i64 di) ∧ W.cell? ⟨g, off + j * 6 + 5, none⟩ = some (.bool KP)) (by kernel_rfl) (HCE.out _ (HBW.out.drew)) (fun _ => ?_)
      refine hh_take 0 (some 58) (.pointer (some ⟨p, 0, none⟩)) rfl rfl (by kernel_rfl) (by kernel_rfl) (by kernel_rfl) (fun _ _ _ h => h) rfl (fun _ _ => rfl) (HCE.out _ (HBW.out.drew)) ?_
      simp only [Act.put, List.setIfInBounds_toArray, List.set_cons_zero, List.set_cons_succ]
      refine hh_take 1 (some 59) (.slice (some ⟨g, off, none⟩) l.length vc) rfl rfl (by kernel_rfl) (by kernel_rfl) (by kernel_rfl) (fun _ _ _ h => h) rfl (fun _ _ => rfl) (HCE.out _ (HBW.out.drew)) ?_
      simp only [Act.put, List.setIfInBounds_toArray, List.set_cons_zero, List.set_cons_succ]
      refine hh_take 2 (some 60) (.int .i64 (j : Int)) rfl rfl (by kernel_rfl) (by kernel_rfl) (by kernel_rfl) (fun _ _ _ h => h) rfl (fun _ _ => rfl) (HCE.out _ (HBW.out.drew)) ?_
      simp only [Act.put, List.setIfInBounds_toArray, List.set_cons_zero, List.set_cons_succ]
      refine hh_take 3 (some 61) (.pointer (some ⟨g, off + j * 6, none⟩)) rfl rfl (by kernel_rfl) (by kernel_rfl) (by kernel_rfl) (fun _ _ _ h => h) rfl (fun W _ => ex_index 22 (.tmp 59) (.tmp 60) rfl _ _ _ rfl rfl (run_index_call W g off _ vc j hjl hl)) (HCE.out _ (HBW.out.drew)) ?_
      simp only [Act.put, List.setIfInBounds_toArray, List.set_cons_zero, List.set_cons_succ]
      refine hh_take 4 (some 62) (.pointer (some ⟨g, off + j * 6 + 4, none⟩)) rfl rfl (by kernel_rfl) (by kernel_rfl) (by kernel_rfl) (fun _ _ _ h => h) rfl (fun _ _ => by kernel_rfl) (HCE.out _ (HBW.out.drew)) ?_
      simp only [Act.put, List.setIfInBounds_toArray, List.set_cons_zero, List.set_cons_succ]
      refine hh_take 5 (some 63) (.int .i64 di) rfl rfl (by kernel_rfl) (by kernel_rfl) (by kernel_rfl) (fun _ _ _ h => h) rfl (fun W hW => ex_load 3 (.tmp 62) rfl _ _ rfl (run_load_int W _ _ _ hW.1)) (HCE.out _ (HBW.out.drew)) ?_
      simp only [Act.put, List.setIfInBounds_toArray, List.set_cons_zero, List.set_cons_succ]
      refine hh_take 6 (some 64) (.slice (some ⟨g, off, none⟩) l.length vc) rfl rfl (by kernel_rfl) (by kernel_rfl) (by kernel_rfl) (fun _ _ _ h => h) rfl (fun _ _ => rfl) (HCE.out _ (HBW.out.drew)) ?_
      simp only [Act.put, List.setIfInBounds_toArray, List.set_cons_zero, List.set_cons_succ]
      refine hh_take 7 (some 65) (.int .i64 (j : Int)) rfl rfl (by kernel_rfl) (by kernel_rfl) (by kernel_rfl) (fun _ _ _ h => h) rfl (fun _ _ => rfl) (HCE.out _ (HBW.out.drew)) ?_
      simp only [Act.put, List.setIfInBounds_toArray, List.set_cons_zero, List.set_cons_succ]
      refine hh_take 8 (some 66) (.pointer (some ⟨g, off + j * 6, none⟩)) rfl rfl (by kernel_rfl) (by kernel_rfl) (by kernel_rfl) (fun _ _ _ h => h) rfl (fun W _ => ex_index 22 (.tmp 64) (.tmp 65) rfl _ _ _ rfl rfl (run_index_call W g off _ vc j hjl hl)) (HCE.out _ (HBW.out.drew)) ?_
      simp only [Act.put, List.setIfInBounds_toArray, List.set_cons_zero, List.set_cons_succ]
      refine hh_take 9 (some 67) (.pointer (some ⟨g, off + j * 6 + 5, none⟩)) rfl rfl (by kernel_rfl) (by kernel_rfl) (by kernel_rfl) (fun _ _ _ h => h) rfl (fun _ _ => by kernel_rfl) (HCE.out _ (HBW.out.drew)) ?_
      simp only [Act.put, List.setIfInBounds_toArray, List.set_cons_zero, List.set_cons_succ]
      refine hh_take 10 (some 68) (.bool KP) rfl rfl (by kernel_rfl) (by kernel_rfl) (by kernel_rfl) (fun _ _ _ h => h) rfl (fun W hW => ex_load 4 (.tmp 67) rfl _ _ rfl (run_load_bool W _ _ _ hW.2)) (HCE.out _ (HBW.out.drew)) ?_
      simp only [Act.put, List.setIfInBounds_toArray, List.set_cons_zero, List.set_cons_succ]
      refine hh_two 11 15 (by kernel_rfl) rfl rfl rfl rfl (fun K hK => wp_callsE (some 69) rfl 11 _ (ex_call3h 11 (.tmp 58) (.tmp 63) (.tmp 68) _ rfl _ _ _ rfl rfl rfl (fun _ _ => rfl)) _ (HCT.out _ hwd) (fun v2 w2 hR => hK _ _ (by obtain ⟨_, _, _, _, _, _, _, _, hop⟩ := hR; exact HCE.out _ (HST.out _ _ _ hwd hop (Fr.refl _ _)).2.1) ?_)) (fun K hK => wp_runsh (some 11) rfl (ex_alloc 34 rfl _ (zero_und _)) (hK _ _ (HCE.out _ (HBW.out.drew.alloc HBW.out.drew.size _)) ?_))
      · clear hK K
        simp only [Act.put, List.setIfInBounds_toArray, List.set_cons_zero, List.set_cons_succ]
        obtain ⟨xs, xd, aa, nn, cc, f, rfl, hf0, hop⟩ := hR
        have HB2 := (HST.out _ _ _ hwd hop (Fr.refl _ _)).2.1
        refine hh_take 12 (some 57) (.tuple #[.agg #[.int .i64 xs, .int .i64 xd, .slice aa nn cc], .int .i64 f]) rfl rfl (by kernel_rfl) (by kernel_rfl) (by kernel_rfl) (fun _ _ _ h => h) rfl (fun _ _ => rfl) (HCE.out _ HB2) ?_
        simp only [Act.put, List.setIfInBounds_toArray, List.set_cons_zero, List.set_cons_succ]
        refine hh_take 13 (some 70) (.agg #[.int .i64 xs, .int .i64 xd, .slice aa nn cc]) rfl rfl (by kernel_rfl) (by kernel_rfl) (by kernel_rfl) (fun _ _ _ h => h) rfl (fun _ _ => by first | rfl | kernel_rfl | go_simp) (HCE.out _ HB2) ?_
        simp only [Act.put, List.setIfInBounds_toArray, List.set_cons_zero, List.set_cons_succ]
        refine hh_take 14 (some 71) (.int .i64 f) rfl rfl (by kernel_rfl) (by kernel_rfl) (by kernel_rfl) (fun _ _ _ h => h) rfl (fun _ _ => by first | rfl | kernel_rfl | go_simp) (HCE.out _ HB2) ?_
        simp only [Act.put, List.setIfInBounds_toArray, List.set_cons_zero, List.set_cons_succ]
        refine hh_one 15 (by kernel_rfl) rfl rfl (fun K hK => wp_runsh (some 11) rfl (ex_alloc 34 rfl _ (zero_und _)) (hK _ _ (HCE.out _ (HB2.alloc HB2.size _)) ?_))
        clear hK K
        simp only [Act.put, List.setIfInBounds_toArray, List.set_cons_zero, List.set_cons_succ]
        have hfn : Fr (fun k => wr.heap.size ≤ k) w2 (w2.alloc (.cells #[.int .i64 0, .int .i64 0, .slice none 0 0] 34)) := Fr.of_below _ ((Below.refl _ w2).alloc (Nat.le_refl _) _)
        have hrN : (w2.alloc (.cells #[.int .i64 0, .int .i64 0, .slice none 0 0] 34)).heap[w2.heap.size]? = some (.cells #[.int .i64 0, .int .i64 0, .slice none 0 0] 34 (0, 0)) := heap_alloc_new w2 _
        have HBN := HB2.alloc HB2.size (.cells #[.int .i64 0, .int .i64 0, .slice none 0 0] 34)
        have hN : wr.heap.size ≤ w2.heap.size := by have hd := (hop : OpS _ _ _ _ _ _ _); obtain ⟨_, _, _, hfo, _⟩ := hd; exact hfo.size
        generalize w2.alloc (.cells #[.int .i64 0, .int .i64 0, .slice none 0 0] 34) = WN at *
        obtain ⟨N, hNN⟩ : ∃ N, w2.heap.size = N := ⟨_, rfl⟩
        rw [hNN] at hrN hN ⊢
        obtain ⟨WZ, hWZ⟩ : ∃ WZ, WN.setRow N #[.int .i64 xs, .int .i64 xd, .slice aa nn cc] = WZ := ⟨_, rfl⟩
        have hfz : Fr (fun k => wr.heap.size ≤ k) w2 WZ := by
          rw [← hWZ]
          exact ⟨hfn.os, hfn.tape, hfn.output, by rw [setRow_size]; exact hfn.size, fun k hk hn => (setRow_other _ _ _ _ (fun e => hn (by omega))).trans (hfn.block k hk hn)⟩
        obtain ⟨hopz, -, hbz⟩ := HST.out _ _ _ hwd hop hfz
        refine hh_one 16 (by kernel_rfl) rfl rfl (fun K hK => wp_store_row 34 (.tmp 11) (.tmp 70) rfl N _ rfl rfl 34 _ hrN (HI3 _ _ _ _ _).out rfl (cellsU3 _ _ _ ⟨_, _, _, rfl⟩) ?_)
        rw [hWZ]
        refine hK _ _ (HCE.out _ hbz) ?_
        clear hK K
        simp only [Act.put]
        refine hh_take 17 (some 12) (.int .i64 f) rfl rfl (by kernel_rfl) (by kernel_rfl) (by kernel_rfl) (fun _ _ _ h => h) rfl (fun _ _ => rfl) (HCE.out _ hbz) ?_
        simp only [Act.put, List.setIfInBounds_toArray, List.set_cons_zero, List.set_cons_succ]
        refine wpAnyH_done (by kernel_rfl) ?_ _
        obtain ⟨b', sv', ps', tk', htk, hT⟩ := HNX.out _ hopz
        obtain ⟨i4, i5⟩ := HCE.out _ hbz
        have HT := Lib.hid hT
        clear hopz hbz hfz hWZ hT hrN hfn hop HBN HNX HST HCT HI3 HCL
        cases H with
        | false =>
          rw [Bool.false_and, if_neg (by simp)] at htk
          rw [htk] at HT
          clear htk
          have hs := HT.out
          have HLn := Lib.hid (len_any _ _ _ _ _ _ hs.bag)
          have HLo := Lib.hid (lost_any _ _ _ _ _ _ hs.bag)
          have hfit : ¬ (n1 : Int) < (b'.us.length : Int) := by have := hs.fits; omega
          have hsum : ((came : Int) != (b'.us.length : Int) + (tk : Int) + (b'.lost : Int)) = false := by rw [bne_eq_false_iff_eq]; have := hs.sum; first | omega | (have := HTK.out; omega)
          have hul : b'.us.length ≤ 48 := by have := hs.fits; omega
          have hll : b'.lost ≤ 151 := by have := hs.sum; have := hs.cj; omega
          clear hs
          go_wp2_with fail
          refine HLn.out.mono ?_
          rintro e w7 ⟨rfl, rfl⟩
          go_wp2_with fail
          refine HLn.out.mono ?_
          rintro e w7 ⟨rfl, rfl⟩
          go_wp2_with fail
          refine HLo.out.mono ?_
          rintro e w7 ⟨rfl, rfl⟩
          clear HLn HLo
          go_wp2
          go_roundw
          case rel => exact ⟨j + 1, _, _, b', sv', ps', by omega, by omega, rfl, rfl, by go_num, HT⟩
          case measure => simp [intOf]; omega
        | true =>
          cases KP with
          | true =>
            rw [if_neg (by simp)] at htk
            rw [htk] at HT
            clear htk
            have hs := HT.out
            have HLn := Lib.hid (len_any _ _ _ _ _ _ hs.bag)
            have HLo := Lib.hid (lost_any _ _ _ _ _ _ hs.bag)
            have hfit : ¬ (n1 : Int) < (b'.us.length : Int) := by have := hs.fits; omega
            have hsum : ((came : Int) != (b'.us.length : Int) + (tk : Int) + (b'.lost : Int)) = false := by rw [bne_eq_false_iff_eq]; have := hs.sum; first | omega | (have := HTK.out; omega)
            have hul : b'.us.length ≤ 48 := by have := hs.fits; omega
            have hll : b'.lost ≤ 151 := by have := hs.sum; have := hs.cj; omega
            clear hs
            go_wp2_with fail
            refine HLn.out.mono ?_
            rintro e w7 ⟨rfl, rfl⟩
            go_wp2_with fail
            refine HLn.out.mono ?_
            rintro e w7 ⟨rfl, rfl⟩
            go_wp2_with fail
            refine HLo.out.mono ?_
            rintro e w7 ⟨rfl, rfl⟩
            clear HLn HLo
            go_wp2
            go_roundw
            case rel => exact ⟨j + 1, _, _, b', sv', ps', by omega, by omega, rfl, rfl, by go_num, HT⟩
            case measure => simp [intOf]; omega
          | false =>
            rw [if_pos (by simp)] at htk
            have HTK := Lib.hid htk
            clear htk
            have hs := HT.out
            have HLn := Lib.hid (len_any _ _ _ _ _ _ hs.bag)
            have HLo := Lib.hid (lost_any _ _ _ _ _ _ hs.bag)
            have hfit : ¬ (n1 : Int) < (b'.us.length : Int) := by have := hs.fits; omega
            have hsum : ((came : Int) != (b'.us.length : Int) + ((tk : Int) + 1) + (b'.lost : Int)) = false := by rw [bne_eq_false_iff_eq]; have := hs.sum; first | omega | (have := HTK.out; omega)
            have hul : b'.us.length ≤ 48 := by have := hs.fits; omega
            have hll : b'.lost ≤ 151 := by have := hs.sum; have := hs.cj; omega
            clear hs
            go_wp2_with fail
            refine HLn.out.mono ?_
            rintro e w7 ⟨rfl, rfl⟩
            go_wp2_with fail
            refine HLn.out.mono ?_
            rintro e w7 ⟨rfl, rfl⟩
            go_wp2_with fail
            refine HLo.out.mono ?_
            rintro e w7 ⟨rfl, rfl⟩
            clear HLn HLo
            go_wp2
            go_roundw
            case rel => exact ⟨j + 1, _, _, b', sv', ps', by omega, by omega, rfl, by rw [HTK.out]; push_cast; rfl, by go_num, HT⟩
            case measure => simp [intOf]; omega
      · clear hK K
        simp only [Act.put, List.setIfInBounds_toArray, List.set_cons_zero, List.set_cons_succ]
        have hrN0 : (wr.drew.alloc (.cells #[.int .i64 0, .int .i64 0, .slice none 0 0] 34)).heap[wr.heap.size]? = some (.cells #[.int .i64 0, .int .i64 0, .slice none 0 0] 34 (0, 0)) := heap_alloc_new wr.drew _
        have hba : Below wr.heap.size wr (wr.drew.alloc (.cells #[.int .i64 0, .int .i64 0, .slice none 0 0] 34)) := hwd.alloc (Nat.le_refl _) _
        rw [show wr.drew.heap.size = wr.heap.size from rfl]
        generalize wr.drew.alloc (.cells #[.int .i64 0, .int .i64 0, .slice none 0 0] 34) = WA at *
        refine hh_one 11 (by kernel_rfl) rfl rfl (fun K hK => wp_callsE (some 69) rfl 11 _ (ex_call3h 11 (.tmp 58) (.tmp 63) (.tmp 68) _ rfl _ _ _ rfl rfl rfl (fun _ _ => rfl)) _ (HCT.out _ hba) (fun v2 w2 hR => hK _ _ (by obtain ⟨_, _, _, _, _, _, _, _, hop⟩ := hR; exact HCE.out _ (HST.out _ _ _ hba hop (Fr.refl _ _)).2.1) ?_))
        clear hK K
        simp only [Act.put, List.setIfInBounds_toArray, List.set_cons_zero, List.set_cons_succ]
        obtain ⟨xs, xd, aa, nn, cc, f, rfl, hf0, hop⟩ := hR
        have HBN := (HST.out _ _ _ hba hop (Fr.refl _ _)).2.1
        have hplt : p < wr.heap.size := HPL.out
        have hsvlt := HSVL.out
        have hrN : w2.heap[wr.heap.size]? = some (.cells #[.int .i64 0, .int .i64 0, .slice none 0 0] 34 (0, 0)) := by
          obtain ⟨_, _, _, hfo, _⟩ := (hop : OpS _ _ _ _ _ _ _)
          exact (hfo.block _ (Array.getElem?_eq_some_iff.1 hrN0).1 (fun e => by rcases e with e | e; omega; have := hsvlt _ e; omega)).trans hrN0
        have hfn : Fr (fun k => wr.heap.size ≤ k) w2 w2 := Fr.refl _ _
        obtain ⟨WN, hWN⟩ : ∃ WN, WN = w2 := ⟨_, rfl⟩
        obtain ⟨N, hNN⟩ : ∃ N, N = wr.heap.size := ⟨_, rfl⟩
        have hN : wr.heap.size ≤ N := by omega
        rw [← hWN] at hrN HBN
        rw [← hNN] at hrN
        rw [show Fr (fun k => wr.heap.size ≤ k) w2 w2 = Fr (fun k => wr.heap.size ≤ k) w2 WN by rw [hWN]] at hfn
        rw [← hWN, ← hNN]
        refine hh_take 12 (some 57) (.tuple #[.agg #[.int .i64 xs, .int .i64 xd, .slice aa nn cc], .int .i64 f]) rfl rfl (by kernel_rfl) (by kernel_rfl) (by kernel_rfl) (fun _ _ _ h => h) rfl (fun _ _ => rfl) (HCE.out _ HBN) ?_
        simp only [Act.put, List.setIfInBounds_toArray, List.set_cons_zero, List.set_cons_succ]
        refine hh_take 13 (some 70) (.agg #[.int .i64 xs, .int .i64 xd, .slice aa nn cc]) rfl rfl (by kernel_rfl) (by kernel_rfl) (by kernel_rfl) (fun _ _ _ h => h) rfl (fun _ _ => by first | rfl | kernel_rfl | go_simp) (HCE.out _ HBN) ?_
        simp only [Act.put, List.setIfInBounds_toArray, List.set_cons_zero, List.set_cons_succ]
        refine hh_take 14 (some 71) (.int .i64 f) rfl rfl (by kernel_rfl) (by kernel_rfl) (by kernel_rfl) (fun _ _ _ h => h) rfl (fun _ _ => by first | rfl | kernel_rfl | go_simp) (HCE.out _ HBN) ?_
        simp only [Act.put, List.setIfInBounds_toArray, List.set_cons_zero, List.set_cons_succ]
        obtain ⟨WZ, hWZ⟩ : ∃ WZ, WN.setRow N #[.int .i64 xs, .int .i64 xd, .slice aa nn cc] = WZ := ⟨_, rfl⟩
        have hfz : Fr (fun k => wr.heap.size ≤ k) w2 WZ := by
          rw [← hWZ]
          exact ⟨hfn.os, hfn.tape, hfn.output, by rw [setRow_size]; exact hfn.size, fun k hk hn => (setRow_other _ _ _ _ (fun e => hn (by omega))).trans (hfn.block k hk hn)⟩
        obtain ⟨hopz, -, hbz⟩ := HST.out _ _ _ hba hop hfz
        refine hh_one 16 (by kernel_rfl) rfl rfl (fun K hK => wp_store_row 34 (.tmp 11) (.tmp 70) rfl N _ rfl rfl 34 _ hrN (HI3 _ _ _ _ _).out rfl (cellsU3 _ _ _ ⟨_, _, _, rfl⟩) ?_)
        rw [hWZ]
        refine hK _ _ (HCE.out _ hbz) ?_
        clear hK K
        simp only [Act.put]
        refine hh_take 17 (some 12) (.int .i64 f) rfl rfl (by kernel_rfl) (by kernel_rfl) (by kernel_rfl) (fun _ _ _ h => h) rfl (fun _ _ => rfl) (HCE.out _ hbz) ?_
        simp only [Act.put, List.setIfInBounds_toArray, List.set_cons_zero, List.set_cons_succ]
        refine wpAnyH_done (by kernel_rfl) ?_ _
        obtain ⟨b', sv', ps', tk', htk, hT⟩ := HNX.out _ hopz
        obtain ⟨i4, i5⟩ := HCE.out _ hbz
        have HT := Lib.hid hT
        clear hopz hbz hfz hWZ hT hrN hfn hop HBN HNX HST HCT HI3 HCL
        cases H with
        | false =>
          rw [Bool.false_and, if_neg (by simp)] at htk
          rw [htk] at HT
          clear htk
          have hs := HT.out
          have HLn := Lib.hid (len_any _ _ _ _ _ _ hs.bag)
          have HLo := Lib.hid (lost_any _ _ _ _ _ _ hs.bag)
          have hfit : ¬ (n1 : Int) < (b'.us.length : Int) := by have := hs.fits; omega
          have hsum : ((came : Int) != (b'.us.length : Int) + (tk : Int) + (b'.lost : Int)) = false := by rw [bne_eq_false_iff_eq]; have := hs.sum; first | omega | (have := HTK.out; omega)
          have hul : b'.us.length ≤ 48 := by have := hs.fits; omega
          have hll : b'.lost ≤ 151 := by have := hs.sum; have := hs.cj; omega
          clear hs
          go_wp2_with fail
          refine HLn.out.mono ?_
          rintro e w7 ⟨rfl, rfl⟩
          go_wp2_with fail
          refine HLn.out.mono ?_
          rintro e w7 ⟨rfl, rfl⟩
          go_wp2_with fail
          refine HLo.out.mono ?_
          rintro e w7 ⟨rfl, rfl⟩
          clear HLn HLo
          go_wp2
          go_roundw
          case rel => exact ⟨j + 1, _, _, b', sv', ps', by omega, by omega, rfl, rfl, by go_num, HT⟩
          case measure => simp [intOf]; omega
        | true =>
          cases KP with
          | true =>
            rw [if_neg (by simp)] at htk
            rw [htk] at HT
            clear htk
            have hs := HT.out
            have HLn := Lib.hid (len_any _ _ _ _ _ _ hs.bag)
            have HLo := Lib.hid (lost_any _ _ _ _ _ _ hs.bag)
            have hfit : ¬ (n1 : Int) < (b'.us.length : Int) := by have := hs.fits; omega
            have hsum : ((came : Int) != (b'.us.length : Int) + (tk : Int) + (b'.lost : Int)) = false := by rw [bne_eq_false_iff_eq]; have := hs.sum; first | omega | (have := HTK.out; omega)
            have hul : b'.us.length ≤ 48 := by have := hs.fits; omega
            have hll : b'.lost ≤ 151 := by have := hs.sum; have := hs.cj; omega
            clear hs
            go_wp2_with fail
            refine HLn.out.mono ?_
            rintro e w7 ⟨rfl, rfl⟩
            go_wp2_with fail
            refine HLn.out.mono ?_
            rintro e w7 ⟨rfl, rfl⟩
            go_wp2_with fail
            refine HLo.out.mono ?_
            rintro e w7 ⟨rfl, rfl⟩
            clear HLn HLo
            go_wp2
            go_roundw
            case rel => exact ⟨j + 1, _, _, b', sv', ps', by omega, by omega, rfl, rfl, by go_num, HT⟩
            case measure => simp [intOf]; omega
          | false =>
            rw [if_pos (by simp)] at htk
            have HTK := Lib.hid htk
            clear htk
            have hs := HT.out
            have HLn := Lib.hid (len_any _ _ _ _ _ _ hs.bag)
            have HLo := Lib.hid (lost_any _ _ _ _ _ _ hs.bag)
            have hfit : ¬ (n1 : Int) < (b'.us.length : Int) := by have := hs.fits; omega
            have hsum : ((came : Int) != (b'.us.length : Int) + ((tk : Int) + 1) + (b'.lost : Int)) = false := by rw [bne_eq_false_iff_eq]; have := hs.sum; first | omega | (have := HTK.out; omega)
            have hul : b'.us.length ≤ 48 := by have := hs.fits; omega
            have hll : b'.lost ≤ 151 := by have := hs.sum; have := hs.cj; omega
            clear hs
            go_wp2_with fail
            refine HLn.out.mono ?_
            rintro e w7 ⟨rfl, rfl⟩
            go_wp2_with fail
            refine HLn.out.mono ?_
            rintro e w7 ⟨rfl, rfl⟩
            go_wp2_with fail
            refine HLo.out.mono ?_
            rintro e w7 ⟨rfl, rfl⟩
            clear HLn HLo
            go_wp2
            go_roundw
            case rel => exact ⟨j + 1, _, _, b', sv', ps', by omega, by omega, rfl, by rw [HTK.out]; push_cast; rfl, by go_num, HT⟩
            case measure => simp [intOf]; omega
    · -- Lose
      have e0 : (d.act == 0) = false := by rw [hact]; rfl
      have e1 : (d.act == 1) = false := by rw [hact]; rfl
      have e2 : (d.act == 2) = true := by rw [hact]; rfl
      have HA := Lib.hid (lose_any w.heap.size p wr b sv ps d.i HS.out.bag (by have := HS.out.fits; omega) (by omega))
      have a4 : wr.cell? ⟨g, off + j * 6 + 4, none⟩ = some (.int .i64 d.i) := hrg 4 _ rfl
      have HADD : Hid (∀ w', OpS w.heap.size wr p sv ps (b.lose d.i).2 w' → ∃ sv' ps', CntS w w' p n1 (j + 1) came tk (b.lose d.i).2 sv' ps') := Lib.hid (fun w' h => HS.out.lost h)
      obtain ⟨b', hb'⟩ : ∃ b', (b.lose d.i).2 = b' := ⟨_, rfl⟩
      rw [hb'] at HA HADD
      generalize (b.lose d.i).1 = E at *
      clear hrg hbz hb' hact HS hbl
      go_wp2_with fail
      refine HA.out.mono ?_
      rintro e w3 ⟨rfl, hop⟩
      obtain ⟨sv', ps', hT⟩ := HADD.out w3 hop
      have HT := Lib.hid hT
      clear hop hT HADD HA a0 a4
      have hs := HT.out
      have HLn := Lib.hid (len_any _ _ _ _ _ _ hs.bag)
      have HLo := Lib.hid (lost_any _ _ _ _ _ _ hs.bag)
      have hfit : ¬ (n1 : Int) < (b'.us.length : Int) := by have := hs.fits; omega
      have hsum : ((came : Int) != (b'.us.length : Int) + (tk : Int) + (b'.lost : Int)) = false := by rw [bne_eq_false_iff_eq]; have := hs.sum; first | omega | (have := HTK.out; omega)
      have hul : b'.us.length ≤ 48 := by have := hs.fits; omega
      have hll : b'.lost ≤ 151 := by have := hs.sum; have := hs.cj; omega
      clear hs
      go_wp2_with fail
      refine HLn.out.mono ?_
      rintro e w7 ⟨rfl, rfl⟩
      go_wp2_with fail
      refine HLn.out.mono ?_
      rintro e w7 ⟨rfl, rfl⟩
      go_wp2_with fail
      refine HLo.out.mono ?_
      rintro e w7 ⟨rfl, rfl⟩
      clear HLn HLo
      go_wp2
      go_roundw
      case rel => exact ⟨j + 1, _, _, b', sv', ps', by omega, by omega, rfl, rfl, by go_num, HT⟩
      case measure => simp [intOf]; omega
    · -- nothing
      have e0 : (d.act == 0) = false := by rw [beq_eq_false_iff_ne]; exact hact0
      have e1 : (d.act == 1) = false := by rw [beq_eq_false_iff_ne]; exact hact1
      have e2 : (d.act == 2) = false := by rw [beq_eq_false_iff_ne]; exact hact2
      obtain ⟨sv', ps', hT⟩ := HS.out.kept (OpS.same HS.out.bag (Below.refl _ wr))
      have HT := Lib.hid hT
      obtain ⟨b', rfl⟩ : ∃ b', b' = b := ⟨_, rfl⟩
      clear hrg hbz hact0 hact1 hact2 HS hT hbl
      have hs := HT.out
      have HLn := Lib.hid (len_any _ _ _ _ _ _ hs.bag)
      have HLo := Lib.hid (lost_any _ _ _ _ _ _ hs.bag)
      have hfit : ¬ (n1 : Int) < (b'.us.length : Int) := by have := hs.fits; omega
      have hsum : ((came : Int) != (b'.us.length : Int) + (tk : Int) + (b'.lost : Int)) = false := by rw [bne_eq_false_iff_eq]; have := hs.sum; first | omega | (have := HTK.out; omega)
      have hul : b'.us.length ≤ 48 := by have := hs.fits; omega
      have hll : b'.lost ≤ 151 := by have := hs.sum; have := hs.cj; omega
      clear hs
      go_wp2_with fail
      refine HLn.out.mono ?_
      rintro e w7 ⟨rfl, rfl⟩
      go_wp2_with fail
      refine HLn.out.mono ?_
      rintro e w7 ⟨rfl, rfl⟩
      go_wp2_with fail
      refine HLo.out.mono ?_
      rintro e w7 ⟨rfl, rfl⟩
      clear HLn HLo
      go_wp2
      go_roundw
      case rel => exact ⟨j + 1, _, _, b', sv', ps', by omega, by omega, rfl, rfl, by go_num, HT⟩
      case measure => simp [intOf]; omega
end Go.Proofs.Ytdcpdeiljabkaaa
