/- Bag: BagTakes. -/
import Derived.Test.YtdcpdeiljabkaaaN9
namespace Go.Proofs.Ytdcpdeiljabkaaa
open Go Go.RowKit

/-- The bag, and two lists of messages: what came, what was taken; no two of them lie in one block. -/
structure TkM (N : Nat) (wr : World) (p : Nat) (b : Bg) (sv : Value) (ps : List UV) (cv : Value) (cs : List UV) (tv : Value) (ts : List UV) : Prop where
  bag : BagAt N wr p b sv ps
  came : UvAt N wr cv cs
  taken : UvAt N wr tv ts
  s1 : ∀ g, (g = p ∨ HasU sv ps g) → ¬ HasB cv cs g ∧ ¬ HasB tv ts g
  s2 : ∀ g, cv.ownBlock = some g → ¬ HasB tv ts g
  s3 : ∀ g, tv.ownBlock = some g → ¬ HasB cv cs g
theorem TkM.low {N p : Nat} {wr : World} {b : Bg} {sv : Value} {ps : List UV} {cv : Value} {cs : List UV} {tv : Value} {ts : List UV} (h : TkM N wr p b sv ps cv cs tv ts) {w' : World} (hb : Below wr.heap.size wr w') : TkM N w' p b sv ps cv cs tv ts :=
  ⟨h.bag.below hb, h.came.below hb, h.taken.below hb, h.s1, h.s2, h.s3⟩
theorem TkM.op {N p : Nat} {wr w' : World} {b b' : Bg} {sv : Value} {ps : List UV} {cv : Value} {cs : List UV} {tv : Value} {ts : List UV} (h : TkM N wr p b sv ps cv cs tv ts) (hop : OpR N wr p sv ps b' w') : ∃ sv' ps', TkM N w' p b' sv' ps' cv cs tv ts ∧ ∀ g, HasU sv' ps' g → HasU sv ps g ∨ wr.heap.size ≤ g := by
  obtain ⟨sv', ps', h1, h2, h3⟩ := hop
  have hk : ∀ g, (g = p ∨ sv.ownBlock = some g) → ¬ HasB cv cs g ∧ ¬ HasB tv ts g := fun g hg => h.s1 g (hg.imp id (fun e => Or.inl e))
  refine ⟨sv', ps', ⟨h1, h.came.kept h2.size (fun g hg => h2.block g (h.came.lt g hg) (fun e => (hk g e).1 hg)), h.taken.kept h2.size (fun g hg => h2.block g (h.taken.lt g hg) (fun e => (hk g e).2 hg)), fun g hg => ?_, h.s2, h.s3⟩, h3⟩
  rcases hg with rfl | hg
  · exact h.s1 _ (Or.inl rfl)
  · rcases h3 g hg with h4 | h4
    · exact h.s1 g (Or.inr h4)
    · exact ⟨fun e => by have := h.came.lt g e; omega, fun e => by have := h.taken.lt g e; omega⟩
/-- One more is laid behind what came. -/
theorem TkM.more {N p : Nat} {wr w' : World} {b : Bg} {sv : Value} {ps : List UV} {cv cv' : Value} {cs : List UV} {tv : Value} {ts : List UV} {x : UV} (h : TkM N wr p b sv ps cv cs tv ts)
    (hu : UvAt N w' cv' (cs ++ [x])) (hg : wr.grownBy w' cv.ownBlock) (hw : ∀ g, cv'.ownBlock = some g → cv.ownBlock = some g ∨ wr.heap.size < g)
    (hx : x.1.bytes ≠ [] → ∀ g, x.2.ownBlock = some g → (g ≠ p ∧ ¬ HasU sv ps g) ∧ tv.ownBlock ≠ some g) : TkM N w' p b sv ps cv' (cs ++ [x]) tv ts := by
  have hcp : ∀ g, cv.ownBlock = some g → ¬ (g = p ∨ HasU sv ps g) := fun g hg e => (h.s1 g e).1 (Or.inl hg)
  have hplt := h.bag.lt
  have hlt : ∀ g, g = p ∨ HasU sv ps g → g < wr.heap.size := fun g e => by rcases e with rfl | e; exact hplt; exact (h.bag.us.has g e).2
  refine ⟨h.bag.kept hg.size (fun g e => hg.block g (hlt g e) (fun e2 => hcp g e2.symm e)), hu, h.taken.kept hg.size (fun g e => hg.block g (h.taken.lt g e) (fun e2 => h.s2 g e2.symm e)), fun g e => ⟨fun e2 => ?_, (h.s1 g e).2⟩, fun g e e2 => ?_, fun g e e2 => ?_⟩
  · rcases e2 with e2 | ⟨q, hq, hn, e2⟩
    · rcases hw g e2 with e3 | e3
      · exact hcp g e3 e
      · have := hlt g e; omega
    · rcases List.mem_append.1 hq with hq | hq
      · exact (h.s1 g e).1 (Or.inr ⟨q, hq, hn, e2⟩)
      · rw [List.mem_singleton.1 hq] at e2 hn
        rcases e with e | e
        · exact (hx hn g e2).1.1 e
        · exact (hx hn g e2).1.2 e
  · rcases hw g e with e3 | e3
    · exact h.s2 g e3 e2
    · have := h.taken.lt g e2; omega
  · rcases e2 with e2 | ⟨q, hq, hn, e2⟩
    · rcases hw g e2 with e3 | e3
      · exact h.s3 g e (Or.inl e3)
      · have := h.taken.lt g (Or.inl e); omega
    · rcases List.mem_append.1 hq with hq | hq
      · exact h.s3 g e (Or.inr ⟨q, hq, hn, e2⟩)
      · rw [List.mem_singleton.1 hq] at e2 hn
        exact (hx hn g e2).2 e
theorem TkM.swap {N p : Nat} {wr : World} {b : Bg} {sv : Value} {ps : List UV} {cv : Value} {cs : List UV} {tv : Value} {ts : List UV} (h : TkM N wr p b sv ps cv cs tv ts) : TkM N wr p b sv ps tv ts cv cs :=
  ⟨h.bag, h.taken, h.came, fun g e => ⟨(h.s1 g e).2, (h.s1 g e).1⟩, h.s3, h.s2⟩
/-- In plain words: what was taken, and what is in it, came. -/
structure TkP (j : Nat) (b : Bg) (cs ts : List UV) : Prop where
  cnt : ∀ u, cntU u (ts.map (·.1)) + cntU u b.us ≤ cntU u (cs.map (·.1))
  cl : cs.length ≤ j
  tl : ts.length ≤ j
  lo : b.lost ≤ j
  most : b.most = 9
  fits : b.us.length ≤ 9
  bytes : ∀ x ∈ b.us, x.bytes.length ≤ 2006
theorem cntU_cut (u : Und) : ∀ (l : List Und) (k : Nat) (x : Und), l[k]? = some x → cntU u (l.eraseIdx k) + cntU u [x] = cntU u l
  | [], _, _, h => by cases h
  | y :: t, 0, x, h => by
    injection h with h
    subst h
    simp [cntU]
    omega
  | y :: t, k + 1, x, h => by
    have := cntU_cut u t k x h
    show (if sameU y u = true then 1 else 0) + cntU u (t.eraseIdx k) + cntU u [x] = (if sameU y u = true then 1 else 0) + cntU u t
    omega
theorem cntU_mem (l : List Und) (k : Nat) (x : Und) (h : l[k]? = some x) : 1 ≤ cntU x l := by
  have h1 := cntU_cut x l k x h
  have h2 : cntU x [x] = 1 := by unfold cntU cntU; rw [if_pos ((sameU_iff x x).2 rfl)]
  omega
theorem TkP.mono {j : Nat} {b : Bg} {cs ts : List UV} (h : TkP j b cs ts) : TkP (j + 1) b cs ts := ⟨h.cnt, by have := h.cl; omega, by have := h.tl; omega, by have := h.lo; omega, h.most, h.fits, h.bytes⟩
theorem TkP.add0 {j : Nat} {b : Bg} {cs ts : List UV} {x : Und} (h : TkP j b cs ts) (he : ((b.add x).1 == 0) = false) : TkP (j + 1) (b.add x).2 cs ts := by
  rcases add_cases b x with ⟨e1, e2⟩ | ⟨e1, e2, _⟩ | ⟨e1, _⟩
  · rw [e2]; exact h.mono
  · rw [e2]; exact ⟨h.cnt, by have := h.cl; omega, by have := h.tl; omega, by show b.lost + 1 ≤ j + 1; have := h.lo; omega, h.most, h.fits, h.bytes⟩
  · rw [e1] at he; cases he
theorem TkP.add1 {j : Nat} {b : Bg} {cs ts : List UV} {x : Und} {xv : Value} (h : TkP j b cs ts) (he : ((b.add x).1 == 0) = true) : TkP (j + 1) (b.add x).2 (cs ++ [(x, xv)]) ts := by
  rcases add_cases b x with ⟨e1, e2⟩ | ⟨e1, e2, _⟩ | ⟨e1, e2, e3, e4⟩
  · rw [e1] at he; cases he
  · rw [e1] at he; cases he
  · rw [e2]
    refine ⟨fun u => ?_, by have := h.cl; simp; omega, by have := h.tl; omega, by show b.lost ≤ j + 1; have := h.lo; omega, h.most, ?_, fun y hy => ?_⟩
    · have := h.cnt u
      show cntU u (ts.map (·.1)) + cntU u (b.us ++ [x]) ≤ cntU u ((cs ++ [(x, xv)]).map (·.1))
      rw [List.map_append, cntU_app, cntU_app]
      show _ ≤ _ + cntU u [x]
      omega
    · show (b.us ++ [x]).length ≤ 9
      have := h.most
      rw [List.length_append]
      show b.us.length + 1 ≤ 9
      omega
    · rcases List.mem_append.1 hy with hy | hy
      · exact h.bytes y hy
      · rw [List.mem_singleton.1 hy]; exact e4
theorem TkP.cut {j k : Nat} {b : Bg} {cs ts : List UV} {x : Und} {xv : Value} (h : TkP j b cs ts) (hx : b.us[k]? = some x) : TkP (j + 1) (b.cut k) cs (ts ++ [(x, xv)]) := by
  have hl := cut_len b k (List.getElem?_eq_some_iff.1 hx).1
  refine ⟨fun u => ?_, by have := h.cl; omega, by have := h.tl; simp; omega, by show b.lost ≤ j + 1; have := h.lo; omega, h.most, by have := h.fits; omega, cut_mem h.bytes⟩
  have h1 := h.cnt u
  have h2 := cntU_cut u b.us k x hx
  rw [List.map_append, cntU_app]
  show cntU u (ts.map (·.1)) + cntU u [x] + cntU u (b.us.eraseIdx k) ≤ _
  omega
theorem TkP.lose {j : Nat} {b : Bg} {cs ts : List UV} {i : Int} (h : TkP j b cs ts) : TkP (j + 1) (b.lose i).2 cs ts := by
  unfold Bg.lose
  by_cases hi : b.has i = true
  · rw [if_pos hi]
    have hk := has_of hi
    have hl := cut_len b i.toNat hk
    refine ⟨fun u => ?_, by have := h.cl; omega, by have := h.tl; omega, by show b.lost + 1 ≤ j + 1; have := h.lo; omega, h.most, by show (b.cut i.toNat).us.length ≤ 9; have := h.fits; omega, cut_mem h.bytes⟩
    have h1 := h.cnt u
    have h2 := cntU_cut u b.us i.toNat _ (List.getElem?_eq_getElem hk)
    show cntU u (ts.map (·.1)) + cntU u (b.us.eraseIdx i.toNat) ≤ _
    omega
  · rw [if_neg hi]; exact h.mono
theorem TkP.was {j : Nat} {b : Bg} {cs ts : List UV} {k : Nat} {x : Und} (h : TkP j b cs ts) (hx : b.us[k]? = some x) : cntU x (ts.map (·.1)) ≤ cntU x (cs.map (·.1)) ∧ 1 ≤ cntU x (cs.map (·.1)) := by
  have h1 := h.cnt x
  have h2 := cntU_mem b.us k x hx
  omega
theorem TkP.was2 {j : Nat} {b : Bg} {cs ts : List UV} {x : Und} {xv : Value} (h : TkP j b cs (ts ++ [(x, xv)])) : cntU x ((ts ++ [(x, xv)]).map (·.1)) ≤ cntU x (cs.map (·.1)) ∧ 1 ≤ cntU x (cs.map (·.1)) := by
  have h1 := h.cnt x
  have h2 : cntU x [x] = 1 := by unfold cntU cntU; rw [if_pos ((sameU_iff x x).2 rfl)]
  have h3 : cntU x ((ts ++ [(x, xv)]).map (·.1)) = cntU x (ts.map (·.1)) + cntU x [x] := by rw [List.map_append, cntU_app]; rfl
  omega
/-- Where the loop stands. -/
structure TkS (w wr : World) (p j : Nat) (b : Bg) (sv : Value) (ps : List UV) (cv : Value) (cs : List UV) (tv : Value) (ts : List UV) : Prop where
  mem : TkM w.heap.size wr p b sv ps cv cs tv ts
  pl : TkP j b cs ts
  below : Below w.heap.size w wr
theorem OpR.low {N p : Nat} {w wr w' : World} {b b' : Bg} {sv : Value} {ps : List UV} (hb : BagAt N wr p b sv ps) (hw : Below N w wr) (hN : N = w.heap.size) (hop : OpR N wr p sv ps b' w') : Below N w w' := by
  subst hN
  exact hw.trans (hop.below (N := w.heap.size) hb.base (svlow hb) hw.size)
theorem tak_two {B p : Nat} {w w' : World} {b : Bg} {sv : Value} {ps : List UV} {i : Int} {keep : Bool} {e : Ending} (h : TakR B w p b sv ps i keep e w') :
    ∃ (x : Und) (aa : Option Addr) (cc : Nat) (f : Int), e = .returned (.tuple #[.agg #[.int .i64 x.src, .int .i64 x.dst, .slice aa x.bytes.length cc], .int .i64 f]) ∧ (f == 0) = b.has i ∧ (b.has i = true → b.us[i.toNat]? = some x) ∧ Row w.heap.size w' (.slice aa x.bytes.length cc) x.bytes ∧ OpS B w p sv ps (if (b.has i && !keep) = true then b.cut i.toNat else b) w' := by
  rcases h with ⟨h1, rfl, h2⟩ | ⟨x, a, c, h1, hx, rfl, hr, h2⟩
  · exact ⟨⟨0, 0, []⟩, none, 0, 2, rfl, by rw [h1]; rfl, (fun h => by rw [h1] at h; cases h), Row.nil _ _, by rw [h1]; exact h2⟩
  · refine ⟨x, a, c, 0, rfl, by rw [h1]; rfl, fun _ => hx, hr, ?_⟩
    rw [h1]
    cases keep with
    | true => exact h2
    | false => exact h2
theorem ex_callv2 {P : Program} {o : Oper} {a : Act} {w : World} (f : FuncId) (fx x y : Operand) (ts : Array TypeId) (ho : o.op = .call { callee := .value fx, args := #[x, y], argTypes := ts }) (xv yv : Value) (hf : a.eval fx = .func (.func f) #[] #[]) (hx : a.eval x = xv) (hy : a.eval y = yv)
    (hen : ∀ args w, (callFunc f args).run P w = .ok (.enter f args) w) : (execOp a.eval o).run P w = .ok (.enter f #[xv, yv]) w := by
  unfold execOp
  simp [ho, resolve, Deferred.ofValue, invoke, hx, hy, hf, hen, Sem.run_bind, Sem.run_pure, Result.andThen]
set_option maxHeartbeats 16000000 in
set_option maxRecDepth 100000 in
theorem walk_takes (v : Value) (l : List Cl) (w : World) (h : Cls w v l) :
    Calls Try.prog 5 #[v] w fun e w' => e = .returned (.bool true) ∧ Below w.heap.size w w' := by
  have HNEW := Lib.hid (new_any w.heap.size 9 w (by omega) (by omega) (Nat.le_refl _))
  rw [show ((9 : Nat) : Int) = 9 from rfl] at HNEW
  have HC := Lib.hid h
  obtain ⟨va, vc, rfl, hl, _⟩ := id h
  clear h
  go_enter Try.func5, Try.ntmps5
  go_wp2_with fail
  refine HNEW.out.mono ?_
  rintro e w1 ⟨rfl, hB1, hb1⟩
  have HS1 := Lib.hid (⟨⟨hB1, UvAt.nil _ _, UvAt.nil _ _, fun g _ => ⟨hasB_nil g, hasB_nil g⟩, fun g _ => hasB_nil g, fun g _ => hasB_nil g⟩, ⟨fun u => Nat.le_refl _, Nat.le_refl _, Nat.le_refl _, Nat.le_refl _, rfl, Nat.zero_le _, (fun x hx => by cases hx)⟩, hb1⟩ : TkS w w1 w.heap.size 0 ⟨9, 0, []⟩ (.slice none 0 0) [] (.slice none 0 0) [] (.slice none 0 0) [])
  obtain ⟨p, hp⟩ : ∃ p, w.heap.size = p := ⟨_, rfl⟩
  rw [show TkS w w1 w.heap.size = TkS w w1 p by rw [hp]] at HS1
  rw [hp]
  clear hB1 hb1 HNEW hp
  go_wp2_with fail
  go_loopw [5, 6, 8] (fun c2 t2 iv wr => ∃ (j : Nat) (b : Bg) (sv : Value) (ps : List UV) (ca : Option Addr) (cc : Nat) (cs : List UV) (ta : Option Addr) (tc : Nat) (ts : List UV), j ≤ l.length ∧ j ≤ 100 ∧ c2 = .slice ca cs.length cc ∧ t2 = .slice ta ts.length tc ∧ iv = .int .i64 (j : Int) ∧ Hid (TkS w wr p j b sv ps (.slice ca cs.length cc) cs (.slice ta ts.length tc) ts)) (fun _ _ iv _ => 100 - (intOf iv).toNat)
  case atStart => exact ⟨0, _, _, _, none, 0, [], none, 0, [], Nat.zero_le _, by omega, rfl, rfl, rfl, HS1⟩
  case round =>
    clear HS1
    obtain ⟨j, b, sv, ps, ca, cc, cs, ta, tc, ts, hj, hj2, rfl, rfl, rfl, HS⟩ := hrel
    by_cases hlt : j < l.length ∧ j < 100
    case neg =>
      have hcase : ¬ (j : Int) < (l.length : Int) ∨ ((j : Int) < (l.length : Int) ∧ ¬ (j : Int) < 100) := by omega
      have HLV := Lib.hid (live_any wr)
      have HBB := Lib.hid HS.out.below
      clear HS hlt
      rcases hcase with h1 | ⟨h1, h2⟩
      all_goals
        go_wp2_with fail
        refine HLV.out.mono ?_
        rintro e w9 ⟨rfl, hb9⟩
        have HE := Lib.hid (HBB.out.trans (hb9.mono HBB.out.size))
        clear hb9 HLV
        go_wp2
        go_ret
        exact ⟨rfl, HE.out⟩
    obtain ⟨hjl, hj100⟩ := hlt
    have hjl' : (j : Int) < (l.length : Int) := by omega
    have hj100' : (j : Int) < 100 := by omega
    obtain ⟨d, hd⟩ : ∃ d, l[j]? = some d := ⟨_, List.getElem?_eq_getElem hjl⟩
    obtain ⟨g, off, bv, hga, hg, hcl⟩ := cls_at HC.out hd
    subst hga
    have HCL : Hid (∀ u, Below w.heap.size w u → u.rangeAt g (off + j * 6) (clS d bv) ∧ Byz u bv d.x.bytes) := Lib.hid (fun u hu => ⟨fun i y hy => (hu.cell (p := ⟨g, off + j * 6 + i, none⟩) hg).trans (hcl.r i y hy), hcl.b.below hu⟩)
    have hbl := hcl.bl
    have HBLT : Hid (d.x.bytes ≠ [] → ∀ gg, bv.ownBlock = some gg → gg < w.heap.size) := Lib.hid (fun hn gg hgg => hcl.b.lt gg hgg hn)
    obtain ⟨xa, xc, hbv⟩ := hcl.b.1
    clear hcl hd hg
    obtain ⟨hrg, hbz⟩ := HCL.out wr HS.out.below
    have hcsl : cs.length ≤ 100 := by have := HS.out.pl.cl; omega
    have htsl : ts.length ≤ 100 := by have := HS.out.pl.tl; omega
    have a0 : wr.cell? ⟨g, off + j * 6, none⟩ = some (.int .i64 d.act) := hrg 0 _ rfl
    have HRU : Hid (∀ u, Below w.heap.size w u → u.rangeAt g (off + j * 6 + 1) [.int .i64 d.x.src, .int .i64 d.x.dst, bv]) := Lib.hid (fun u hu i y hy => by
      have := (HCL.out u hu).1 (1 + i) y (by unfold clS; rw [Nat.add_comm, List.getElem?_cons_succ]; exact List.getElem?_append_left (l₁ := [.int .i64 d.x.src, .int .i64 d.x.dst, bv]) (List.getElem?_eq_some_iff.1 hy).1 ▸ hy)
      rw [Nat.add_assoc]
      exact this)
    have HI3 : ∀ (a b : Int) (aa : Option Addr) (nn cc : Nat), Hid ((Try.prog.info? 34).map (·.size) = some (#[.int .i64 a, .int .i64 b, .slice aa nn cc] : Array Value).size) := fun a b aa nn cc => Lib.hid (infoU3 _ rfl)
    have HL3 : Hid ((Try.prog.info? 34).map (·.size) = some ([.int .i64 d.x.src, .int .i64 d.x.dst, bv] : List Value).length) := Lib.hid (by show _ = some 3; kernel_rfl)
    rw [hbv] at HRU HL3
    rcases (show d.act = 0 ∨ d.act = 1 ∨ d.act = 2 ∨ (d.act ≠ 0 ∧ d.act ≠ 1 ∧ d.act ≠ 2) by omega) with hact | hact | hact | ⟨hact0, hact1, hact2⟩
    · -- Add
      have e0 : (d.act == 0) = true := by rw [hact]; rfl
      have HA := Lib.hid (add_any w.heap.size p wr b sv ps d.x bv HS.out.mem.bag hbz hbl (by have := HS.out.pl.fits; omega) (by have := HS.out.pl.most; omega) (by have := HS.out.pl.lo; omega))
      unfold AddR at HA
      have HNO : Hid (∀ w', ((b.add d.x).1 == 0) = false → OpR w.heap.size wr p sv ps (b.add d.x).2 w' → ∃ sv' ps', TkS w w' p (j + 1) (b.add d.x).2 sv' ps' (.slice ca cs.length cc) cs (.slice ta ts.length tc) ts) := Lib.hid (fun w' he hop => by
        have hbb := OpR.low HS.out.mem.bag HS.out.below rfl hop
        obtain ⟨sv', ps', h1, _⟩ := HS.out.mem.op hop
        exact ⟨sv', ps', h1, HS.out.pl.add0 he, hbb⟩)
      have HYES : Hid (∀ w', ((b.add d.x).1 == 0) = true → OpR w.heap.size wr p sv ps (b.add d.x).2 w' → ∃ (sv' : Value) (ps' : List UV) (ca' : Option Addr) (cc' : Nat) (w9 : World), (∀ ty, (Builtin.append_ #[43, 43] ty #[.slice ca cs.length cc, .slice (some ⟨w'.heap.size, 0, none⟩) 1 1]).run Try.prog (w'.alloc (.cells #[.int .i64 d.x.src, .int .i64 d.x.dst, bv] 34)) = .ok (.slice ca' (cs ++ [(d.x, bv)]).length cc') w9) ∧ Below w.heap.size w w' ∧ TkS w w9 p (j + 1) (b.add d.x).2 sv' ps' (.slice ca' (cs ++ [(d.x, bv)]).length cc') (cs ++ [(d.x, bv)]) (.slice ta ts.length tc) ts) := Lib.hid (fun w' he hop => by
        have hbb := OpR.low HS.out.mem.bag HS.out.below rfl hop
        obtain ⟨sv', ps', h1, h2⟩ := HS.out.mem.op hop
        have hlow := h1.came.low
        obtain ⟨ca', cc', w9, hrun, hu9, hg9, hw9⟩ := appV w' (d.x, bv) h1.came hbb.size (by omega) (HCL.out w' hbb).2 (fun hn gg hgg e => by have := HBLT.out hn gg hgg; have := hlow gg e; omega)
        refine ⟨sv', ps', ca', cc', w9, hrun, hbb, h1.more hu9 hg9 hw9 (fun hn gg hgg => ?_), HS.out.pl.add1 he, ?_⟩
        · have hgl := HBLT.out hn gg hgg
          refine ⟨⟨fun e => ?_, fun e => ?_⟩, fun e => ?_⟩
          · have := h1.bag.base; omega
          · have := (h1.bag.us.has gg e).1; omega
          · have := h1.taken.low gg e; omega
        · exact hbb.grown hg9 hbb.size (fun k e => hlow k e))
      obtain ⟨E, hE⟩ : ∃ E, (b.add d.x).1 = E := ⟨_, rfl⟩
      obtain ⟨b', hb'⟩ : ∃ b', (b.add d.x).2 = b' := ⟨_, rfl⟩
      rw [hE, hb'] at HA HNO HYES
      rw [hbv] at HA HYES
      have hR0 := HRU.out wr HS.out.below
      have HR0 := Lib.hid hR0
      clear hrg hbz hE hb' hact hbl HS hR0
      go_wp2_with (first
        | (refine wpList_load_mid rfl 34 _ rfl g (off + j * 6 + 1) rfl _ _ HR0.out Try.underlying34 rfl HL3.out ?_))
      refine HA.out.mono ?_
      rintro e w3 ⟨rfl, hop⟩
      cases hE2 : (E == 0) with
      | false =>
        obtain ⟨sv', ps', hT⟩ := HNO.out w3 hE2 hop
        have HT := Lib.hid hT
        clear hop hT HA HNO HYES a0 HR0
        go_wp2_with fail
        go_roundw
        case rel => exact ⟨j + 1, b', sv', ps', ca, cc, cs, ta, tc, ts, by omega, by omega, rfl, rfl, by go_num, HT⟩
        case measure => simp [intOf]; omega
      | true =>
        obtain ⟨sv', ps', ca', cc', w9, hrun, hbb, hT⟩ := HYES.out w3 hE2 hop
        have HT := Lib.hid hT
        have HAP := Lib.hid hrun
        have HR3 := Lib.hid (HRU.out w3 hbb)
        clear hop hT HA HNO HYES a0 HR0 hrun hbb
        go_wp2_with (first
          | (refine wpList_load_mid rfl 34 _ rfl g (off + j * 6 + 1) rfl _ _ HR3.out Try.underlying34 rfl HL3.out ?_)
          | (at_builtin; refine wpList_append_run _ rfl _ _ 43 43 rfl _ _ rfl rfl _ w9 HAP.out ?_))
        go_roundw
        case rel => exact ⟨j + 1, b', sv', ps', ca', cc', _, ta, tc, ts, by omega, by omega, by simp, rfl, by go_num, HT⟩
        case measure => simp [intOf]; omega
    · -- Take
      have e0 : (d.act == 0) = false := by rw [hact]; rfl
      have e1 : (d.act == 1) = true := by rw [hact]; rfl
      have HCE : Hid (∀ u, Below w.heap.size w u → u.cell? ⟨g, off + j * 6 + 4, none⟩ = some (.int .i64 d.i) ∧ u.cell? ⟨g, off + j * 6 + 5, none⟩ = some (.bool d.keep)) := Lib.hid (fun u hu => ⟨(HCL.out u hu).1 4 _ rfl, (HCL.out u hu).1 5 _ rfl⟩)
      have HCT : Hid (∀ u, Below wr.heap.size wr u → Calls Try.prog 11 #[.pointer (some ⟨p, 0, none⟩), .int .i64 d.i, .bool d.keep] u fun e w' => ∃ v', e = .returned v' ∧ ∃ (x : Und) (aa : Option Addr) (cc : Nat) (f : Int), v' = .tuple #[.agg #[.int .i64 x.src, .int .i64 x.dst, .slice aa x.bytes.length cc], .int .i64 f] ∧ (f == 0) = b.has d.i ∧ (b.has d.i = true → b.us[d.i.toNat]? = some x) ∧ Row u.heap.size w' (.slice aa x.bytes.length cc) x.bytes ∧ OpS w.heap.size u p sv ps (if (b.has d.i && !d.keep) = true then b.cut d.i.toNat else b) w') := Lib.hid (fun u hu => (take_any w.heap.size p u b sv ps d.i d.keep (HS.out.mem.bag.below hu) (by have := HS.out.pl.fits; omega) HS.out.pl.bytes).mono fun e w' h => by
        obtain ⟨x, aa, cc, f, h1, h2, h3, h4, h5⟩ := tak_two h
        exact ⟨_, h1, x, aa, cc, f, rfl, h2, h3, h4, h5⟩)
      have HBW := Lib.hid HS.out.below
      have HPL := Lib.hid HS.out.mem.bag.lt
      have HSVL := Lib.hid (fun gg hg => (HS.out.mem.bag.us.has gg (Or.inl hg)).2)
      have hwd := (Below.refl wr.heap.size wr).drew
      have HST : Hid (∀ wx wy wz, Below wr.heap.size wr wx → OpS w.heap.size wx p sv ps (if (b.has d.i && !d.keep) = true then b.cut d.i.toNat else b) wy → Fr (fun k => wr.heap.size ≤ k) wy wz → OpS w.heap.size wr p sv ps (if (b.has d.i && !d.keep) = true then b.cut d.i.toNat else b) wz ∧ Below w.heap.size w wy ∧ Below w.heap.size w wz) := Lib.hid (fun wx wy wz h1 h2 h3 => by
        have h4 := OpS.lift HS.out.mem.bag h1 h2 h3 (Nat.le_refl _)
        have hbx := HS.out.mem.bag.below h1
        have hwx := HS.out.below.trans (h1.mono HS.out.below.size)
        have h5 := h2.below (N := w.heap.size) hbx.base (svlow hbx) hwx.size
        exact ⟨h4, hwx.trans h5, HS.out.below.trans (h4.below (N := w.heap.size) HS.out.mem.bag.base (svlow HS.out.mem.bag) HS.out.below.size)⟩)
      -- what stands behind the take
      have HNX : Hid (∀ wz, OpS w.heap.size wr p sv ps (if (b.has d.i && !d.keep) = true then b.cut d.i.toNat else b) wz → ∃ (sv' : Value) (ps' : List UV), TkM w.heap.size wz p (if (b.has d.i && !d.keep) = true then b.cut d.i.toNat else b) sv' ps' (.slice ca cs.length cc) cs (.slice ta ts.length tc) ts ∧ (∀ gg, wr.heap.size ≤ gg → gg ≠ p ∧ ¬ HasU sv' ps' gg ∧ ¬ HasB (.slice ca cs.length cc) cs gg ∧ ¬ HasB (.slice ta ts.length tc) ts gg)) := Lib.hid (fun wz h => by
        obtain ⟨sv', ps', q1, q2, q3⟩ := h
        obtain ⟨sv2, ps2, h1, h2⟩ := HS.out.mem.op (⟨sv', ps', q1, q2, fun gg hg => Or.inl (q3 gg hg)⟩ : OpR w.heap.size wr p sv ps (if (b.has d.i && !d.keep) = true then b.cut d.i.toNat else b) wz)
        have hk : ∀ gg, (gg = p ∨ sv.ownBlock = some gg) → ¬ HasB (.slice ca cs.length cc) cs gg ∧ ¬ HasB (.slice ta ts.length tc) ts gg := fun gg hg => HS.out.mem.s1 gg (hg.imp id (fun e => Or.inl e))
        refine ⟨sv', ps', ⟨q1, h1.came, h1.taken, fun gg hg => ?_, HS.out.mem.s2, HS.out.mem.s3⟩, fun gg hgg => ⟨?_, fun e => ?_, fun e => ?_, fun e => ?_⟩⟩
        · rcases hg with rfl | hg
          · exact HS.out.mem.s1 _ (Or.inl rfl)
          · exact HS.out.mem.s1 gg (Or.inr (q3 gg hg))
        · have := HPL.out; omega
        · have := (HS.out.mem.bag.us.has gg (q3 gg e)).2; omega
        · have := HS.out.mem.came.lt gg e; omega
        · have := HS.out.mem.taken.lt gg e; omega)
      have HPP := Lib.hid HS.out.pl
      obtain ⟨i4, i5⟩ := HCE.out wr HS.out.below
      clear hrg hbz hact hbl HS
      go_wp2_with fail
      refine wp_region_held_drew (S := fun W => W.cell? ⟨g, off + j * 6 + 4, none⟩ = some (.int .i64 d.i) ∧ W.cell? ⟨g, off + j * 6 + 5, none⟩ = some (.bool d.keep)) (by kernel_rfl) (HCE.out _ (HBW.out.drew)) (fun _ => ?_)
      refine hh_take 0 (some 57) (.pointer (some ⟨p, 0, none⟩)) rfl rfl (by kernel_rfl) (by kernel_rfl) (by kernel_rfl) (fun _ _ _ h => h) rfl (fun _ _ => rfl) (HCE.out _ (HBW.out.drew)) ?_
      simp only [Act.put, List.setIfInBounds_toArray, List.set_cons_zero, List.set_cons_succ]
      refine hh_take 1 (some 58) (.slice (some ⟨g, off, none⟩) l.length vc) rfl rfl (by kernel_rfl) (by kernel_rfl) (by kernel_rfl) (fun _ _ _ h => h) rfl (fun _ _ => rfl) (HCE.out _ (HBW.out.drew)) ?_
      simp only [Act.put, List.setIfInBounds_toArray, List.set_cons_zero, List.set_cons_succ]
      refine hh_take 2 (some 59) (.int .i64 (j : Int)) rfl rfl (by kernel_rfl) (by kernel_rfl) (by kernel_rfl) (fun _ _ _ h => h) rfl (fun _ _ => rfl) (HCE.out _ (HBW.out.drew)) ?_
      simp only [Act.put, List.setIfInBounds_toArray, List.set_cons_zero, List.set_cons_succ]
      refine hh_take 3 (some 60) (.pointer (some ⟨g, off + j * 6, none⟩)) rfl rfl (by kernel_rfl) (by kernel_rfl) (by kernel_rfl) (fun _ _ _ h => h) rfl (fun W _ => ex_index 22 (.tmp 58) (.tmp 59) rfl _ _ _ rfl rfl (run_index_call W g off _ vc j hjl hl)) (HCE.out _ (HBW.out.drew)) ?_
      simp only [Act.put, List.setIfInBounds_toArray, List.set_cons_zero, List.set_cons_succ]
      refine hh_take 4 (some 61) (.pointer (some ⟨g, off + j * 6 + 4, none⟩)) rfl rfl (by kernel_rfl) (by kernel_rfl) (by kernel_rfl) (fun _ _ _ h => h) rfl (fun _ _ => by kernel_rfl) (HCE.out _ (HBW.out.drew)) ?_
      simp only [Act.put, List.setIfInBounds_toArray, List.set_cons_zero, List.set_cons_succ]
      refine hh_take 5 (some 62) (.int .i64 d.i) rfl rfl (by kernel_rfl) (by kernel_rfl) (by kernel_rfl) (fun _ _ _ h => h) rfl (fun W hW => ex_load 3 (.tmp 61) rfl _ _ rfl (run_load_int W _ _ _ hW.1)) (HCE.out _ (HBW.out.drew)) ?_
      simp only [Act.put, List.setIfInBounds_toArray, List.set_cons_zero, List.set_cons_succ]
      refine hh_take 6 (some 63) (.slice (some ⟨g, off, none⟩) l.length vc) rfl rfl (by kernel_rfl) (by kernel_rfl) (by kernel_rfl) (fun _ _ _ h => h) rfl (fun _ _ => rfl) (HCE.out _ (HBW.out.drew)) ?_
      simp only [Act.put, List.setIfInBounds_toArray, List.set_cons_zero, List.set_cons_succ]
      refine hh_take 7 (some 64) (.int .i64 (j : Int)) rfl rfl (by kernel_rfl) (by kernel_rfl) (by kernel_rfl) (fun _ _ _ h => h) rfl (fun _ _ => rfl) (HCE.out _ (HBW.out.drew)) ?_
      simp only [Act.put, List.setIfInBounds_toArray, List.set_cons_zero, List.set_cons_succ]
      refine hh_take 8 (some 65) (.pointer (some ⟨g, off + j * 6, none⟩)) rfl rfl (by kernel_rfl) (by kernel_rfl) (by kernel_rfl) (fun _ _ _ h => h) rfl (fun W _ => ex_index 22 (.tmp 63) (.tmp 64) rfl _ _ _ rfl rfl (run_index_call W g off _ vc j hjl hl)) (HCE.out _ (HBW.out.drew)) ?_
      simp only [Act.put, List.setIfInBounds_toArray, List.set_cons_zero, List.set_cons_succ]
      refine hh_take 9 (some 66) (.pointer (some ⟨g, off + j * 6 + 5, none⟩)) rfl rfl (by kernel_rfl) (by kernel_rfl) (by kernel_rfl) (fun _ _ _ h => h) rfl (fun _ _ => by kernel_rfl) (HCE.out _ (HBW.out.drew)) ?_
      simp only [Act.put, List.setIfInBounds_toArray, List.set_cons_zero, List.set_cons_succ]
      refine hh_take 10 (some 67) (.bool d.keep) rfl rfl (by kernel_rfl) (by kernel_rfl) (by kernel_rfl) (fun _ _ _ h => h) rfl (fun W hW => ex_load 4 (.tmp 66) rfl _ _ rfl (run_load_bool W _ _ _ hW.2)) (HCE.out _ (HBW.out.drew)) ?_
      simp only [Act.put, List.setIfInBounds_toArray, List.set_cons_zero, List.set_cons_succ]
      refine hh_two 11 15 (by kernel_rfl) rfl rfl rfl rfl (fun K hK => wp_callsE (some 68) rfl 11 _ (ex_call3h 11 (.tmp 57) (.tmp 62) (.tmp 67) _ rfl _ _ _ rfl rfl rfl (fun _ _ => rfl)) _ (HCT.out _ hwd) (fun v2 w2 hR => hK _ _ (by obtain ⟨_, _, _, _, _, _, _, _, hop⟩ := hR; exact HCE.out _ (HST.out _ _ _ hwd hop (Fr.refl _ _)).2.1) ?_)) (fun K hK => wp_runsh (some 9) rfl (ex_alloc 34 rfl _ (zero_und _)) (hK _ _ (HCE.out _ (HBW.out.drew.alloc HBW.out.drew.size _)) ?_))
      · clear hK K
        simp only [Act.put, List.setIfInBounds_toArray, List.set_cons_zero, List.set_cons_succ]
        obtain ⟨x, aa, c8, f, rfl, hf0, hxx, hrow0, hop⟩ := hR
        have HB2 := (HST.out _ _ _ hwd hop (Fr.refl _ _)).2.1
        refine hh_take 12 (some 56) (.tuple #[.agg #[.int .i64 x.src, .int .i64 x.dst, .slice aa x.bytes.length c8], .int .i64 f]) rfl rfl (by kernel_rfl) (by kernel_rfl) (by kernel_rfl) (fun _ _ _ h => h) rfl (fun _ _ => rfl) (HCE.out _ HB2) ?_
        simp only [Act.put, List.setIfInBounds_toArray, List.set_cons_zero, List.set_cons_succ]
        refine hh_take 13 (some 69) (.agg #[.int .i64 x.src, .int .i64 x.dst, .slice aa x.bytes.length c8]) rfl rfl (by kernel_rfl) (by kernel_rfl) (by kernel_rfl) (fun _ _ _ h => h) rfl (fun _ _ => by first | rfl | kernel_rfl | go_simp) (HCE.out _ HB2) ?_
        simp only [Act.put, List.setIfInBounds_toArray, List.set_cons_zero, List.set_cons_succ]
        refine hh_take 14 (some 70) (.int .i64 f) rfl rfl (by kernel_rfl) (by kernel_rfl) (by kernel_rfl) (fun _ _ _ h => h) rfl (fun _ _ => by first | rfl | kernel_rfl | go_simp) (HCE.out _ HB2) ?_
        simp only [Act.put, List.setIfInBounds_toArray, List.set_cons_zero, List.set_cons_succ]
        refine hh_one 15 (by kernel_rfl) rfl rfl (fun K hK => wp_runsh (some 9) rfl (ex_alloc 34 rfl _ (zero_und _)) (hK _ _ (HCE.out _ (HB2.alloc HB2.size _)) ?_))
        clear hK K
        simp only [Act.put, List.setIfInBounds_toArray, List.set_cons_zero, List.set_cons_succ]
        have hal : Below w2.heap.size w2 (w2.alloc (.cells #[.int .i64 0, .int .i64 0, .slice none 0 0] 34)) := (Below.refl _ w2).alloc (Nat.le_refl _) _
        have hfn : Fr (fun k => wr.heap.size ≤ k) w2 (w2.alloc (.cells #[.int .i64 0, .int .i64 0, .slice none 0 0] 34)) := Fr.of_below _ hal
        have hrN : (w2.alloc (.cells #[.int .i64 0, .int .i64 0, .slice none 0 0] 34)).heap[w2.heap.size]? = some (.cells #[.int .i64 0, .int .i64 0, .slice none 0 0] 34 (0, 0)) := heap_alloc_new w2 _
        have hN : wr.heap.size ≤ w2.heap.size := by obtain ⟨_, _, _, hfo, _⟩ := (hop : OpS _ _ _ _ _ _ _); exact hfo.size
        have hrow : Row wr.heap.size w2 (.slice aa x.bytes.length c8) x.bytes := hrow0
        have hNne : ∀ gg, (Value.slice aa x.bytes.length c8).ownBlock = some gg → gg ≠ w2.heap.size := fun gg hgg e => by have := hrow.1.lt gg hgg; omega
        have hsame : ∀ gg, gg < w2.heap.size → (w2.alloc (.cells #[.int .i64 0, .int .i64 0, .slice none 0 0] 34)).heap[gg]? = w2.heap[gg]? := fun gg hgg => hal.block gg hgg
        have hsz0 := hal.size
        have hNlow : wr.heap.size ≤ w2.heap.size := hN
        generalize w2.alloc (.cells #[.int .i64 0, .int .i64 0, .slice none 0 0] 34) = WN at *
        obtain ⟨N, hNN⟩ : ∃ N, w2.heap.size = N := ⟨_, rfl⟩
        have hszz : w2.heap.size ≤ (WN.setRow N #[.int .i64 x.src, .int .i64 x.dst, .slice aa x.bytes.length c8]).heap.size := by rw [setRow_size]; exact hsz0
        rw [hNN] at hrN hN hNne hNlow ⊢
        clear hal hsz0
        obtain ⟨WZ, hWZ⟩ : ∃ WZ, WN.setRow N #[.int .i64 x.src, .int .i64 x.dst, .slice aa x.bytes.length c8] = WZ := ⟨_, rfl⟩
        have hfz : Fr (fun k => wr.heap.size ≤ k) w2 WZ := by
          rw [← hWZ]
          exact ⟨hfn.os, hfn.tape, hfn.output, by rw [setRow_size]; exact hfn.size, fun k hk hn => (setRow_other _ _ _ _ (fun e => hn (by omega))).trans (hfn.block k hk hn)⟩
        have hrz : WZ.heap[N]? = some (.cells #[.int .i64 x.src, .int .i64 x.dst, .slice aa x.bytes.length c8] 34 (0, 0)) := by rw [← hWZ]; exact setRow_heap _ _ _ _ _ _ hrN
        have hbyz : Byz WZ (.slice aa x.bytes.length c8) x.bytes := by rw [← hWZ]; exact (hrow.kept hszz (fun gg hgg => (setRow_other _ _ _ _ (hNne gg hgg)).trans (hsame gg (hrow.1.lt gg hgg)))).1.z
        have hnew : ∀ gg, (Value.slice aa x.bytes.length c8).ownBlock = some gg → wr.heap.size ≤ gg ∧ gg ≠ N := fun gg hgg => ⟨by have := row_base hrow gg hgg; omega, hNne gg hgg⟩
        obtain ⟨hopz, -, hbz⟩ := HST.out _ _ _ hwd hop hfz
        refine hh_one 16 (by kernel_rfl) rfl rfl (fun K hK => wp_store_row 34 (.tmp 9) (.tmp 69) rfl N _ rfl rfl 34 _ hrN (HI3 _ _ _ _ _).out rfl (cellsU3 _ _ _ ⟨_, _, _, rfl⟩) ?_)
        rw [hWZ]
        refine hK _ _ (HCE.out _ hbz) ?_
        clear hK K
        simp only [Act.put]
        refine hh_take 17 (some 10) (.int .i64 f) rfl rfl (by kernel_rfl) (by kernel_rfl) (by kernel_rfl) (fun _ _ _ h => h) rfl (fun _ _ => rfl) (HCE.out _ hbz) ?_
        simp only [Act.put, List.setIfInBounds_toArray, List.set_cons_zero, List.set_cons_succ]
        refine wpAnyH_done (by kernel_rfl) ?_ _
        obtain ⟨sv', ps', hM, hsep⟩ := HNX.out _ hopz
        obtain ⟨i4, i5⟩ := HCE.out _ hbz
        have HM := Lib.hid hM
        have HSEP := Lib.hid hsep
        have HBZ := Lib.hid hbz
        have HRZ := Lib.hid hrz
        have HBYZ := Lib.hid hbyz
        have HNEW := Lib.hid hnew
        have HXX := Lib.hid hxx
        clear hopz hbz hfz hWZ hM hsep hrN hfn hop HNX HST HCT hrz hbyz hnew hrow hszz hNne hsame hxx hN
        obtain ⟨H, hH⟩ : ∃ H, b.has d.i = H := ⟨_, rfl⟩
        obtain ⟨KP, hKP⟩ : ∃ KP, d.keep = KP := ⟨_, rfl⟩
        rw [hH] at hf0 HXX HM
        rw [hKP] at i5 HM
        cases H with
        | false =>
          have hf1 : (f != 0) = true := by rw [bne, hf0]; rfl
          rw [Bool.false_and, if_neg (by simp)] at HM
          have HT := Lib.hid (⟨HM.out, HPP.out.mono, HBZ.out⟩ : TkS w WZ p (j + 1) b sv' ps' (.slice ca cs.length cc) cs (.slice ta ts.length tc) ts)
          clear HM hH hKP HXX HRZ HBYZ HNEW HSEP HPP
          go_wp2_with fail
          go_roundw
          case rel => exact ⟨j + 1, b, sv', ps', ca, cc, cs, ta, tc, ts, by omega, by omega, rfl, rfl, by go_num, HT⟩
          case measure => simp [intOf]; omega
        | true =>
          have hf1 : (f != 0) = false := by rw [bne, hf0]; rfl
          have hx := HXX.out rfl
          cases KP with
          | true =>
            rw [if_neg (by simp)] at HM
            obtain ⟨b', hb'⟩ : ∃ b', b' = b := ⟨_, rfl⟩
            obtain ⟨W9, hW9⟩ : ∃ W9, W9 = WZ := ⟨_, rfl⟩
            have HT : Hid (TkS w W9 p (j + 1) b' sv' ps' (.slice ca cs.length cc) cs (.slice ta ts.length tc) ts) := Lib.hid (by rw [hb', hW9]; exact ⟨HM.out, HPP.out.mono, HBZ.out⟩)
            have HQ := Lib.hid (HPP.out.was hx)
            have HRW : Hid (W9.heap[N]? = some (.cells #[.int .i64 x.src, .int .i64 x.dst, .slice aa x.bytes.length c8] 34 (0, 0))) := Lib.hid (by rw [hW9]; exact HRZ.out)
            have HBX : Hid (Byz W9 (.slice aa x.bytes.length c8) x.bytes) := Lib.hid (by rw [hW9]; exact HBYZ.out)
            rw [← hW9] at i4 i5 ⊢
            clear HM hH hKP HXX HRZ HBYZ HNEW HSEP HPP hx hb' hW9 HBZ
            go_wp2_with fail
            have HKR : Hid (∀ u, Below W9.heap.size W9 u → u.heap[N]? = some (.cells #[.int .i64 x.src, .int .i64 x.dst, .slice aa x.bytes.length c8] 34 (0, 0))) := Lib.hid (fun u hu => below_row HRW.out hu (Array.getElem?_eq_some_iff.1 HRW.out).1)
            have HC1 : Hid (∀ u, Below W9.heap.size W9 u → Calls Try.prog 15 #[.slice ca cs.length cc, .agg #[.int .i64 x.src, .int .i64 x.dst, .slice aa x.bytes.length c8]] u fun e w' => e = .returned (.int .i64 ((cntU x (cs.map (·.1)) : Nat) : Int)) ∧ Below W9.heap.size W9 w') := Lib.hid (fun u hu => (count_any w.heap.size u _ cs x _ (HT.out.mem.came.below hu) (HBX.out.below hu) (by omega)).mono fun _ _ ⟨h1, h2⟩ => ⟨h1, hu.trans (h2.mono hu.size)⟩)
            have HC2 : Hid (∀ u, Below W9.heap.size W9 u → Calls Try.prog 15 #[.slice ta ts.length tc, .agg #[.int .i64 x.src, .int .i64 x.dst, .slice aa x.bytes.length c8]] u fun e w' => e = .returned (.int .i64 ((cntU x (ts.map (·.1)) : Nat) : Int)) ∧ Below W9.heap.size W9 w') := Lib.hid (fun u hu => (count_any w.heap.size u _ ts x _ (HT.out.mem.taken.below hu) (HBX.out.below hu) (by first | omega | (simp; omega))).mono fun _ _ ⟨h1, h2⟩ => ⟨h1, hu.trans (h2.mono hu.size)⟩)
            obtain ⟨hq1, hq2⟩ := HQ.out
            obtain ⟨C, hCC⟩ : ∃ C : Nat, cntU x (cs.map (·.1)) = C := ⟨_, rfl⟩
            obtain ⟨T, hTT⟩ : ∃ T : Nat, cntU x (ts.map (·.1)) = T := ⟨_, rfl⟩
            rw [hCC] at HC1 hq1 hq2
            rw [hTT] at HC2 hq1
            have g1 : ¬ (C : Int) < (T : Int) := by omega
            have g2 : ((C : Int) == 0) = false := by rw [beq_eq_false_iff_ne]; omega
            have HLO : Hid (∀ u, Below W9.heap.size W9 u → TkS w u p (j + 1) b' sv' ps' (.slice ca cs.length cc) cs (.slice ta ts.length tc) ts) := Lib.hid (fun u hu => ⟨HT.out.mem.low hu, HT.out.pl, HT.out.below.trans (hu.mono HT.out.below.size)⟩)
            have hbd := (Below.refl W9.heap.size W9).drew
            clear hCC hTT hq1 hq2 HQ
            refine wp_region_held_drew (S := fun u => u.heap[N]? = some (.cells #[.int .i64 x.src, .int .i64 x.dst, .slice aa x.bytes.length c8] 34 (0, 0))) (by kernel_rfl) (HKR.out _ hbd) (fun _ => ?_)
            refine hh_take 0 (some 83) (.func (.func 15) #[] #[]) rfl rfl (by kernel_rfl) (by kernel_rfl) (by kernel_rfl) (fun _ _ _ h => h) rfl (fun _ _ => rfl) (HKR.out _ hbd) ?_
            simp only [Act.put, List.setIfInBounds_toArray, List.set_cons_zero, List.set_cons_succ]
            refine hh_take 1 (some 84) (.slice ca cs.length cc) rfl rfl (by kernel_rfl) (by kernel_rfl) (by kernel_rfl) (fun _ _ _ h => h) rfl (fun _ _ => rfl) (HKR.out _ hbd) ?_
            simp only [Act.put, List.setIfInBounds_toArray, List.set_cons_zero, List.set_cons_succ]
            refine hh_take 2 (some 85) (.agg #[.int .i64 x.src, .int .i64 x.dst, .slice aa x.bytes.length c8]) rfl rfl (by kernel_rfl) (by kernel_rfl) (by kernel_rfl) (fun _ _ _ h => h) rfl (fun W hW => ex_load 34 (.tmp 9) rfl _ _ rfl (run_load_und W _ _ _ _ ⟨_, _, _, rfl⟩ hW)) (HKR.out _ hbd) ?_
            simp only [Act.put, List.setIfInBounds_toArray, List.set_cons_zero, List.set_cons_succ]
            refine hh_take 4 (some 87) (.func (.func 15) #[] #[]) rfl rfl (by kernel_rfl) (by kernel_rfl) (by kernel_rfl) (fun _ _ _ h => h) rfl (fun _ _ => rfl) (HKR.out _ hbd) ?_
            simp only [Act.put, List.setIfInBounds_toArray, List.set_cons_zero, List.set_cons_succ]
            refine hh_take 5 (some 88) (.slice ta ts.length tc) rfl rfl (by kernel_rfl) (by kernel_rfl) (by kernel_rfl) (fun _ _ _ h => h) rfl (fun _ _ => rfl) (HKR.out _ hbd) ?_
            simp only [Act.put, List.setIfInBounds_toArray, List.set_cons_zero, List.set_cons_succ]
            refine hh_take 6 (some 89) (.agg #[.int .i64 x.src, .int .i64 x.dst, .slice aa x.bytes.length c8]) rfl rfl (by kernel_rfl) (by kernel_rfl) (by kernel_rfl) (fun _ _ _ h => h) rfl (fun W hW => ex_load 34 (.tmp 9) rfl _ _ rfl (run_load_und W _ _ _ _ ⟨_, _, _, rfl⟩ hW)) (HKR.out _ hbd) ?_
            simp only [Act.put, List.setIfInBounds_toArray, List.set_cons_zero, List.set_cons_succ]
            refine hh_one 3 (by kernel_rfl) rfl rfl (fun K hK => wp_callsh (some 86) rfl 15 _ (ex_callv2 15 (.tmp 83) (.tmp 84) (.tmp 85) _ rfl _ _ rfl rfl rfl (fun _ _ => rfl)) _ _ (HC1.out _ hbd) (fun m1 hm1 => hK _ _ (HKR.out _ hm1) ?_))
            clear hK K
            simp only [Act.put, List.setIfInBounds_toArray, List.set_cons_zero, List.set_cons_succ]
            refine hh_one 7 (by kernel_rfl) rfl rfl (fun K hK => wp_callsh (some 90) rfl 15 _ (ex_callv2 15 (.tmp 87) (.tmp 88) (.tmp 89) _ rfl _ _ rfl rfl rfl (fun _ _ => rfl)) _ _ (HC2.out _ hm1) (fun m2 hm2 => hK _ _ (HKR.out _ hm2) ?_))
            clear hK K
            simp only [Act.put, List.setIfInBounds_toArray, List.set_cons_zero, List.set_cons_succ]
            refine hh_take 8 (some 91) (.bool false) rfl rfl (by kernel_rfl) (by kernel_rfl) (by kernel_rfl) (fun _ _ _ h => h) rfl (fun _ _ => by go_simp) (HKR.out _ hm2) ?_
            simp only [Act.put, List.setIfInBounds_toArray, List.set_cons_zero, List.set_cons_succ]
            refine hh_take 9 (some 92) (.bool false) rfl rfl (by kernel_rfl) (by kernel_rfl) (by kernel_rfl) (fun _ _ _ h => h) rfl (fun _ _ => rfl) (HKR.out _ hm2) ?_
            simp only [Act.put, List.setIfInBounds_toArray, List.set_cons_zero, List.set_cons_succ]
            refine hh_take 10 (some 93) (.func (.func 15) #[] #[]) rfl rfl (by kernel_rfl) (by kernel_rfl) (by kernel_rfl) (fun _ _ _ h => h) rfl (fun _ _ => rfl) (HKR.out _ hm2) ?_
            simp only [Act.put, List.setIfInBounds_toArray, List.set_cons_zero, List.set_cons_succ]
            refine hh_take 11 (some 94) (.slice ca cs.length cc) rfl rfl (by kernel_rfl) (by kernel_rfl) (by kernel_rfl) (fun _ _ _ h => h) rfl (fun _ _ => rfl) (HKR.out _ hm2) ?_
            simp only [Act.put, List.setIfInBounds_toArray, List.set_cons_zero, List.set_cons_succ]
            refine hh_take 12 (some 95) (.agg #[.int .i64 x.src, .int .i64 x.dst, .slice aa x.bytes.length c8]) rfl rfl (by kernel_rfl) (by kernel_rfl) (by kernel_rfl) (fun _ _ _ h => h) rfl (fun W hW => ex_load 34 (.tmp 9) rfl _ _ rfl (run_load_und W _ _ _ _ ⟨_, _, _, rfl⟩ hW)) (HKR.out _ hm2) ?_
            simp only [Act.put, List.setIfInBounds_toArray, List.set_cons_zero, List.set_cons_succ]
            refine hh_oneG 13 (by kernel_rfl) rfl rfl (fun K hK => wp_callsh (some 96) rfl 15 _ (ex_callv2 15 (.tmp 93) (.tmp 94) (.tmp 95) _ rfl _ _ rfl rfl rfl (fun _ _ => rfl)) _ _ (HC1.out _ hm2) (fun m3 hm3 => hK _ _ (HKR.out _ hm3) ?_))
            clear hK K
            simp only [Act.put, List.setIfInBounds_toArray, List.set_cons_zero, List.set_cons_succ]
            refine hh_take 14 (some 97) (.bool false) rfl rfl (by kernel_rfl) (by kernel_rfl) (by kernel_rfl) (fun _ _ _ h => h) rfl (fun _ _ => by go_simp) (HKR.out _ hm3) ?_
            simp only [Act.put, List.setIfInBounds_toArray, List.set_cons_zero, List.set_cons_succ]
            refine hh_take 15 (some 98) (.bool false) rfl rfl (by kernel_rfl) (by kernel_rfl) (by kernel_rfl) (fun _ _ _ h => h) rfl (fun _ _ => by first | rfl | kernel_rfl | go_simp) (HKR.out _ hm3) ?_
            simp only [Act.put, List.setIfInBounds_toArray, List.set_cons_zero, List.set_cons_succ]
            refine wpAnyH_done (by kernel_rfl) ?_ _
            clear hm1 hm2
            have HZ := Lib.hid (HLO.out _ hm3)
            clear hm3 hbd HLO HKR HC1 HC2
            go_wp2
            go_roundw
            case rel => exact ⟨j + 1, b', sv', ps', ca, cc, cs, ta, tc, ts, by omega, by omega, rfl, rfl, by go_num, HZ⟩
            case measure => simp [intOf]; omega
          | false =>
            rw [if_pos (by simp)] at HM
            obtain ⟨ta', tc', W9, hrun, hu9, hg9, hw9⟩ := appV WZ (x, Value.slice aa x.bytes.length c8) HM.out.taken HBZ.out.size (by omega) HBYZ.out (fun _ gg hgg e => (HSEP.out gg (HNEW.out gg hgg).1).2.2.2 (Or.inl e))
            have hM9 := (HM.out.swap.more hu9 hg9 hw9 (fun _ gg hgg => ⟨⟨(HSEP.out gg (HNEW.out gg hgg).1).1, (HSEP.out gg (HNEW.out gg hgg).1).2.1⟩, fun e => (HSEP.out gg (HNEW.out gg hgg).1).2.2.1 (Or.inl e)⟩)).swap
            have hlow := HM.out.taken.low
            have hne9 : ∀ k, wr.heap.size ≤ k → (Value.slice ta ts.length tc).ownBlock ≠ some k := fun k hk e => (HSEP.out k hk).2.2.2 (Or.inl e)
            obtain ⟨b', hb'⟩ : ∃ b', b.cut d.i.toNat = b' := ⟨_, rfl⟩
            have hP9 : TkP (j + 1) b' cs (ts ++ [(x, Value.slice aa x.bytes.length c8)]) := by rw [← hb']; exact HPP.out.cut hx
            have HT : Hid (TkS w W9 p (j + 1) b' sv' ps' (.slice ca cs.length cc) cs (.slice ta' (ts ++ [(x, Value.slice aa x.bytes.length c8)]).length tc') (ts ++ [(x, Value.slice aa x.bytes.length c8)])) := Lib.hid ⟨by rw [← hb']; exact hM9, hP9, HBZ.out.grown hg9 HBZ.out.size (fun k e => hlow k e)⟩
            have HQ := Lib.hid hP9.was2
            have HRW : Hid (W9.heap[N]? = some (.cells #[.int .i64 x.src, .int .i64 x.dst, .slice aa x.bytes.length c8] 34 (0, 0))) := Lib.hid ((hg9.block N (Array.getElem?_eq_some_iff.1 HRZ.out).1 (fun e => hne9 N hNlow e.symm)).trans HRZ.out)
            have HBX : Hid (Byz W9 (.slice aa x.bytes.length c8) x.bytes) := Lib.hid (HBYZ.out.kept hg9.size (fun gg hgg hn => hg9.block gg (HBYZ.out.lt gg hgg hn) (fun e => hne9 gg (HNEW.out gg hgg).1 e.symm)))
            have HAP := Lib.hid hrun
            unfold unC at HAP
            have HIU := HI3 x.src x.dst aa x.bytes.length c8
            clear HM hH hKP HXX HBYZ HNEW HSEP HPP hx hb' HBZ hrun hu9 hg9 hw9 hM9 hlow hne9 hP9
            go_wp2_with (first
              | (refine wpList_load_row rfl 34 _ rfl N rfl 34 _ (0, 0) _ HRZ.out Try.underlying34 rfl HIU.out ?_)
              | (at_builtin; refine wpList_append_run _ rfl _ _ 43 43 rfl _ _ rfl rfl _ W9 HAP.out ?_))
            obtain ⟨TS2, hTS2⟩ : ∃ TS2 : List UV, ts ++ [(x, Value.slice aa x.bytes.length c8)] = TS2 := ⟨_, rfl⟩
            have hTSl : ts.length + 1 = TS2.length := by rw [← hTS2]; simp
            have hlts2 : TS2.length ≤ 101 := by rw [← hTS2]; simp; omega
            rw [hTS2] at HT HQ
            rw [hTSl]
            clear hTS2 hTSl
            have HKR : Hid (∀ u, Below W9.heap.size W9 u → u.heap[N]? = some (.cells #[.int .i64 x.src, .int .i64 x.dst, .slice aa x.bytes.length c8] 34 (0, 0))) := Lib.hid (fun u hu => below_row HRW.out hu (Array.getElem?_eq_some_iff.1 HRW.out).1)
            have HC1 : Hid (∀ u, Below W9.heap.size W9 u → Calls Try.prog 15 #[.slice ca cs.length cc, .agg #[.int .i64 x.src, .int .i64 x.dst, .slice aa x.bytes.length c8]] u fun e w' => e = .returned (.int .i64 ((cntU x (cs.map (·.1)) : Nat) : Int)) ∧ Below W9.heap.size W9 w') := Lib.hid (fun u hu => (count_any w.heap.size u _ cs x _ (HT.out.mem.came.below hu) (HBX.out.below hu) (by omega)).mono fun _ _ ⟨h1, h2⟩ => ⟨h1, hu.trans (h2.mono hu.size)⟩)
            have HC2 : Hid (∀ u, Below W9.heap.size W9 u → Calls Try.prog 15 #[.slice ta' TS2.length tc', .agg #[.int .i64 x.src, .int .i64 x.dst, .slice aa x.bytes.length c8]] u fun e w' => e = .returned (.int .i64 ((cntU x (TS2.map (·.1)) : Nat) : Int)) ∧ Below W9.heap.size W9 w') := Lib.hid (fun u hu => (count_any w.heap.size u _ TS2 x _ (HT.out.mem.taken.below hu) (HBX.out.below hu) (by first | omega | (simp; omega))).mono fun _ _ ⟨h1, h2⟩ => ⟨h1, hu.trans (h2.mono hu.size)⟩)
            obtain ⟨hq1, hq2⟩ := HQ.out
            obtain ⟨C, hCC⟩ : ∃ C : Nat, cntU x (cs.map (·.1)) = C := ⟨_, rfl⟩
            obtain ⟨T, hTT⟩ : ∃ T : Nat, cntU x (TS2.map (·.1)) = T := ⟨_, rfl⟩
            rw [hCC] at HC1 hq1 hq2
            rw [hTT] at HC2 hq1
            have g1 : ¬ (C : Int) < (T : Int) := by omega
            have g2 : ((C : Int) == 0) = false := by rw [beq_eq_false_iff_ne]; omega
            have HLO : Hid (∀ u, Below W9.heap.size W9 u → TkS w u p (j + 1) b' sv' ps' (.slice ca cs.length cc) cs (.slice ta' TS2.length tc') TS2) := Lib.hid (fun u hu => ⟨HT.out.mem.low hu, HT.out.pl, HT.out.below.trans (hu.mono HT.out.below.size)⟩)
            have hbd := (Below.refl W9.heap.size W9).drew
            clear hCC hTT hq1 hq2 HQ
            refine wp_region_held_drew (S := fun u => u.heap[N]? = some (.cells #[.int .i64 x.src, .int .i64 x.dst, .slice aa x.bytes.length c8] 34 (0, 0))) (by kernel_rfl) (HKR.out _ hbd) (fun _ => ?_)
            refine hh_take 0 (some 83) (.func (.func 15) #[] #[]) rfl rfl (by kernel_rfl) (by kernel_rfl) (by kernel_rfl) (fun _ _ _ h => h) rfl (fun _ _ => rfl) (HKR.out _ hbd) ?_
            simp only [Act.put, List.setIfInBounds_toArray, List.set_cons_zero, List.set_cons_succ]
            refine hh_take 1 (some 84) (.slice ca cs.length cc) rfl rfl (by kernel_rfl) (by kernel_rfl) (by kernel_rfl) (fun _ _ _ h => h) rfl (fun _ _ => rfl) (HKR.out _ hbd) ?_
            simp only [Act.put, List.setIfInBounds_toArray, List.set_cons_zero, List.set_cons_succ]
            refine hh_take 2 (some 85) (.agg #[.int .i64 x.src, .int .i64 x.dst, .slice aa x.bytes.length c8]) rfl rfl (by kernel_rfl) (by kernel_rfl) (by kernel_rfl) (fun _ _ _ h => h) rfl (fun W hW => ex_load 34 (.tmp 9) rfl _ _ rfl (run_load_und W _ _ _ _ ⟨_, _, _, rfl⟩ hW)) (HKR.out _ hbd) ?_
            simp only [Act.put, List.setIfInBounds_toArray, List.set_cons_zero, List.set_cons_succ]
            refine hh_take 4 (some 87) (.func (.func 15) #[] #[]) rfl rfl (by kernel_rfl) (by kernel_rfl) (by kernel_rfl) (fun _ _ _ h => h) rfl (fun _ _ => rfl) (HKR.out _ hbd) ?_
            simp only [Act.put, List.setIfInBounds_toArray, List.set_cons_zero, List.set_cons_succ]
            refine hh_take 5 (some 88) (.slice ta' TS2.length tc') rfl rfl (by kernel_rfl) (by kernel_rfl) (by kernel_rfl) (fun _ _ _ h => h) rfl (fun _ _ => rfl) (HKR.out _ hbd) ?_
            simp only [Act.put, List.setIfInBounds_toArray, List.set_cons_zero, List.set_cons_succ]
            refine hh_take 6 (some 89) (.agg #[.int .i64 x.src, .int .i64 x.dst, .slice aa x.bytes.length c8]) rfl rfl (by kernel_rfl) (by kernel_rfl) (by kernel_rfl) (fun _ _ _ h => h) rfl (fun W hW => ex_load 34 (.tmp 9) rfl _ _ rfl (run_load_und W _ _ _ _ ⟨_, _, _, rfl⟩ hW)) (HKR.out _ hbd) ?_
            simp only [Act.put, List.setIfInBounds_toArray, List.set_cons_zero, List.set_cons_succ]
            refine hh_one 3 (by kernel_rfl) rfl rfl (fun K hK => wp_callsh (some 86) rfl 15 _ (ex_callv2 15 (.tmp 83) (.tmp 84) (.tmp 85) _ rfl _ _ rfl rfl rfl (fun _ _ => rfl)) _ _ (HC1.out _ hbd) (fun m1 hm1 => hK _ _ (HKR.out _ hm1) ?_))
            clear hK K
            simp only [Act.put, List.setIfInBounds_toArray, List.set_cons_zero, List.set_cons_succ]
            refine hh_one 7 (by kernel_rfl) rfl rfl (fun K hK => wp_callsh (some 90) rfl 15 _ (ex_callv2 15 (.tmp 87) (.tmp 88) (.tmp 89) _ rfl _ _ rfl rfl rfl (fun _ _ => rfl)) _ _ (HC2.out _ hm1) (fun m2 hm2 => hK _ _ (HKR.out _ hm2) ?_))
            clear hK K
            simp only [Act.put, List.setIfInBounds_toArray, List.set_cons_zero, List.set_cons_succ]
            refine hh_take 8 (some 91) (.bool false) rfl rfl (by kernel_rfl) (by kernel_rfl) (by kernel_rfl) (fun _ _ _ h => h) rfl (fun _ _ => by go_simp) (HKR.out _ hm2) ?_
            simp only [Act.put, List.setIfInBounds_toArray, List.set_cons_zero, List.set_cons_succ]
            refine hh_take 9 (some 92) (.bool false) rfl rfl (by kernel_rfl) (by kernel_rfl) (by kernel_rfl) (fun _ _ _ h => h) rfl (fun _ _ => rfl) (HKR.out _ hm2) ?_
            simp only [Act.put, List.setIfInBounds_toArray, List.set_cons_zero, List.set_cons_succ]
            refine hh_take 10 (some 93) (.func (.func 15) #[] #[]) rfl rfl (by kernel_rfl) (by kernel_rfl) (by kernel_rfl) (fun _ _ _ h => h) rfl (fun _ _ => rfl) (HKR.out _ hm2) ?_
            simp only [Act.put, List.setIfInBounds_toArray, List.set_cons_zero, List.set_cons_succ]
            refine hh_take 11 (some 94) (.slice ca cs.length cc) rfl rfl (by kernel_rfl) (by kernel_rfl) (by kernel_rfl) (fun _ _ _ h => h) rfl (fun _ _ => rfl) (HKR.out _ hm2) ?_
            simp only [Act.put, List.setIfInBounds_toArray, List.set_cons_zero, List.set_cons_succ]
            refine hh_take 12 (some 95) (.agg #[.int .i64 x.src, .int .i64 x.dst, .slice aa x.bytes.length c8]) rfl rfl (by kernel_rfl) (by kernel_rfl) (by kernel_rfl) (fun _ _ _ h => h) rfl (fun W hW => ex_load 34 (.tmp 9) rfl _ _ rfl (run_load_und W _ _ _ _ ⟨_, _, _, rfl⟩ hW)) (HKR.out _ hm2) ?_
            simp only [Act.put, List.setIfInBounds_toArray, List.set_cons_zero, List.set_cons_succ]
            refine hh_oneG 13 (by kernel_rfl) rfl rfl (fun K hK => wp_callsh (some 96) rfl 15 _ (ex_callv2 15 (.tmp 93) (.tmp 94) (.tmp 95) _ rfl _ _ rfl rfl rfl (fun _ _ => rfl)) _ _ (HC1.out _ hm2) (fun m3 hm3 => hK _ _ (HKR.out _ hm3) ?_))
            clear hK K
            simp only [Act.put, List.setIfInBounds_toArray, List.set_cons_zero, List.set_cons_succ]
            refine hh_take 14 (some 97) (.bool false) rfl rfl (by kernel_rfl) (by kernel_rfl) (by kernel_rfl) (fun _ _ _ h => h) rfl (fun _ _ => by go_simp) (HKR.out _ hm3) ?_
            simp only [Act.put, List.setIfInBounds_toArray, List.set_cons_zero, List.set_cons_succ]
            refine hh_take 15 (some 98) (.bool false) rfl rfl (by kernel_rfl) (by kernel_rfl) (by kernel_rfl) (fun _ _ _ h => h) rfl (fun _ _ => by first | rfl | kernel_rfl | go_simp) (HKR.out _ hm3) ?_
            simp only [Act.put, List.setIfInBounds_toArray, List.set_cons_zero, List.set_cons_succ]
            refine wpAnyH_done (by kernel_rfl) ?_ _
            clear hm1 hm2
            have HZ := Lib.hid (HLO.out _ hm3)
            clear hm3 hbd HLO HKR HC1 HC2
            go_wp2
            go_roundw
            case rel => exact ⟨j + 1, b', sv', ps', ca, cc, cs, ta', tc', TS2, by omega, by omega, rfl, rfl, by go_num, HZ⟩
            case measure => simp [intOf]; omega
      · clear hK K
        simp only [Act.put, List.setIfInBounds_toArray, List.set_cons_zero, List.set_cons_succ]
        have hrN0 : (wr.drew.alloc (.cells #[.int .i64 0, .int .i64 0, .slice none 0 0] 34)).heap[wr.heap.size]? = some (.cells #[.int .i64 0, .int .i64 0, .slice none 0 0] 34 (0, 0)) := heap_alloc_new wr.drew _
        have hba : Below wr.heap.size wr (wr.drew.alloc (.cells #[.int .i64 0, .int .i64 0, .slice none 0 0] 34)) := hwd.alloc (Nat.le_refl _) _
        have hsA : (wr.drew.alloc (.cells #[.int .i64 0, .int .i64 0, .slice none 0 0] 34)).heap.size = wr.heap.size + 1 := Array.size_push ..
        rw [show wr.drew.heap.size = wr.heap.size from rfl]
        generalize wr.drew.alloc (.cells #[.int .i64 0, .int .i64 0, .slice none 0 0] 34) = WA at *
        refine hh_one 11 (by kernel_rfl) rfl rfl (fun K hK => wp_callsE (some 68) rfl 11 _ (ex_call3h 11 (.tmp 57) (.tmp 62) (.tmp 67) _ rfl _ _ _ rfl rfl rfl (fun _ _ => rfl)) _ (HCT.out _ hba) (fun v2 w2 hR => hK _ _ (by obtain ⟨_, _, _, _, _, _, _, _, hop⟩ := hR; exact HCE.out _ (HST.out _ _ _ hba hop (Fr.refl _ _)).2.1) ?_))
        clear hK K
        simp only [Act.put, List.setIfInBounds_toArray, List.set_cons_zero, List.set_cons_succ]
        obtain ⟨x, aa, c8, f, rfl, hf0, hxx, hrow0, hop⟩ := hR
        have HBN := (HST.out _ _ _ hba hop (Fr.refl _ _)).2.1
        have hplt : p < wr.heap.size := HPL.out
        have hsvlt := HSVL.out
        have hrN : w2.heap[wr.heap.size]? = some (.cells #[.int .i64 0, .int .i64 0, .slice none 0 0] 34 (0, 0)) := by
          obtain ⟨_, _, _, hfo, _⟩ := (hop : OpS _ _ _ _ _ _ _)
          exact (hfo.block _ (Array.getElem?_eq_some_iff.1 hrN0).1 (fun e => by rcases e with e | e; omega; have := hsvlt _ e; omega)).trans hrN0
        have hrow : Row (wr.heap.size + 1) w2 (.slice aa x.bytes.length c8) x.bytes := by rw [← hsA]; exact hrow0
        have hNne : ∀ gg, (Value.slice aa x.bytes.length c8).ownBlock = some gg → gg ≠ wr.heap.size := fun gg hgg e => by have := row_base hrow gg hgg; omega
        obtain ⟨WN, hWN⟩ : ∃ WN, WN = w2 := ⟨_, rfl⟩
        obtain ⟨N, hNN⟩ : ∃ N, N = wr.heap.size := ⟨_, rfl⟩
        have hN : wr.heap.size ≤ N := by omega
        have hNlow : wr.heap.size ≤ N := hN
        have hfn : Fr (fun k => wr.heap.size ≤ k) w2 WN := by rw [hWN]; exact Fr.refl _ _
        have hsame : ∀ gg, gg < w2.heap.size → WN.heap[gg]? = w2.heap[gg]? := fun gg _ => by rw [hWN]
        have hszz : w2.heap.size ≤ (WN.setRow N #[.int .i64 x.src, .int .i64 x.dst, .slice aa x.bytes.length c8]).heap.size := by rw [setRow_size, hWN]; exact Nat.le_refl _
        rw [← hWN] at hrN HBN
        rw [← hNN] at hrN hNne
        rw [← hWN, ← hNN]
        clear hNN hWN
        refine hh_take 12 (some 56) (.tuple #[.agg #[.int .i64 x.src, .int .i64 x.dst, .slice aa x.bytes.length c8], .int .i64 f]) rfl rfl (by kernel_rfl) (by kernel_rfl) (by kernel_rfl) (fun _ _ _ h => h) rfl (fun _ _ => rfl) (HCE.out _ HBN) ?_
        simp only [Act.put, List.setIfInBounds_toArray, List.set_cons_zero, List.set_cons_succ]
        refine hh_take 13 (some 69) (.agg #[.int .i64 x.src, .int .i64 x.dst, .slice aa x.bytes.length c8]) rfl rfl (by kernel_rfl) (by kernel_rfl) (by kernel_rfl) (fun _ _ _ h => h) rfl (fun _ _ => by first | rfl | kernel_rfl | go_simp) (HCE.out _ HBN) ?_
        simp only [Act.put, List.setIfInBounds_toArray, List.set_cons_zero, List.set_cons_succ]
        refine hh_take 14 (some 70) (.int .i64 f) rfl rfl (by kernel_rfl) (by kernel_rfl) (by kernel_rfl) (fun _ _ _ h => h) rfl (fun _ _ => by first | rfl | kernel_rfl | go_simp) (HCE.out _ HBN) ?_
        simp only [Act.put, List.setIfInBounds_toArray, List.set_cons_zero, List.set_cons_succ]
        obtain ⟨WZ, hWZ⟩ : ∃ WZ, WN.setRow N #[.int .i64 x.src, .int .i64 x.dst, .slice aa x.bytes.length c8] = WZ := ⟨_, rfl⟩
        have hfz : Fr (fun k => wr.heap.size ≤ k) w2 WZ := by
          rw [← hWZ]
          exact ⟨hfn.os, hfn.tape, hfn.output, by rw [setRow_size]; exact hfn.size, fun k hk hn => (setRow_other _ _ _ _ (fun e => hn (by omega))).trans (hfn.block k hk hn)⟩
        have hrz : WZ.heap[N]? = some (.cells #[.int .i64 x.src, .int .i64 x.dst, .slice aa x.bytes.length c8] 34 (0, 0)) := by rw [← hWZ]; exact setRow_heap _ _ _ _ _ _ hrN
        have hbyz : Byz WZ (.slice aa x.bytes.length c8) x.bytes := by rw [← hWZ]; exact (hrow.kept hszz (fun gg hgg => (setRow_other _ _ _ _ (hNne gg hgg)).trans (hsame gg (hrow.1.lt gg hgg)))).1.z
        have hnew : ∀ gg, (Value.slice aa x.bytes.length c8).ownBlock = some gg → wr.heap.size ≤ gg ∧ gg ≠ N := fun gg hgg => ⟨by have := row_base hrow gg hgg; omega, hNne gg hgg⟩
        obtain ⟨hopz, -, hbz⟩ := HST.out _ _ _ hba hop hfz
        refine hh_one 16 (by kernel_rfl) rfl rfl (fun K hK => wp_store_row 34 (.tmp 9) (.tmp 69) rfl N _ rfl rfl 34 _ hrN (HI3 _ _ _ _ _).out rfl (cellsU3 _ _ _ ⟨_, _, _, rfl⟩) ?_)
        rw [hWZ]
        refine hK _ _ (HCE.out _ hbz) ?_
        clear hK K
        simp only [Act.put]
        refine hh_take 17 (some 10) (.int .i64 f) rfl rfl (by kernel_rfl) (by kernel_rfl) (by kernel_rfl) (fun _ _ _ h => h) rfl (fun _ _ => rfl) (HCE.out _ hbz) ?_
        simp only [Act.put, List.setIfInBounds_toArray, List.set_cons_zero, List.set_cons_succ]
        refine wpAnyH_done (by kernel_rfl) ?_ _
        obtain ⟨sv', ps', hM, hsep⟩ := HNX.out _ hopz
        obtain ⟨i4, i5⟩ := HCE.out _ hbz
        have HM := Lib.hid hM
        have HSEP := Lib.hid hsep
        have HBZ := Lib.hid hbz
        have HRZ := Lib.hid hrz
        have HBYZ := Lib.hid hbyz
        have HNEW := Lib.hid hnew
        have HXX := Lib.hid hxx
        clear hopz hbz hfz hWZ hM hsep hrN hfn hop HNX HST HCT hrz hbyz hnew hrow hszz hNne hsame hxx hN
        obtain ⟨H, hH⟩ : ∃ H, b.has d.i = H := ⟨_, rfl⟩
        obtain ⟨KP, hKP⟩ : ∃ KP, d.keep = KP := ⟨_, rfl⟩
        rw [hH] at hf0 HXX HM
        rw [hKP] at i5 HM
        cases H with
        | false =>
          have hf1 : (f != 0) = true := by rw [bne, hf0]; rfl
          rw [Bool.false_and, if_neg (by simp)] at HM
          have HT := Lib.hid (⟨HM.out, HPP.out.mono, HBZ.out⟩ : TkS w WZ p (j + 1) b sv' ps' (.slice ca cs.length cc) cs (.slice ta ts.length tc) ts)
          clear HM hH hKP HXX HRZ HBYZ HNEW HSEP HPP
          go_wp2_with fail
          go_roundw
          case rel => exact ⟨j + 1, b, sv', ps', ca, cc, cs, ta, tc, ts, by omega, by omega, rfl, rfl, by go_num, HT⟩
          case measure => simp [intOf]; omega
        | true =>
          have hf1 : (f != 0) = false := by rw [bne, hf0]; rfl
          have hx := HXX.out rfl
          cases KP with
          | true =>
            rw [if_neg (by simp)] at HM
            obtain ⟨b', hb'⟩ : ∃ b', b' = b := ⟨_, rfl⟩
            obtain ⟨W9, hW9⟩ : ∃ W9, W9 = WZ := ⟨_, rfl⟩
            have HT : Hid (TkS w W9 p (j + 1) b' sv' ps' (.slice ca cs.length cc) cs (.slice ta ts.length tc) ts) := Lib.hid (by rw [hb', hW9]; exact ⟨HM.out, HPP.out.mono, HBZ.out⟩)
            have HQ := Lib.hid (HPP.out.was hx)
            have HRW : Hid (W9.heap[N]? = some (.cells #[.int .i64 x.src, .int .i64 x.dst, .slice aa x.bytes.length c8] 34 (0, 0))) := Lib.hid (by rw [hW9]; exact HRZ.out)
            have HBX : Hid (Byz W9 (.slice aa x.bytes.length c8) x.bytes) := Lib.hid (by rw [hW9]; exact HBYZ.out)
            rw [← hW9] at i4 i5 ⊢
            clear HM hH hKP HXX HRZ HBYZ HNEW HSEP HPP hx hb' hW9 HBZ
            go_wp2_with fail
            have HKR : Hid (∀ u, Below W9.heap.size W9 u → u.heap[N]? = some (.cells #[.int .i64 x.src, .int .i64 x.dst, .slice aa x.bytes.length c8] 34 (0, 0))) := Lib.hid (fun u hu => below_row HRW.out hu (Array.getElem?_eq_some_iff.1 HRW.out).1)
            have HC1 : Hid (∀ u, Below W9.heap.size W9 u → Calls Try.prog 15 #[.slice ca cs.length cc, .agg #[.int .i64 x.src, .int .i64 x.dst, .slice aa x.bytes.length c8]] u fun e w' => e = .returned (.int .i64 ((cntU x (cs.map (·.1)) : Nat) : Int)) ∧ Below W9.heap.size W9 w') := Lib.hid (fun u hu => (count_any w.heap.size u _ cs x _ (HT.out.mem.came.below hu) (HBX.out.below hu) (by omega)).mono fun _ _ ⟨h1, h2⟩ => ⟨h1, hu.trans (h2.mono hu.size)⟩)
            have HC2 : Hid (∀ u, Below W9.heap.size W9 u → Calls Try.prog 15 #[.slice ta ts.length tc, .agg #[.int .i64 x.src, .int .i64 x.dst, .slice aa x.bytes.length c8]] u fun e w' => e = .returned (.int .i64 ((cntU x (ts.map (·.1)) : Nat) : Int)) ∧ Below W9.heap.size W9 w') := Lib.hid (fun u hu => (count_any w.heap.size u _ ts x _ (HT.out.mem.taken.below hu) (HBX.out.below hu) (by first | omega | (simp; omega))).mono fun _ _ ⟨h1, h2⟩ => ⟨h1, hu.trans (h2.mono hu.size)⟩)
            obtain ⟨hq1, hq2⟩ := HQ.out
            obtain ⟨C, hCC⟩ : ∃ C : Nat, cntU x (cs.map (·.1)) = C := ⟨_, rfl⟩
            obtain ⟨T, hTT⟩ : ∃ T : Nat, cntU x (ts.map (·.1)) = T := ⟨_, rfl⟩
            rw [hCC] at HC1 hq1 hq2
            rw [hTT] at HC2 hq1
            have g1 : ¬ (C : Int) < (T : Int) := by omega
            have g2 : ((C : Int) == 0) = false := by rw [beq_eq_false_iff_ne]; omega
            have HLO : Hid (∀ u, Below W9.heap.size W9 u → TkS w u p (j + 1) b' sv' ps' (.slice ca cs.length cc) cs (.slice ta ts.length tc) ts) := Lib.hid (fun u hu => ⟨HT.out.mem.low hu, HT.out.pl, HT.out.below.trans (hu.mono HT.out.below.size)⟩)
            have hbd := (Below.refl W9.heap.size W9).drew
            clear hCC hTT hq1 hq2 HQ
            refine wp_region_held_drew (S := fun u => u.heap[N]? = some (.cells #[.int .i64 x.src, .int .i64 x.dst, .slice aa x.bytes.length c8] 34 (0, 0))) (by kernel_rfl) (HKR.out _ hbd) (fun _ => ?_)
            refine hh_take 0 (some 83) (.func (.func 15) #[] #[]) rfl rfl (by kernel_rfl) (by kernel_rfl) (by kernel_rfl) (fun _ _ _ h => h) rfl (fun _ _ => rfl) (HKR.out _ hbd) ?_
            simp only [Act.put, List.setIfInBounds_toArray, List.set_cons_zero, List.set_cons_succ]
            refine hh_take 1 (some 84) (.slice ca cs.length cc) rfl rfl (by kernel_rfl) (by kernel_rfl) (by kernel_rfl) (fun _ _ _ h => h) rfl (fun _ _ => rfl) (HKR.out _ hbd) ?_
            simp only [Act.put, List.setIfInBounds_toArray, List.set_cons_zero, List.set_cons_succ]
            refine hh_take 2 (some 85) (.agg #[.int .i64 x.src, .int .i64 x.dst, .slice aa x.bytes.length c8]) rfl rfl (by kernel_rfl) (by kernel_rfl) (by kernel_rfl) (fun _ _ _ h => h) rfl (fun W hW => ex_load 34 (.tmp 9) rfl _ _ rfl (run_load_und W _ _ _ _ ⟨_, _, _, rfl⟩ hW)) (HKR.out _ hbd) ?_
            simp only [Act.put, List.setIfInBounds_toArray, List.set_cons_zero, List.set_cons_succ]
            refine hh_take 4 (some 87) (.func (.func 15) #[] #[]) rfl rfl (by kernel_rfl) (by kernel_rfl) (by kernel_rfl) (fun _ _ _ h => h) rfl (fun _ _ => rfl) (HKR.out _ hbd) ?_
            simp only [Act.put, List.setIfInBounds_toArray, List.set_cons_zero, List.set_cons_succ]
            refine hh_take 5 (some 88) (.slice ta ts.length tc) rfl rfl (by kernel_rfl) (by kernel_rfl) (by kernel_rfl) (fun _ _ _ h => h) rfl (fun _ _ => rfl) (HKR.out _ hbd) ?_
            simp only [Act.put, List.setIfInBounds_toArray, List.set_cons_zero, List.set_cons_succ]
            refine hh_take 6 (some 89) (.agg #[.int .i64 x.src, .int .i64 x.dst, .slice aa x.bytes.length c8]) rfl rfl (by kernel_rfl) (by kernel_rfl) (by kernel_rfl) (fun _ _ _ h => h) rfl (fun W hW => ex_load 34 (.tmp 9) rfl _ _ rfl (run_load_und W _ _ _ _ ⟨_, _, _, rfl⟩ hW)) (HKR.out _ hbd) ?_
            simp only [Act.put, List.setIfInBounds_toArray, List.set_cons_zero, List.set_cons_succ]
            refine hh_one 3 (by kernel_rfl) rfl rfl (fun K hK => wp_callsh (some 86) rfl 15 _ (ex_callv2 15 (.tmp 83) (.tmp 84) (.tmp 85) _ rfl _ _ rfl rfl rfl (fun _ _ => rfl)) _ _ (HC1.out _ hbd) (fun m1 hm1 => hK _ _ (HKR.out _ hm1) ?_))
            clear hK K
            simp only [Act.put, List.setIfInBounds_toArray, List.set_cons_zero, List.set_cons_succ]
            refine hh_one 7 (by kernel_rfl) rfl rfl (fun K hK => wp_callsh (some 90) rfl 15 _ (ex_callv2 15 (.tmp 87) (.tmp 88) (.tmp 89) _ rfl _ _ rfl rfl rfl (fun _ _ => rfl)) _ _ (HC2.out _ hm1) (fun m2 hm2 => hK _ _ (HKR.out _ hm2) ?_))
            clear hK K
            simp only [Act.put, List.setIfInBounds_toArray, List.set_cons_zero, List.set_cons_succ]
            refine hh_take 8 (some 91) (.bool false) rfl rfl (by kernel_rfl) (by kernel_rfl) (by kernel_rfl) (fun _ _ _ h => h) rfl (fun _ _ => by go_simp) (HKR.out _ hm2) ?_
            simp only [Act.put, List.setIfInBounds_toArray, List.set_cons_zero, List.set_cons_succ]
            refine hh_take 9 (some 92) (.bool false) rfl rfl (by kernel_rfl) (by kernel_rfl) (by kernel_rfl) (fun _ _ _ h => h) rfl (fun _ _ => rfl) (HKR.out _ hm2) ?_
            simp only [Act.put, List.setIfInBounds_toArray, List.set_cons_zero, List.set_cons_succ]
            refine hh_take 10 (some 93) (.func (.func 15) #[] #[]) rfl rfl (by kernel_rfl) (by kernel_rfl) (by kernel_rfl) (fun _ _ _ h => h) rfl (fun _ _ => rfl) (HKR.out _ hm2) ?_
            simp only [Act.put, List.setIfInBounds_toArray, List.set_cons_zero, List.set_cons_succ]
            refine hh_take 11 (some 94) (.slice ca cs.length cc) rfl rfl (by kernel_rfl) (by kernel_rfl) (by kernel_rfl) (fun _ _ _ h => h) rfl (fun _ _ => rfl) (HKR.out _ hm2) ?_
            simp only [Act.put, List.setIfInBounds_toArray, List.set_cons_zero, List.set_cons_succ]
            refine hh_take 12 (some 95) (.agg #[.int .i64 x.src, .int .i64 x.dst, .slice aa x.bytes.length c8]) rfl rfl (by kernel_rfl) (by kernel_rfl) (by kernel_rfl) (fun _ _ _ h => h) rfl (fun W hW => ex_load 34 (.tmp 9) rfl _ _ rfl (run_load_und W _ _ _ _ ⟨_, _, _, rfl⟩ hW)) (HKR.out _ hm2) ?_
            simp only [Act.put, List.setIfInBounds_toArray, List.set_cons_zero, List.set_cons_succ]
            refine hh_oneG 13 (by kernel_rfl) rfl rfl (fun K hK => wp_callsh (some 96) rfl 15 _ (ex_callv2 15 (.tmp 93) (.tmp 94) (.tmp 95) _ rfl _ _ rfl rfl rfl (fun _ _ => rfl)) _ _ (HC1.out _ hm2) (fun m3 hm3 => hK _ _ (HKR.out _ hm3) ?_))
            clear hK K
            simp only [Act.put, List.setIfInBounds_toArray, List.set_cons_zero, List.set_cons_succ]
            refine hh_take 14 (some 97) (.bool false) rfl rfl (by kernel_rfl) (by kernel_rfl) (by kernel_rfl) (fun _ _ _ h => h) rfl (fun _ _ => by go_simp) (HKR.out _ hm3) ?_
            simp only [Act.put, List.setIfInBounds_toArray, List.set_cons_zero, List.set_cons_succ]
            refine hh_take 15 (some 98) (.bool false) rfl rfl (by kernel_rfl) (by kernel_rfl) (by kernel_rfl) (fun _ _ _ h => h) rfl (fun _ _ => by first | rfl | kernel_rfl | go_simp) (HKR.out _ hm3) ?_
            simp only [Act.put, List.setIfInBounds_toArray, List.set_cons_zero, List.set_cons_succ]
            refine wpAnyH_done (by kernel_rfl) ?_ _
            clear hm1 hm2
            have HZ := Lib.hid (HLO.out _ hm3)
            clear hm3 hbd HLO HKR HC1 HC2
            go_wp2
            go_roundw
            case rel => exact ⟨j + 1, b', sv', ps', ca, cc, cs, ta, tc, ts, by omega, by omega, rfl, rfl, by go_num, HZ⟩
            case measure => simp [intOf]; omega
          | false =>
            rw [if_pos (by simp)] at HM
            obtain ⟨ta', tc', W9, hrun, hu9, hg9, hw9⟩ := appV WZ (x, Value.slice aa x.bytes.length c8) HM.out.taken HBZ.out.size (by omega) HBYZ.out (fun _ gg hgg e => (HSEP.out gg (HNEW.out gg hgg).1).2.2.2 (Or.inl e))
            have hM9 := (HM.out.swap.more hu9 hg9 hw9 (fun _ gg hgg => ⟨⟨(HSEP.out gg (HNEW.out gg hgg).1).1, (HSEP.out gg (HNEW.out gg hgg).1).2.1⟩, fun e => (HSEP.out gg (HNEW.out gg hgg).1).2.2.1 (Or.inl e)⟩)).swap
            have hlow := HM.out.taken.low
            have hne9 : ∀ k, wr.heap.size ≤ k → (Value.slice ta ts.length tc).ownBlock ≠ some k := fun k hk e => (HSEP.out k hk).2.2.2 (Or.inl e)
            obtain ⟨b', hb'⟩ : ∃ b', b.cut d.i.toNat = b' := ⟨_, rfl⟩
            have hP9 : TkP (j + 1) b' cs (ts ++ [(x, Value.slice aa x.bytes.length c8)]) := by rw [← hb']; exact HPP.out.cut hx
            have HT : Hid (TkS w W9 p (j + 1) b' sv' ps' (.slice ca cs.length cc) cs (.slice ta' (ts ++ [(x, Value.slice aa x.bytes.length c8)]).length tc') (ts ++ [(x, Value.slice aa x.bytes.length c8)])) := Lib.hid ⟨by rw [← hb']; exact hM9, hP9, HBZ.out.grown hg9 HBZ.out.size (fun k e => hlow k e)⟩
            have HQ := Lib.hid hP9.was2
            have HRW : Hid (W9.heap[N]? = some (.cells #[.int .i64 x.src, .int .i64 x.dst, .slice aa x.bytes.length c8] 34 (0, 0))) := Lib.hid ((hg9.block N (Array.getElem?_eq_some_iff.1 HRZ.out).1 (fun e => hne9 N hNlow e.symm)).trans HRZ.out)
            have HBX : Hid (Byz W9 (.slice aa x.bytes.length c8) x.bytes) := Lib.hid (HBYZ.out.kept hg9.size (fun gg hgg hn => hg9.block gg (HBYZ.out.lt gg hgg hn) (fun e => hne9 gg (HNEW.out gg hgg).1 e.symm)))
            have HAP := Lib.hid hrun
            unfold unC at HAP
            have HIU := HI3 x.src x.dst aa x.bytes.length c8
            clear HM hH hKP HXX HBYZ HNEW HSEP HPP hx hb' HBZ hrun hu9 hg9 hw9 hM9 hlow hne9 hP9
            go_wp2_with (first
              | (refine wpList_load_row rfl 34 _ rfl N rfl 34 _ (0, 0) _ HRZ.out Try.underlying34 rfl HIU.out ?_)
              | (at_builtin; refine wpList_append_run _ rfl _ _ 43 43 rfl _ _ rfl rfl _ W9 HAP.out ?_))
            obtain ⟨TS2, hTS2⟩ : ∃ TS2 : List UV, ts ++ [(x, Value.slice aa x.bytes.length c8)] = TS2 := ⟨_, rfl⟩
            have hTSl : ts.length + 1 = TS2.length := by rw [← hTS2]; simp
            have hlts2 : TS2.length ≤ 101 := by rw [← hTS2]; simp; omega
            rw [hTS2] at HT HQ
            rw [hTSl]
            clear hTS2 hTSl
            have HKR : Hid (∀ u, Below W9.heap.size W9 u → u.heap[N]? = some (.cells #[.int .i64 x.src, .int .i64 x.dst, .slice aa x.bytes.length c8] 34 (0, 0))) := Lib.hid (fun u hu => below_row HRW.out hu (Array.getElem?_eq_some_iff.1 HRW.out).1)
            have HC1 : Hid (∀ u, Below W9.heap.size W9 u → Calls Try.prog 15 #[.slice ca cs.length cc, .agg #[.int .i64 x.src, .int .i64 x.dst, .slice aa x.bytes.length c8]] u fun e w' => e = .returned (.int .i64 ((cntU x (cs.map (·.1)) : Nat) : Int)) ∧ Below W9.heap.size W9 w') := Lib.hid (fun u hu => (count_any w.heap.size u _ cs x _ (HT.out.mem.came.below hu) (HBX.out.below hu) (by omega)).mono fun _ _ ⟨h1, h2⟩ => ⟨h1, hu.trans (h2.mono hu.size)⟩)
            have HC2 : Hid (∀ u, Below W9.heap.size W9 u → Calls Try.prog 15 #[.slice ta' TS2.length tc', .agg #[.int .i64 x.src, .int .i64 x.dst, .slice aa x.bytes.length c8]] u fun e w' => e = .returned (.int .i64 ((cntU x (TS2.map (·.1)) : Nat) : Int)) ∧ Below W9.heap.size W9 w') := Lib.hid (fun u hu => (count_any w.heap.size u _ TS2 x _ (HT.out.mem.taken.below hu) (HBX.out.below hu) (by first | omega | (simp; omega))).mono fun _ _ ⟨h1, h2⟩ => ⟨h1, hu.trans (h2.mono hu.size)⟩)
            obtain ⟨hq1, hq2⟩ := HQ.out
            obtain ⟨C, hCC⟩ : ∃ C : Nat, cntU x (cs.map (·.1)) = C := ⟨_, rfl⟩
            obtain ⟨T, hTT⟩ : ∃ T : Nat, cntU x (TS2.map (·.1)) = T := ⟨_, rfl⟩
            rw [hCC] at HC1 hq1 hq2
            rw [hTT] at HC2 hq1
            have g1 : ¬ (C : Int) < (T : Int) := by omega
            have g2 : ((C : Int) == 0) = false := by rw [beq_eq_false_iff_ne]; omega
            have HLO : Hid (∀ u, Below W9.heap.size W9 u → TkS w u p (j + 1) b' sv' ps' (.slice ca cs.length cc) cs (.slice ta' TS2.length tc') TS2) := Lib.hid (fun u hu => ⟨HT.out.mem.low hu, HT.out.pl, HT.out.below.trans (hu.mono HT.out.below.size)⟩)
            have hbd := (Below.refl W9.heap.size W9).drew
            clear hCC hTT hq1 hq2 HQ
            refine wp_region_held_drew (S := fun u => u.heap[N]? = some (.cells #[.int .i64 x.src, .int .i64 x.dst, .slice aa x.bytes.length c8] 34 (0, 0))) (by kernel_rfl) (HKR.out _ hbd) (fun _ => ?_)
            refine hh_take 0 (some 83) (.func (.func 15) #[] #[]) rfl rfl (by kernel_rfl) (by kernel_rfl) (by kernel_rfl) (fun _ _ _ h => h) rfl (fun _ _ => rfl) (HKR.out _ hbd) ?_
            simp only [Act.put, List.setIfInBounds_toArray, List.set_cons_zero, List.set_cons_succ]
            refine hh_take 1 (some 84) (.slice ca cs.length cc) rfl rfl (by kernel_rfl) (by kernel_rfl) (by kernel_rfl) (fun _ _ _ h => h) rfl (fun _ _ => rfl) (HKR.out _ hbd) ?_
            simp only [Act.put, List.setIfInBounds_toArray, List.set_cons_zero, List.set_cons_succ]
            refine hh_take 2 (some 85) (.agg #[.int .i64 x.src, .int .i64 x.dst, .slice aa x.bytes.length c8]) rfl rfl (by kernel_rfl) (by kernel_rfl) (by kernel_rfl) (fun _ _ _ h => h) rfl (fun W hW => ex_load 34 (.tmp 9) rfl _ _ rfl (run_load_und W _ _ _ _ ⟨_, _, _, rfl⟩ hW)) (HKR.out _ hbd) ?_
            simp only [Act.put, List.setIfInBounds_toArray, List.set_cons_zero, List.set_cons_succ]
            refine hh_take 4 (some 87) (.func (.func 15) #[] #[]) rfl rfl (by kernel_rfl) (by kernel_rfl) (by kernel_rfl) (fun _ _ _ h => h) rfl (fun _ _ => rfl) (HKR.out _ hbd) ?_
            simp only [Act.put, List.setIfInBounds_toArray, List.set_cons_zero, List.set_cons_succ]
            refine hh_take 5 (some 88) (.slice ta' TS2.length tc') rfl rfl (by kernel_rfl) (by kernel_rfl) (by kernel_rfl) (fun _ _ _ h => h) rfl (fun _ _ => rfl) (HKR.out _ hbd) ?_
            simp only [Act.put, List.setIfInBounds_toArray, List.set_cons_zero, List.set_cons_succ]
            refine hh_take 6 (some 89) (.agg #[.int .i64 x.src, .int .i64 x.dst, .slice aa x.bytes.length c8]) rfl rfl (by kernel_rfl) (by kernel_rfl) (by kernel_rfl) (fun _ _ _ h => h) rfl (fun W hW => ex_load 34 (.tmp 9) rfl _ _ rfl (run_load_und W _ _ _ _ ⟨_, _, _, rfl⟩ hW)) (HKR.out _ hbd) ?_
            simp only [Act.put, List.setIfInBounds_toArray, List.set_cons_zero, List.set_cons_succ]
            refine hh_one 3 (by kernel_rfl) rfl rfl (fun K hK => wp_callsh (some 86) rfl 15 _ (ex_callv2 15 (.tmp 83) (.tmp 84) (.tmp 85) _ rfl _ _ rfl rfl rfl (fun _ _ => rfl)) _ _ (HC1.out _ hbd) (fun m1 hm1 => hK _ _ (HKR.out _ hm1) ?_))
            clear hK K
            simp only [Act.put, List.setIfInBounds_toArray, List.set_cons_zero, List.set_cons_succ]
            refine hh_one 7 (by kernel_rfl) rfl rfl (fun K hK => wp_callsh (some 90) rfl 15 _ (ex_callv2 15 (.tmp 87) (.tmp 88) (.tmp 89) _ rfl _ _ rfl rfl rfl (fun _ _ => rfl)) _ _ (HC2.out _ hm1) (fun m2 hm2 => hK _ _ (HKR.out _ hm2) ?_))
            clear hK K
            simp only [Act.put, List.setIfInBounds_toArray, List.set_cons_zero, List.set_cons_succ]
            refine hh_take 8 (some 91) (.bool false) rfl rfl (by kernel_rfl) (by kernel_rfl) (by kernel_rfl) (fun _ _ _ h => h) rfl (fun _ _ => by go_simp) (HKR.out _ hm2) ?_
            simp only [Act.put, List.setIfInBounds_toArray, List.set_cons_zero, List.set_cons_succ]
            refine hh_take 9 (some 92) (.bool false) rfl rfl (by kernel_rfl) (by kernel_rfl) (by kernel_rfl) (fun _ _ _ h => h) rfl (fun _ _ => rfl) (HKR.out _ hm2) ?_
            simp only [Act.put, List.setIfInBounds_toArray, List.set_cons_zero, List.set_cons_succ]
            refine hh_take 10 (some 93) (.func (.func 15) #[] #[]) rfl rfl (by kernel_rfl) (by kernel_rfl) (by kernel_rfl) (fun _ _ _ h => h) rfl (fun _ _ => rfl) (HKR.out _ hm2) ?_
            simp only [Act.put, List.setIfInBounds_toArray, List.set_cons_zero, List.set_cons_succ]
            refine hh_take 11 (some 94) (.slice ca cs.length cc) rfl rfl (by kernel_rfl) (by kernel_rfl) (by kernel_rfl) (fun _ _ _ h => h) rfl (fun _ _ => rfl) (HKR.out _ hm2) ?_
            simp only [Act.put, List.setIfInBounds_toArray, List.set_cons_zero, List.set_cons_succ]
            refine hh_take 12 (some 95) (.agg #[.int .i64 x.src, .int .i64 x.dst, .slice aa x.bytes.length c8]) rfl rfl (by kernel_rfl) (by kernel_rfl) (by kernel_rfl) (fun _ _ _ h => h) rfl (fun W hW => ex_load 34 (.tmp 9) rfl _ _ rfl (run_load_und W _ _ _ _ ⟨_, _, _, rfl⟩ hW)) (HKR.out _ hm2) ?_
            simp only [Act.put, List.setIfInBounds_toArray, List.set_cons_zero, List.set_cons_succ]
            refine hh_oneG 13 (by kernel_rfl) rfl rfl (fun K hK => wp_callsh (some 96) rfl 15 _ (ex_callv2 15 (.tmp 93) (.tmp 94) (.tmp 95) _ rfl _ _ rfl rfl rfl (fun _ _ => rfl)) _ _ (HC1.out _ hm2) (fun m3 hm3 => hK _ _ (HKR.out _ hm3) ?_))
            clear hK K
            simp only [Act.put, List.setIfInBounds_toArray, List.set_cons_zero, List.set_cons_succ]
            refine hh_take 14 (some 97) (.bool false) rfl rfl (by kernel_rfl) (by kernel_rfl) (by kernel_rfl) (fun _ _ _ h => h) rfl (fun _ _ => by go_simp) (HKR.out _ hm3) ?_
            simp only [Act.put, List.setIfInBounds_toArray, List.set_cons_zero, List.set_cons_succ]
            refine hh_take 15 (some 98) (.bool false) rfl rfl (by kernel_rfl) (by kernel_rfl) (by kernel_rfl) (fun _ _ _ h => h) rfl (fun _ _ => by first | rfl | kernel_rfl | go_simp) (HKR.out _ hm3) ?_
            simp only [Act.put, List.setIfInBounds_toArray, List.set_cons_zero, List.set_cons_succ]
            refine wpAnyH_done (by kernel_rfl) ?_ _
            clear hm1 hm2
            have HZ := Lib.hid (HLO.out _ hm3)
            clear hm3 hbd HLO HKR HC1 HC2
            go_wp2
            go_roundw
            case rel => exact ⟨j + 1, b', sv', ps', ca, cc, cs, ta', tc', TS2, by omega, by omega, rfl, rfl, by go_num, HZ⟩
            case measure => simp [intOf]; omega
    · -- Lose
      have e0 : (d.act == 0) = false := by rw [hact]; rfl
      have e1 : (d.act == 1) = false := by rw [hact]; rfl
      have e2 : (d.act == 2) = true := by rw [hact]; rfl
      have HA := Lib.hid (lose_any w.heap.size p wr b sv ps d.i HS.out.mem.bag (by have := HS.out.pl.fits; omega) (by have := HS.out.pl.lo; omega))
      have a4 : wr.cell? ⟨g, off + j * 6 + 4, none⟩ = some (.int .i64 d.i) := hrg 4 _ rfl
      have HADD : Hid (∀ w', OpS w.heap.size wr p sv ps (b.lose d.i).2 w' → ∃ sv' ps', TkS w w' p (j + 1) (b.lose d.i).2 sv' ps' (.slice ca cs.length cc) cs (.slice ta ts.length tc) ts) := Lib.hid (fun w' hop => by
        have hbb := OpR.low HS.out.mem.bag HS.out.below rfl hop.op
        obtain ⟨sv', ps', h1, _⟩ := HS.out.mem.op hop.op
        exact ⟨sv', ps', h1, HS.out.pl.lose, hbb⟩)
      obtain ⟨b', hb'⟩ : ∃ b', (b.lose d.i).2 = b' := ⟨_, rfl⟩
      rw [hb'] at HA HADD
      generalize (b.lose d.i).1 = E at *
      clear hrg hbz hb' hact HS hbl
      go_wp2_with fail
      refine HA.out.mono ?_
      rintro e w3 ⟨rfl, hop⟩
      obtain ⟨sv', ps', hT⟩ := HADD.out w3 hop
      have HT := Lib.hid hT
      clear hop hT HADD HA a0 a4
      go_wp2_with fail
      go_roundw
      case rel => exact ⟨j + 1, b', sv', ps', ca, cc, cs, ta, tc, ts, by omega, by omega, rfl, rfl, by go_num, HT⟩
      case measure => simp [intOf]; omega
    · -- nothing
      have e0 : (d.act == 0) = false := by rw [beq_eq_false_iff_ne]; exact hact0
      have e1 : (d.act == 1) = false := by rw [beq_eq_false_iff_ne]; exact hact1
      have e2 : (d.act == 2) = false := by rw [beq_eq_false_iff_ne]; exact hact2
      have HT := Lib.hid (⟨HS.out.mem, HS.out.pl.mono, HS.out.below⟩ : TkS w wr p (j + 1) b sv ps (.slice ca cs.length cc) cs (.slice ta ts.length tc) ts)
      clear hrg hbz hact0 hact1 hact2 HS hbl
      go_wp2_with fail
      go_roundw
      case rel => exact ⟨j + 1, b, sv, ps, ca, cc, cs, ta, tc, ts, by omega, by omega, rfl, rfl, by go_num, HT⟩
      case measure => simp [intOf]; omega
end Go.Proofs.Ytdcpdeiljabkaaa
