/- Deed: the document's PutUser and Bytes -/
import Derived.Test.YtjljbnilckkjnaaDoorGR2
import Derived.Test.YtjljbnilckkjnaaDoorGR1
import Derived.Test.YtjljbnilckkjnaaDoorG24
import Derived.Deep.RegionHeld3
import Derived.OrdersHeld
import Derived.Deep.RegionHeld
import Derived.WalkSpells
namespace Go.Proofs.YtjljbnilckkjnaaDoor
open Go Go.RowKit
section
variable {P : Program} {ops : Array Oper} {Q : Exit → Act → World → Prop} {md : Region.Mode} {S : World → Prop}
theorem hh_take (i : Nat) (d : Option Tmp) (v : Value) {oi : Oper} {fuel : Nat} {listed : Array Bool} {a : Act} {w : World} (hi : ops[i]? = some oi) (hd : oi.dst = d)
    (hs : Region.noSelect ops = true) (hf : Region.free md ops listed i = true) (hr : (Region.ready md ops listed).contains i = true)
    (hQ : ∀ c a w, Q (.panic c) (a.put d v) w → Q (.panic c) a w) (hg : Region.wanted oi (yielded ops a.tmps) = true) (hy : ∀ w, S w → (execOp a.eval oi).run P w = .ok (.value v) w) (hS : S w)
    (h : wpAnyH P md ops Q S fuel (listed.setIfInBounds i true) (a.put d v) w) : wpAnyH P md ops Q S (fuel + 1) listed a w := by
  subst hd
  exact wpAnyH_take hi hs hf hr hQ (Or.inl ⟨hg, hy⟩) hS h
theorem hh_one (i : Nat) {o : Oper} {fuel : Nat} {listed : Array Bool} {a : Act} {w : World} (hr : Region.ready md ops listed = [i]) (ho : ops[i]? = some o) (hg : o.guard = none)
    (h : ∀ K : Act → World → Prop, (∀ a' w', S w' → wpAnyH P md ops Q S fuel (listed.setIfInBounds i true) a' w' → K a' w') → o.wp P a w K Q) : wpAnyH P md ops Q S (fuel + 1) listed a w :=
  wpAnyH_ready hr (by simp) (AllReadyH.cons ho (fun K hK => by rw [if_pos (by simp [Region.wanted, hg])]; exact h K (fun a' w' hS' hn => hK.out a' w' hS' (fun _ => hn))) AllReadyH.nil)
theorem wp_callsh {o : Oper} {a : Act} {w : World} {K : Act → World → Prop} (d : Option Tmp) (hd : o.dst = d) (f : FuncId) (args : Array Value) (hr : (execOp a.eval o).run P w = .ok (.enter f args) w) (v : Value) (R : World → Prop)
    (hc : Calls P f args w fun e w' => e = .returned v ∧ R w') (h : ∀ w', R w' → K (a.put d v) w') : o.wp P a w K Q := by
  subst hd
  unfold Oper.wp
  rw [hr]
  refine hc.mono ?_
  rintro e w' ⟨rfl, hR⟩
  exact h w' hR
theorem hh_two (i j : Nat) {o o' : Oper} {fuel : Nat} {listed : Array Bool} {a : Act} {w : World} (hr : Region.ready md ops listed = [i, j]) (ho : ops[i]? = some o) (hg : o.guard = none) (ho' : ops[j]? = some o') (hg' : o'.guard = none)
    (h : ∀ K : Act → World → Prop, (∀ a' w', S w' → wpAnyH P md ops Q S fuel (listed.setIfInBounds i true) a' w' → K a' w') → o.wp P a w K Q)
    (h' : ∀ K : Act → World → Prop, (∀ a' w', S w' → wpAnyH P md ops Q S fuel (listed.setIfInBounds j true) a' w' → K a' w') → o'.wp P a w K Q) : wpAnyH P md ops Q S (fuel + 1) listed a w :=
  wpAnyH_ready hr (by simp) (AllReadyH.cons ho (fun K hK => by rw [if_pos (by simp [Region.wanted, hg])]; exact h K (fun a' w' hS' hn => hK.out a' w' hS' (fun _ => hn))) (AllReadyH.cons ho' (fun K hK => by rw [if_pos (by simp [Region.wanted, hg'])]; exact h' K (fun a' w' hS' hn => hK.out a' w' hS' (fun _ => hn))) AllReadyH.nil))
theorem hh_oneG (i : Nat) {o : Oper} {fuel : Nat} {listed : Array Bool} {a : Act} {w : World} (hr : Region.ready md ops listed = [i]) (ho : ops[i]? = some o) (hg : Region.wanted o (yielded ops a.tmps) = true)
    (h : ∀ K : Act → World → Prop, (∀ a' w', S w' → wpAnyH P md ops Q S fuel (listed.setIfInBounds i true) a' w' → K a' w') → o.wp P a w K Q) : wpAnyH P md ops Q S (fuel + 1) listed a w :=
  wpAnyH_ready hr (by simp) (AllReadyH.cons ho (fun K hK => by rw [if_pos hg]; exact h K (fun a' w' hS' hn => hK.out a' w' hS' (fun _ => hn))) AllReadyH.nil)
theorem wp_runsh {o : Oper} {a : Act} {w w' : World} {K : Act → World → Prop} (d : Option Tmp) (hd : o.dst = d) {v : Value} (hr : (execOp a.eval o).run P w = .ok (.value v) w') (h : K (a.put d v) w') : o.wp P a w K Q := by
  subst hd; unfold Oper.wp; rw [hr, Oper.upon_value]; exact h
theorem wp_skipsh {o : Oper} {a : Act} {w w' : World} {K : Act → World → Prop} (d : Option Tmp) (hd : o.dst = d) (hr : (execOp a.eval o).run P w = .ok .skip w') (h : K (a.put d undef) w') : o.wp P a w K Q := by
  subst hd; unfold Oper.wp; rw [hr, Oper.upon_skip]; exact h
end
theorem ex_call3h {P : Program} {o : Oper} {a : Act} {w : World} (f : FuncId) (x y z : Operand) (ts : Array TypeId) (ho : o.op = .call { callee := .value (.func f), args := #[x, y, z], argTypes := ts }) (xv yv zv : Value) (hx : a.eval x = xv) (hy : a.eval y = yv) (hz : a.eval z = zv)
    (hen : ∀ args w, (callFunc f args).run P w = .ok (.enter f args) w) : (execOp a.eval o).run P w = .ok (.enter f #[xv, yv, zv]) w := by
  have hf : a.eval (.func f) = .func (.func f) #[] #[] := rfl
  unfold execOp
  simp [ho, resolve, Deferred.ofValue, invoke, hx, hy, hz, hf, hen, Sem.run_bind, Sem.run_pure, Result.andThen]
theorem wp_callsE {P : Program} {Q : Exit → Act → World → Prop} {o : Oper} {a : Act} {w : World} {K : Act → World → Prop} (d : Option Tmp) (hd : o.dst = d) (f : FuncId) (args : Array Value) (hr : (execOp a.eval o).run P w = .ok (.enter f args) w) (R : Value → World → Prop)
    (hc : Calls P f args w fun e w' => ∃ v, e = .returned v ∧ R v w') (h : ∀ v w', R v w' → K (a.put d v) w') : o.wp P a w K Q := by
  subst hd
  unfold Oper.wp
  rw [hr]
  refine hc.mono ?_
  rintro e w' ⟨v, rfl, hR⟩
  exact h v w' hR
theorem row_base_below {B : Nat} {w w' : World} {v : Value} {l : List UInt8} (h : Row B w v l) (hb : Below w.heap.size w w') : Row B w' v l := h.below hb
set_option maxHeartbeats 8000000 in
set_option maxRecDepth 100000 in
theorem refPutUser (name : ByteArray) (valid : Int) (sv : Value) (bs : List Bx) (w : World) (h : Boxes w sv bs) (hlen : bs.length ≤ 4294967295) (hs : name.size ≤ 9223372036854775807) (hbn : ∀ b ∈ bs, b.name.size ≤ 4398046511104) (hT : Tabs w) :
    Calls Tryd.prog 26 #[.agg #[.string name, .int .i64 valid, sv]] w (PutUR ⟨name, valid, bs.map Bx.dat⟩ w) := by
  obtain ⟨sa, sc, rfl⟩ := h.shape
  obtain ⟨K, hK⟩ : ∃ K, ckUser ⟨name, valid, bs.map Bx.dat⟩ = K := ⟨_, rfl⟩
  have hb0 : Below w.heap.size w (w.alloc (.cells #[.string name, .int .i64 valid, .slice sa bs.length sc] 43)) := (Below.refl _ w).alloc (Nat.le_refl _) _
  have hz : (w.alloc (.cells #[.string name, .int .i64 valid, .slice sa bs.length sc] 43)).heap.size = w.heap.size + 1 := by simp
  have hrow0 : (w.alloc (.cells #[.string name, .int .i64 valid, .slice sa bs.length sc] 43)).heap[w.heap.size]? = some (.cells #[.string name, .int .i64 valid, .slice sa bs.length sc] 43 (0, 0)) := heap_alloc_new w _
  have hC := refCheckUser name valid _ bs (w.alloc (.cells #[.string name, .int .i64 valid, .slice sa bs.length sc] 43)) (h.below hb0) hlen hs hbn (hT.below hb0 (Nat.le_refl _))
  rw [hz, hK] at hC
  have HC := Lib.hid hC
  by_cases hk0 : K = 0
  · subst hk0
    obtain ⟨f1, f2, f3, f4⟩ := ckUser_fit hK
    simp only at f1 f2 f3 f4
    rw [List.length_map] at f3
    have hle := userL_le hK
    obtain ⟨nv, hnv⟩ : ∃ nv : Nat, valid = (nv : Int) := ⟨valid.toNat, (Int.toNat_of_nonneg (by omega)).symm⟩
    subst hnv
    have hub : ∀ b ∈ bs, BoxFit b.dat := fun b hb => f4 _ (List.mem_map_of_mem hb)
    have HUL : Hid (userL ⟨name, (nv : Int), bs.map Bx.dat⟩ = textL name ++ numL 4 nv ++ numL 1 bs.length ++ (bs.map Bx.dat).flatMap bxL) := Lib.hid (by unfold userL; simp only [Int.toNat_natCast, List.length_map])
    obtain ⟨U, hU⟩ : ∃ U, userL ⟨name, (nv : Int), bs.map Bx.dat⟩ = U := ⟨_, rfl⟩
    rw [hU] at HUL hle
    have HFIN : Hid (∀ v u, Below w.heap.size w u → Row (w.heap.size + 1) u v U → PutUR ⟨name, (nv : Int), bs.map Bx.dat⟩ w (.returned (.tuple #[v, .int .i64 0])) u) := Lib.hid (fun v u hb hr => ⟨hb, Or.inr ⟨hK, v, rfl, by rw [hU]; exact ⟨hr.1, fun ad n c e => by obtain ⟨h1, h2⟩ := hr.2 ad n c e; exact ⟨by omega, h2⟩⟩⟩⟩)
    have HG : Hid (∀ u, Below (w.heap.size + 1) (w.alloc (.cells #[.string name, .int .i64 (nv : Int), .slice sa bs.length sc] 43)) u → w.heap.size < u.heap.size ∧ u.heap[w.heap.size]? = some (.cells #[.string name, .int .i64 (nv : Int), .slice sa bs.length sc] 43 (0, 0)) ∧ Below w.heap.size w u ∧ Boxes u (.slice sa bs.length sc) bs) := Lib.hid (fun u hu => by
      have h1 : u.heap[w.heap.size]? = some (.cells #[.string name, .int .i64 (nv : Int), .slice sa bs.length sc] 43 (0, 0)) := below_row hrow0 hu (by omega)
      have h2 : Below w.heap.size w u := hb0.trans (hu.mono (by omega))
      exact ⟨(Array.getElem?_eq_some_iff.1 h1).1, h1, h2, h.below h2⟩)
    have HLB : Hid (∀ b ∈ bs, Lets w b.lv b.ls) := Lib.hid (fun b hb => (h.lets b hb).1)
    have HUB := Lib.hid hub
    obtain ⟨WB, hWB⟩ : ∃ WB, w.alloc (.cells #[.string name, .int .i64 (nv : Int), .slice sa bs.length sc] 43) = WB := ⟨_, rfl⟩
    have hzB : WB.heap.size = w.heap.size + 1 := by rw [← hWB]; exact hz
    rw [hWB] at HC HG
    have HWB := Lib.hid hWB
    obtain ⟨k0, k1, k2⟩ : WB.cell? ⟨w.heap.size, 0, none⟩ = some (.string name) ∧ WB.cell? ⟨w.heap.size, 1, none⟩ = some (.int .i64 (nv : Int)) ∧ WB.cell? ⟨w.heap.size, 2, none⟩ = some (.slice sa bs.length sc) := by
      obtain ⟨_, hr, _, _⟩ := HG.out WB (Below.refl _ _)
      exact ⟨cell_of_row _ _ _ _ _ _ hr, cell_of_row _ _ _ _ _ _ hr, cell_of_row _ _ _ _ _ _ hr⟩
    have KC : ∀ wx, Below (w.heap.size + 1) WB wx → wx.cell? ⟨w.heap.size, 0, none⟩ = some (.string name) ∧ wx.cell? ⟨w.heap.size, 1, none⟩ = some (.int .i64 (nv : Int)) := fun wx hb => by
      obtain ⟨_, hr, _, _⟩ := HG.out wx hb
      exact ⟨cell_of_row _ _ _ _ _ _ hr, cell_of_row _ _ _ _ _ _ hr⟩
    have cS : ∀ wx, Below (w.heap.size + 1) WB wx → Calls Tryd.prog 55 #[.slice none 0 0, .string name] wx fun e w' => ∃ v', e = .returned v' ∧ Row (w.heap.size + 1) w' v' ([] ++ textL name) ∧ Below (w.heap.size + 1) WB w' := fun wx hb =>
      (refShort (w.heap.size + 1) wx _ [] name (Row.nil _ _) (by have := hb.size; omega) (by omega) (by simp)).mono fun e w' ⟨v', h1, h2, h3⟩ => ⟨v', h1, h2, hb.trans (h3.below (Row.nil _ _) (by have := hb.size; omega))⟩
    have cN : ∀ wx v1, Row (w.heap.size + 1) wx v1 ([] ++ textL name) → Below (w.heap.size + 1) WB wx → Calls Tryd.prog 54 #[v1, .int .i64 (nv : Int), .int .i64 4] wx fun e w' => ∃ v', e = .returned v' ∧ Row (w.heap.size + 1) w' v' ([] ++ textL name ++ numL 4 nv) ∧ Below (w.heap.size + 1) WB w' := fun wx v1 hr hb =>
      (refNum (w.heap.size + 1) wx v1 _ nv 4 hr (by have := hb.size; omega) (by omega) (by omega) (by simp only [List.length_append, textL_len, List.length_nil]; omega)).mono fun e w' ⟨v', h1, h2, h3⟩ => ⟨v', h1, h2, hb.trans (h3.below hr (by have := hb.size; omega))⟩
    clear h hT hb0 hz hrow0 hC hK hs f4 hU hub hWB
    go_enter Tryd.func26, Tryd.ntmps26
    go_wp2_with (first | rw [HWB.out])
    refine HC.out.mono ?_
    rintro e w1 ⟨rfl, hb1⟩
    have hb1d := hb1.drew
    clear HC HWB k0 k1 k2
    go_wp2_with fail
    go_region_held3 (fun wx => Below (w.heap.size + 1) WB wx ∧ wx.cell? ⟨w.heap.size, 0, none⟩ = some (.string name) ∧ wx.cell? ⟨w.heap.size, 1, none⟩ = some (.int .i64 (nv : Int))) (first | exact ⟨by assumption, KC _ (by assumption)⟩) (first
      | (go_at_call 55; ((with_reducible refine (cS _ (by assumption)).mono ?_); rintro e wn ⟨vn, rfl, hRn, hBn⟩))
      | (go_at_call 54; ((with_reducible refine (cN _ _ (by assumption) (by assumption)).mono ?_); rintro e wn ⟨vn, rfl, hRn, hBn⟩)))
    have hrB : w.heap.size + 1 ≤ wn.heap.size := by have := hBn.size; omega
    obtain ⟨v2, w2, hap, hro2, hg2⟩ := app_byte wn (UInt8.ofNat bs.length) (((UInt8.ofNat bs.length).toNat : Nat) : Int) rfl hRn hrB (by simp only [List.length_append, numL_len, textL_len, List.length_nil]; omega)
    have hcc : ((UInt8.ofNat bs.length).toNat : Int) = (bs.length : Int) := by simp; omega
    rw [hcc] at hap
    have hb2 : Below (w.heap.size + 1) WB w2 := hBn.trans (hg2.below hRn hrB)
    have HB2 := Lib.hid hb2
    have HR2 := Lib.hid (show Row (w.heap.size + 1) w2 v2 (textL name ++ numL 4 nv ++ numL 1 bs.length) by simpa [numL] using hro2)
    have HAP := Lib.hid hap
    obtain ⟨_, hrn, _, _⟩ := HG.out wn hBn
    have c2 : wn.cell? ⟨w.heap.size, 2, none⟩ = some (.slice sa bs.length sc) := cell_of_row _ _ _ _ _ _ hrn
    clear hrn hBn hRn hrB hb2 hro2 hg2 hap hcc KC cS cN hb1 hb1d
    go_wp2_with (at_builtin; refine wpList_append_run _ rfl _ _ 26 26 rfl _ _ rfl rfl _ w2 HAP.out ?_)
    go_loopw [5, 6] (fun bv iv wr => ∃ (k : Nat) (l' : List UInt8), k ≤ bs.length ∧ iv = .int .i64 (k : Int) ∧ Hid (l' ++ ((bs.map Bx.dat).drop k).flatMap bxL = U ∧ Row (w.heap.size + 1) wr bv l' ∧ Below (w.heap.size + 1) WB wr)) (fun _ iv _ => bs.length - (intOf iv).toNat)
    case atStart => exact ⟨0, _, Nat.zero_le _, rfl, Lib.hid ⟨by rw [HUL.out, List.drop_zero], HR2.out, HB2.out⟩⟩
    case round =>
      clear HR2 HB2 HAP c2 HUL
      obtain ⟨k, l', hk, rfl, hH⟩ := hrel
      obtain ⟨hgo, hr, hb⟩ := hH.out
      obtain ⟨s5, hr5, hbw, hbx⟩ := HG.out wr hb
      have c2 : wr.cell? ⟨w.heap.size, 2, none⟩ = some (.slice sa bs.length sc) := cell_of_row _ _ _ _ _ _ hr5
      by_cases hlt : k < bs.length
      · have hlt' : (k : Int) < (bs.length : Int) := by omega
        have hp := List.getElem?_eq_getElem hlt
        generalize bs[k] = b at hp
        have hmem := List.mem_of_getElem? hp
        obtain ⟨g, off, cap', e, hgl, hcs⟩ := hbx.cells (fun e => by subst e; simp at hlt)
        injection e with ea _ ec
        subst ea
        subst ec
        obtain ⟨d0, d1, d2, d3⟩ := hcs k b hp
        have hfit := HUB.out b hmem
        have hlw := HLB.out b hmem
        obtain ⟨la, lc, hlv, _⟩ := hlw.shape
        have g1 := hfit.name
        have g2 := hfit.valid
        have g3 := hfit.next
        have g4 := hfit.few
        have g5 := hfit.lets
        have e1 : b.dat.name = b.name := rfl
        have e2 : b.dat.valid = b.valid := rfl
        have e3 : b.dat.next = b.next := rfl
        have e4 : b.dat.ls = b.ls.map (·.1) := rfl
        rw [e1] at g1
        rw [e2] at g2
        rw [e3] at g3
        rw [e4, List.length_map] at g4
        rw [e4] at g5
        rw [drop_at9 (show (bs.map Bx.dat)[k]? = some b.dat by rw [List.getElem?_map, hp]; rfl), List.flatMap_cons, bxL, e1, e2, e3, e4] at hgo
        obtain ⟨n1, hn1⟩ : ∃ n1 : Nat, b.valid = (n1 : Int) := ⟨b.valid.toNat, (Int.toNat_of_nonneg (by omega)).symm⟩
        obtain ⟨n2, hn2⟩ : ∃ n2 : Nat, b.next = (n2 : Int) := ⟨b.next.toNat, (Int.toNat_of_nonneg (by omega)).symm⟩
        rw [hn1, hn2, Int.toNat_natCast, Int.toNat_natCast] at hgo
        rw [hn1] at d1 g2
        rw [hn2] at d2 g3
        rw [hlv] at d3 hlw
        have hll := len_ap (show (l' ++ boxL b.name n1 n2 (b.ls.map (·.1))) ++ ((bs.map Bx.dat).drop (k + 1)).flatMap bxL = U by rw [← hgo]; simp only [List.append_assoc])
        obtain ⟨V0, rfl⟩ : ∃ V0, V0 = u5 := ⟨_, rfl⟩
        obtain ⟨W9, rfl⟩ : ∃ W9, W9 = wr := ⟨_, rfl⟩
        obtain ⟨WX, hWX⟩ : ∃ WX, W9.alloc (.cells #[.string b.name, .int .i64 (n1 : Int), .int .i64 (n2 : Int), .slice la b.ls.length lc] 52) = WX := ⟨_, rfl⟩
        have hby : Below W9.heap.size W9 WX := by rw [← hWX]; exact (Below.refl _ W9).alloc (Nat.le_refl _) _
        have hzx : WX.heap.size = W9.heap.size + 1 := by rw [← hWX]; simp
        have hbrow : WX.heap[W9.heap.size]? = some (.cells #[.string b.name, .int .i64 (n1 : Int), .int .i64 (n2 : Int), .slice la b.ls.length lc] 52 (0, 0)) := by rw [← hWX]; exact heap_alloc_new W9 _
        have hvlt : ∀ g, V0.ownBlock = some g → g < W9.heap.size := hr.1.lt
        have KX : ∀ wx v, Gr WX wx V0 v → wx.cell? ⟨W9.heap.size, 0, none⟩ = some (.string b.name) ∧ wx.cell? ⟨W9.heap.size, 1, none⟩ = some (.int .i64 (n1 : Int)) ∧ wx.cell? ⟨W9.heap.size, 2, none⟩ = some (.int .i64 (n2 : Int)) := fun wx v h => by
          have hh := (h.blk W9.heap.size (by omega) (fun e => by have := hvlt _ e; omega)).1.trans hbrow
          exact ⟨cell_of_row _ _ _ _ _ _ hh, cell_of_row _ _ _ _ _ _ hh, cell_of_row _ _ _ _ _ _ hh⟩
        have KX3 : ∀ wx v, Gr WX wx V0 v → wx.cell? ⟨W9.heap.size, 3, none⟩ = some (.slice la b.ls.length lc) := fun wx v h => cell_of_row _ _ _ _ _ _ ((h.blk W9.heap.size (by omega) (fun e => by have := hvlt _ e; omega)).1.trans hbrow)
        have hll2 := hll
        unfold boxL at hll2
        simp only [List.length_append, numL_len, textL_len] at hll2
        have d1 : ∀ wx, Row (w.heap.size + 1) wx V0 l' → Gr WX wx V0 V0 → Calls Tryd.prog 55 #[V0, .string b.name] wx fun e w' => ∃ v', e = .returned v' ∧ Row (w.heap.size + 1) w' v' (l' ++ textL b.name) ∧ Gr WX w' V0 v' := fun wx hx hg =>
          (refShort (w.heap.size + 1) wx V0 l' b.name hx (by have := hg.size; omega) (by omega) (by omega)).mono fun e w' ⟨v', h1, h2, h3⟩ => ⟨v', h1, h2, hg.trans h3⟩
        have dA : ∀ wx v, Row (w.heap.size + 1) wx v (l' ++ textL b.name) → Gr WX wx V0 v → Calls Tryd.prog 54 #[v, .int .i64 (n1 : Int), .int .i64 4] wx fun e w' => ∃ v', e = .returned v' ∧ Row (w.heap.size + 1) w' v' (l' ++ textL b.name ++ numL 4 n1) ∧ Gr WX w' V0 v' := fun wx v hx hg =>
          (refNum (w.heap.size + 1) wx v _ n1 4 hx (by have := hg.size; omega) (by omega) (by omega) (by simp only [List.length_append, textL_len]; omega)).mono fun e w' ⟨v', h1, h2, h3⟩ => ⟨v', h1, h2, hg.trans h3⟩
        have dB : ∀ wx v, Row (w.heap.size + 1) wx v (l' ++ textL b.name ++ numL 4 n1) → Gr WX wx V0 v → Calls Tryd.prog 54 #[v, .int .i64 (n2 : Int), .int .i64 4] wx fun e w' => ∃ v', e = .returned v' ∧ Row (w.heap.size + 1) w' v' (l' ++ textL b.name ++ numL 4 n1 ++ numL 4 n2) ∧ Gr WX w' V0 v' := fun wx v hx hg =>
          (refNum (w.heap.size + 1) wx v _ n2 4 hx (by have := hg.size; omega) (by omega) (by omega) (by simp only [List.length_append, textL_len, numL_len]; omega)).mono fun e w' ⟨v', h1, h2, h3⟩ => ⟨v', h1, h2, hg.trans h3⟩
        have gX : Gr WX WX.drew V0 V0 := Gr.ofBelow (Below.refl _ _).drew
        have rX : Row (w.heap.size + 1) WX.drew V0 l' := (hr.below hby).below (Below.refl _ _).drew
        have HBX := Lib.hid (hb.trans (hby.mono (by have := hb.size; omega)))
        have HGO := Lib.hid hgo
        have HWX := Lib.hid hWX
        have HRX := Lib.hid (hr.below hby)
        have HLW := Lib.hid hlw
        have HLB2 := Lib.hid (show (l' ++ boxL b.name n1 n2 (b.ls.map (·.1))).length ≤ 200000 by omega)
        clear hgo hr hb hbx hr5 hmem hcs hH hWX hbrow hby hll
        go_wp2_with (first | rw [HWX.out])
        go_region_held3 (fun wx => wx.cell? ⟨W9.heap.size, 0, none⟩ = some (.string b.name) ∧ wx.cell? ⟨W9.heap.size, 1, none⟩ = some (.int .i64 (n1 : Int)) ∧ wx.cell? ⟨W9.heap.size, 2, none⟩ = some (.int .i64 (n2 : Int))) (first | exact KX _ _ (by assumption)) (first
          | (go_at_call 55; ((with_reducible refine (d1 _ (by assumption) (by assumption)).mono ?_); rintro e wn ⟨vn, rfl, hRn, hGn⟩))
          | (go_at_call 54; ((with_reducible refine (dA _ _ (by assumption) (by assumption)).mono ?_); rintro e wn ⟨vn, rfl, hRn, hGn⟩))
          | (go_at_call 54; ((with_reducible refine (dB _ _ (by assumption) (by assumption)).mono ?_); rintro e wn ⟨vn, rfl, hRn, hGn⟩)))
        have hsn := hGn.size
        obtain ⟨v2, w2, hap, hro2, hg2⟩ := app_byte wn (UInt8.ofNat b.ls.length) (((UInt8.ofNat b.ls.length).toNat : Nat) : Int) rfl hRn (by omega) (by simp only [List.length_append, numL_len, textL_len]; omega)
        have hcc : ((UInt8.ofNat b.ls.length).toNat : Int) = (b.ls.length : Int) := by simp; omega
        rw [hcc] at hap
        have c3 := KX3 wn vn hGn
        have HR2 := Lib.hid (show Row (w.heap.size + 1) w2 v2 (l' ++ textL b.name ++ numL 4 n1 ++ numL 4 n2 ++ numL 1 b.ls.length) by simpa [numL] using hro2)
        have HG2 := Lib.hid (hGn.trans hg2)
        have HAP := Lib.hid hap
        have HKX3 := Lib.hid KX3
        clear hcc hap hro2 hg2 hRn hGn KX KX3 d1 dA dB gX rX HWX hlw c2
        go_wp2_with (at_builtin; refine wpList_append_run _ rfl _ _ 26 26 rfl _ _ rfl rfl _ w2 HAP.out ?_)
        go_loopw [5, 8] (fun bv iv wr => ∃ (j : Nat) (l2 : List UInt8), j ≤ b.ls.length ∧ iv = .int .i64 (j : Int) ∧ Hid (l2 ++ ((b.ls.map (·.1)).drop j).flatMap letL = l' ++ boxL b.name n1 n2 (b.ls.map (·.1)) ∧ Row (w.heap.size + 1) wr bv l2 ∧ Gr WX wr V0 bv)) (fun _ iv _ => b.ls.length - (intOf iv).toNat)
        case atStart => exact ⟨0, _, Nat.zero_le _, rfl, Lib.hid ⟨by unfold boxL; rw [List.drop_zero, List.length_map]; simp only [List.append_assoc], HR2.out, HG2.out⟩⟩
        case round =>
          clear HR2 HG2 HAP c3 hsn
          obtain ⟨j, l2, hj, rfl, hH2⟩ := hrel
          obtain ⟨hgo, hr, hg⟩ := hH2.out
          have c3 := HKX3.out wr _ hg
          have hsz := hg.size
          have hBX := HBX.out.size
          have hbW : Below (w.heap.size + 1) WB wr := HBX.out.trans (hg.below HRX.out (by omega))
          by_cases hlt2 : j < b.ls.length
          · have hlt2' : (j : Int) < (b.ls.length : Int) := by omega
            have hp2 := List.getElem?_eq_getElem hlt2
            generalize b.ls[j] = p at hp2
            have hlr : Lets wr (.slice la b.ls.length lc) b.ls := HLW.out.below (HG.out wr hbW).2.2.1
            obtain ⟨g9, off9, cap9, e9, hgl9, x0, x1, x2⟩ := hlr.at j p hp2
            injection e9 with ea _ ec
            subst ea
            subst ec
            have hmem2 := List.mem_of_getElem? hp2
            have hgx := g5 p.1 (List.mem_map_of_mem hmem2)
            have hbv0 := (hlr.bytes p hmem2).1
            obtain ⟨n, hn4⟩ : ∃ n : Nat, p.1.uid = (n : Int) := ⟨p.1.uid.toNat, (Int.toNat_of_nonneg hgx.1).symm⟩
            have hun : p.1.uid.toNat = n := by rw [hn4]; rfl
            obtain ⟨ba, bc, hbv⟩ := hbv0
            rw [hbv] at x2
            rw [hn4] at x0 hgx
            rw [drop_at9 (show (b.ls.map (·.1))[j]? = some p.1 by rw [List.getElem?_map, hp2]; rfl), List.flatMap_cons, letL, hun] at hgo
            have hll := len_ap (show l2 ++ numL 4 n ++ numL 1 p.1.flags.toNat ++ bodyL p.1.bytes ++ ((b.ls.map (·.1)).drop (j + 1)).flatMap letL = l' ++ boxL b.name n1 n2 (b.ls.map (·.1)) by rw [← hgo]; simp only [List.append_assoc])
            have hllb := HLB2.out
            have hbl : (bodyL p.1.bytes).length = 2 + p.1.bytes.length := by unfold bodyL; rw [List.length_append, numL_len]
            rw [List.length_append, List.length_append, List.length_append, numL_len, numL_len, hbl] at hll
            have hl2 : l2.length + p.1.bytes.length ≤ 300000 := by omega
            obtain ⟨V1, rfl⟩ : ∃ V1, V1 = u5 := ⟨_, rfl⟩
            obtain ⟨W8, rfl⟩ : ∃ W8, W8 = wr := ⟨_, rfl⟩
            obtain ⟨WY, hWY⟩ : ∃ WY, W8.alloc (.cells #[.int .i64 (n : Int), .int .u8 (p.1.flags.toNat : Int), .slice ba p.1.bytes.length bc] 79) = WY := ⟨_, rfl⟩
            have hbyy : Below W8.heap.size W8 WY := by rw [← hWY]; exact (Below.refl _ W8).alloc (Nat.le_refl _) _
            have hzy : WY.heap.size = W8.heap.size + 1 := by rw [← hWY]; simp
            have hyrow : WY.heap[W8.heap.size]? = some (.cells #[.int .i64 (n : Int), .int .u8 (p.1.flags.toNat : Int), .slice ba p.1.bytes.length bc] 79 (0, 0)) := by rw [← hWY]; exact heap_alloc_new W8 _
            have hvlt1 : ∀ g, V1.ownBlock = some g → g < W8.heap.size := hr.1.lt
            have hbl8 := hbW.size
            have hrY : Row (w.heap.size + 1) WY V1 l2 := hr.below hbyy
            have KY : ∀ wx v, Gr WY wx V1 v → (wx.cell? ⟨W8.heap.size, 0, none⟩ = some (.int .i64 (n : Int)) ∧ wx.cell? ⟨W8.heap.size, 1, none⟩ = some (.int .u8 (p.1.flags.toNat : Int)) ∧ wx.cell? ⟨W8.heap.size, 2, none⟩ = some (.slice ba p.1.bytes.length bc)) := fun wx v h => by
              have hh := (h.blk W8.heap.size (by omega) (fun e => by have := hvlt1 _ e; omega)).1.trans hyrow
              exact ⟨cell_of_row _ _ _ _ _ _ hh, cell_of_row _ _ _ _ _ _ hh, cell_of_row _ _ _ _ _ _ hh⟩
            have HBZ : Hid (∀ wx v, Gr WY wx V1 v → Byz wx (.slice ba p.1.bytes.length bc) p.1.bytes) := Lib.hid (fun wx v h => by
              have h1 : Below (w.heap.size + 1) WB wx := hbW.trans ((hbyy.mono (by omega)).trans (h.below hrY (by omega)))
              have h2 := (HLW.out.below (HG.out wx h1).2.2.1).bytes p hmem2
              rw [hbv] at h2
              exact h2)
            have eN4 : ∀ wx v l3 m, Row (w.heap.size + 1) wx v l3 → W8.heap.size ≤ wx.heap.size → m ≤ 4294967295 → l3.length ≤ 400000 → Calls Tryd.prog 54 #[v, .int .i64 ((m : Nat) : Int), .int .i64 4] wx fun e w' => ∃ v', e = .returned v' ∧ (Row (w.heap.size + 1) w' v' (l3 ++ numL 4 m) ∧ Gr wx w' v v') := fun wx v l3 m h1 h2 h4 h5 =>
              (refNum (w.heap.size + 1) wx v l3 m 4 h1 (by omega) (by omega) h4 (by omega)).mono fun e w' ⟨v', q1, q2, q3⟩ => ⟨v', q1, q2, q3⟩
            have eN2 : ∀ wx v l3 m, Row (w.heap.size + 1) wx v l3 → W8.heap.size ≤ wx.heap.size → m ≤ 4294967295 → l3.length ≤ 400000 → Calls Tryd.prog 54 #[v, .int .i64 ((m : Nat) : Int), .int .i64 2] wx fun e w' => ∃ v', e = .returned v' ∧ (Row (w.heap.size + 1) w' v' (l3 ++ numL 2 m) ∧ Gr wx w' v v') := fun wx v l3 m h1 h2 h4 h5 =>
              (refNum (w.heap.size + 1) wx v l3 m 2 h1 (by omega) (by omega) h4 (by omega)).mono fun e w' ⟨v', q1, q2, q3⟩ => ⟨v', q1, q2, q3⟩
            obtain ⟨i0, hi, hz0, hz1, hz2⟩ := info_parts info5g
            have APP : ∀ wx v l3 q bs3, Row (w.heap.size + 1) wx v l3 → W8.heap.size ≤ wx.heap.size → Byz wx q bs3 → l3.length + bs3.length ≤ 400000 → ∃ v' w', (∀ ty, (Builtin.append_ #[26, 26] ty #[v, q]).run Tryd.prog wx = .ok v' w') ∧ Row (w.heap.size + 1) w' v' (l3 ++ bs3) ∧ Gr wx w' v v' := fun wx v l3 q bs3 h1 h2 h3 h4 => by
              obtain ⟨v', w', hr, hro2, hgr, hn⟩ := run_append_src (P := Tryd.prog) wx 26 26 5 i0 Tryd.underlying26 hi hz0 hz1 hz2 h1 (h3.src Tryd.underlying26) (by omega) (by omega)
              exact ⟨v', w', hr, hro2, Gr.of hgr hn⟩
            have L0 : ∀ W : World, (W.cell? ⟨W8.heap.size, 0, none⟩ = some (.int .i64 (n : Int)) ∧ W.cell? ⟨W8.heap.size, 1, none⟩ = some (.int .u8 (p.1.flags.toNat : Int)) ∧ W.cell? ⟨W8.heap.size, 2, none⟩ = some (.slice ba p.1.bytes.length bc)) → (Instr.loadAt 3 (.pointer (some ⟨W8.heap.size, 0, none⟩))).run Tryd.prog W = .ok (.int .i64 (n : Int)) W := fun W hW => by
              have hc := hW.1
              go_simp
            have L1 : ∀ W : World, (W.cell? ⟨W8.heap.size, 0, none⟩ = some (.int .i64 (n : Int)) ∧ W.cell? ⟨W8.heap.size, 1, none⟩ = some (.int .u8 (p.1.flags.toNat : Int)) ∧ W.cell? ⟨W8.heap.size, 2, none⟩ = some (.slice ba p.1.bytes.length bc)) → (Instr.loadAt 5 (.pointer (some ⟨W8.heap.size, 1, none⟩))).run Tryd.prog W = .ok (.int .u8 (p.1.flags.toNat : Int)) W := fun W hW => by
              have hc := hW.2.1
              go_simp
            have L2 : ∀ W : World, (W.cell? ⟨W8.heap.size, 0, none⟩ = some (.int .i64 (n : Int)) ∧ W.cell? ⟨W8.heap.size, 1, none⟩ = some (.int .u8 (p.1.flags.toNat : Int)) ∧ W.cell? ⟨W8.heap.size, 2, none⟩ = some (.slice ba p.1.bytes.length bc)) → (Instr.loadAt 26 (.pointer (some ⟨W8.heap.size, 2, none⟩))).run Tryd.prog W = .ok (.slice ba p.1.bytes.length bc) W := fun W hW => by
              have hc := hW.2.2
              go_simp
            have gY : Gr WY WY.drew V1 V1 := Gr.ofBelow (Below.refl _ _).drew
            have rY : Row (w.heap.size + 1) WY.drew V1 l2 := hrY.below (Below.refl _ _).drew
            have HS0 := Lib.hid (KY _ _ gY)
            have HWY := Lib.hid hWY
            have HGO3 := Lib.hid hgo
            have HGY := Lib.hid (hg.trans (Gr.ofBelow hbyy : Gr W8 WY V1 V1))
            have HC := Lib.hid (show WY.drew.heap.size = WY.heap.size from rfl)
            clear hgo hr hg hH2 hWY hyrow hllb hbl hll hlr hbv hun hn4 hmem2
            go_wp2_with (first | rw [HWY.out])
            refine wp_region_held_drew (S := fun W => W.cell? ⟨W8.heap.size, 0, none⟩ = some (.int .i64 (n : Int)) ∧ W.cell? ⟨W8.heap.size, 1, none⟩ = some (.int .u8 (p.1.flags.toNat : Int)) ∧ W.cell? ⟨W8.heap.size, 2, none⟩ = some (.slice ba p.1.bytes.length bc)) (by kernel_rfl) HS0.out (fun _ => ?_)
            refine hh_take 0 (some 69) (V1) rfl rfl (by kernel_rfl) (by kernel_rfl) (by kernel_rfl) (fun _ _ _ h => h) rfl (fun _ _ => rfl) HS0.out ?_
            simp only [Act.put, List.setIfInBounds_toArray, List.set_cons_zero, List.set_cons_succ]
            refine hh_take 1 (some 70) (.pointer (some ⟨W8.heap.size, 0, none⟩)) rfl rfl (by kernel_rfl) (by kernel_rfl) (by kernel_rfl) (fun _ _ _ h => h) rfl (fun _ _ => by kernel_rfl) HS0.out ?_
            simp only [Act.put, List.setIfInBounds_toArray, List.set_cons_zero, List.set_cons_succ]
            refine hh_take 2 (some 71) (.int .i64 (n : Int)) rfl rfl (by kernel_rfl) (by kernel_rfl) (by kernel_rfl) (fun _ _ _ h => h) rfl (fun W hW => ex_load 3 (.tmp 70) rfl _ _ rfl (L0 W hW)) HS0.out ?_
            simp only [Act.put, List.setIfInBounds_toArray, List.set_cons_zero, List.set_cons_succ]
            refine hh_take 4 (some 73) (.pointer (some ⟨W8.heap.size, 1, none⟩)) rfl rfl (by kernel_rfl) (by kernel_rfl) (by kernel_rfl) (fun _ _ _ h => h) rfl (fun _ _ => by kernel_rfl) HS0.out ?_
            simp only [Act.put, List.setIfInBounds_toArray, List.set_cons_zero, List.set_cons_succ]
            refine hh_take 5 (some 74) (.int .u8 (p.1.flags.toNat : Int)) rfl rfl (by kernel_rfl) (by kernel_rfl) (by kernel_rfl) (fun _ _ _ h => h) rfl (fun W hW => ex_load 5 (.tmp 73) rfl _ _ rfl (L1 W hW)) HS0.out ?_
            simp only [Act.put, List.setIfInBounds_toArray, List.set_cons_zero, List.set_cons_succ]
            refine hh_two 3 6 (by kernel_rfl) rfl rfl rfl rfl (fun K hK => ?_) (fun K hK => ?_)
            · refine wp_callsE (some 72) rfl 54 _ (ex_call3h 54 (.tmp 69) (.tmp 71) (.const (.int .i64 4)) _ rfl _ _ _ rfl rfl rfl (fun _ _ => rfl)) _ (eN4 _ V1 l2 n rY (by have := HC.out; omega) (by omega) (by omega)) (fun v3 w3 hR => hK _ _ (KY w3 v3 (gY.trans hR.2)) ?_)
              clear hK K
              simp only [Act.put, List.setIfInBounds_toArray, List.set_cons_zero, List.set_cons_succ]
              have g3 : Gr WY w3 V1 v3 := gY.trans hR.2
              have hbq : Below w3.heap.size w3 (w3.alloc (.cells #[.int .u8 (p.1.flags.toNat : Int)] 5)) := (Below.refl _ w3).alloc (Nat.le_refl _) _
              have hq : Byt (w3.alloc (.cells #[.int .u8 (p.1.flags.toNat : Int)] 5)) (.slice (some ⟨w3.heap.size, 0, none⟩) 1 1) [p.1.flags] := (Row.made w3 5 [p.1.flags] #[.int .u8 (p.1.flags.toNat : Int)] (by simp) (Nat.le_refl _) (by unfold maxLen; simp)).1
              have gq : Gr WY (w3.alloc (.cells #[.int .u8 (p.1.flags.toNat : Int)] 5)) V1 v3 := g3.trans (Gr.ofBelow hbq)
              have rq := hR.1.below hbq
              refine hh_one 6 (by kernel_rfl) rfl rfl (fun K hK => wp_runsh (some 75) rfl (ex_buildSlice 26 1 _ rfl [(0, .int .u8 (p.1.flags.toNat : Int))] rfl (.slice (some ⟨w3.heap.size, 0, none⟩) 1 1) (w' := w3.alloc (.cells #[.int .u8 (p.1.flags.toNat : Int)] 5)) (by go_simp)) (hK _ _ (KY _ _ gq) ?_))
              clear hK K
              simp only [Act.put, List.setIfInBounds_toArray, List.set_cons_zero, List.set_cons_succ]
              obtain ⟨v4, w4, hap, hr4, hg4⟩ := APP _ v3 (l2 ++ numL 4 n) _ [p.1.flags] rq (by have := gq.size; omega) ⟨⟨_, _, rfl⟩, fun _ => hq⟩ (by simp only [List.length_append, numL_len, List.length_singleton]; omega)
              have g4w := gq.trans hg4
              refine hh_one 7 (by kernel_rfl) rfl rfl (fun K hK => wp_runsh (some 76) rfl (ex_append (.tmp 72) (.tmp 75) 26 26 rfl v3 (.slice (some ⟨w3.heap.size, 0, none⟩) 1 1) v4 rfl rfl hap) (hK _ _ (KY w4 v4 g4w) ?_))
              clear hK K
              simp only [Act.put, List.setIfInBounds_toArray, List.set_cons_zero, List.set_cons_succ]
              refine hh_take 8 (some 5) v4 rfl rfl (by kernel_rfl) (by kernel_rfl) (by kernel_rfl) (fun _ _ _ h => h) rfl (fun _ _ => rfl) (KY w4 v4 g4w) ?_
              simp only [Act.put, List.setIfInBounds_toArray, List.set_cons_zero, List.set_cons_succ]
              refine wpAnyH_done (by kernel_rfl) ?_ _
              have g4d : Gr WY w4.drew V1 v4 := g4w.trans (Gr.ofBelow (Below.refl _ _).drew)
              have r4d : Row (w.heap.size + 1) w4.drew v4 (l2 ++ numL 4 n ++ [p.1.flags]) := hr4.below (Below.refl _ _).drew
              have HS4 := Lib.hid (KY _ _ g4d)
              clear hap hg4
              go_wp2_with fail
              refine wp_region_held_drew (S := fun W => W.cell? ⟨W8.heap.size, 0, none⟩ = some (.int .i64 (n : Int)) ∧ W.cell? ⟨W8.heap.size, 1, none⟩ = some (.int .u8 (p.1.flags.toNat : Int)) ∧ W.cell? ⟨W8.heap.size, 2, none⟩ = some (.slice ba p.1.bytes.length bc)) (by kernel_rfl) HS4.out (fun _ => ?_)
              refine hh_take 0 (some 77) (v4) rfl rfl (by kernel_rfl) (by kernel_rfl) (by kernel_rfl) (fun _ _ _ h => h) rfl (fun _ _ => rfl) HS4.out ?_
              simp only [Act.put, List.setIfInBounds_toArray, List.set_cons_zero, List.set_cons_succ]
              refine hh_take 1 (some 78) (.pointer (some ⟨W8.heap.size, 2, none⟩)) rfl rfl (by kernel_rfl) (by kernel_rfl) (by kernel_rfl) (fun _ _ _ h => h) rfl (fun _ _ => by kernel_rfl) HS4.out ?_
              simp only [Act.put, List.setIfInBounds_toArray, List.set_cons_zero, List.set_cons_succ]
              refine hh_take 2 (some 79) (.slice ba p.1.bytes.length bc) rfl rfl (by kernel_rfl) (by kernel_rfl) (by kernel_rfl) (fun _ _ _ h => h) rfl (fun W hW => ex_load 26 (.tmp 78) rfl _ _ rfl (L2 W hW)) HS4.out ?_
              simp only [Act.put, List.setIfInBounds_toArray, List.set_cons_zero, List.set_cons_succ]
              refine hh_take 3 (some 80) (.int .i64 (p.1.bytes.length : Int)) rfl rfl (by kernel_rfl) (by kernel_rfl) (by kernel_rfl) (fun _ _ _ h => h) rfl (fun _ _ => by first | rfl | kernel_rfl | go_simp) HS4.out ?_
              simp only [Act.put, List.setIfInBounds_toArray, List.set_cons_zero, List.set_cons_succ]
              refine hh_take 5 (some 82) (.pointer (some ⟨W8.heap.size, 2, none⟩)) rfl rfl (by kernel_rfl) (by kernel_rfl) (by kernel_rfl) (fun _ _ _ h => h) rfl (fun _ _ => by kernel_rfl) HS4.out ?_
              simp only [Act.put, List.setIfInBounds_toArray, List.set_cons_zero, List.set_cons_succ]
              refine hh_take 6 (some 83) (.slice ba p.1.bytes.length bc) rfl rfl (by kernel_rfl) (by kernel_rfl) (by kernel_rfl) (fun _ _ _ h => h) rfl (fun W hW => ex_load 26 (.tmp 82) rfl _ _ rfl (L2 W hW)) HS4.out ?_
              simp only [Act.put, List.setIfInBounds_toArray, List.set_cons_zero, List.set_cons_succ]
              refine hh_one 4 (by kernel_rfl) rfl rfl (fun K hK => wp_callsE (some 81) rfl 54 _ (ex_call3h 54 (.tmp 77) (.tmp 80) (.const (.int .i64 2)) _ rfl _ _ _ rfl rfl rfl (fun _ _ => rfl)) _ (eN2 _ v4 _ p.1.bytes.length r4d (by have := g4d.size; omega) (by omega) (by simp only [List.length_append, numL_len, List.length_singleton]; omega)) (fun v5 w5 hR5 => hK _ _ (KY w5 v5 (g4d.trans hR5.2)) ?_))
              clear hK K
              simp only [Act.put, List.setIfInBounds_toArray, List.set_cons_zero, List.set_cons_succ]
              have g5w := g4d.trans hR5.2
              obtain ⟨v6, w6, hap6, hr6, hg6⟩ := APP _ v5 (l2 ++ numL 4 n ++ [p.1.flags] ++ numL 2 p.1.bytes.length) _ p.1.bytes hR5.1 (by have := g5w.size; omega) (HBZ.out w5 v5 g5w) (by simp only [List.length_append, numL_len, List.length_singleton]; omega)
              have g6w := g5w.trans hg6
              refine hh_one 7 (by kernel_rfl) rfl rfl (fun K hK => wp_runsh (some 84) rfl (ex_append (.tmp 81) (.tmp 83) 26 26 rfl v5 (.slice ba p.1.bytes.length bc) v6 rfl rfl hap6) (hK _ _ (KY w6 v6 g6w) ?_))
              clear hK K
              simp only [Act.put, List.setIfInBounds_toArray, List.set_cons_zero, List.set_cons_succ]
              refine hh_take 8 (some 5) v6 rfl rfl (by kernel_rfl) (by kernel_rfl) (by kernel_rfl) (fun _ _ _ h => h) rfl (fun _ _ => rfl) (KY w6 v6 g6w) ?_
              simp only [Act.put, List.setIfInBounds_toArray, List.set_cons_zero, List.set_cons_succ]
              refine wpAnyH_done (by kernel_rfl) ?_ _
              have HREL := Lib.hid (And.intro hr6 (HGY.out.trans g6w))
              have hfl1 : numL 1 p.1.flags.toNat = [p.1.flags] := by simp [numL]
              have HF1 := Lib.hid hfl1
              clear hap6 hr6 hg6 g6w g5w g4d r4d hfl1 x0 x1 x2 hgl9
              go_wp2_with fail
              go_roundw
              case rel => exact ⟨j + 1, _, by omega, by go_num, Lib.hid ⟨by rw [← HGO3.out, HF1.out]; unfold bodyL; simp only [List.append_assoc], HREL.out.1, HREL.out.2⟩⟩
              case measure => simp [intOf]; omega
            · have g0 := gY
              have hrr := rY
              have hbq : Below WY.drew.heap.size WY.drew (WY.drew.alloc (.cells #[.int .u8 (p.1.flags.toNat : Int)] 5)) := (Below.refl _ WY.drew).alloc (Nat.le_refl _) _
              have hq : Byt (WY.drew.alloc (.cells #[.int .u8 (p.1.flags.toNat : Int)] 5)) (.slice (some ⟨WY.drew.heap.size, 0, none⟩) 1 1) [p.1.flags] := (Row.made WY.drew 5 [p.1.flags] #[.int .u8 (p.1.flags.toNat : Int)] (by simp) (Nat.le_refl _) (by unfold maxLen; simp)).1
              have gq : Gr WY (WY.drew.alloc (.cells #[.int .u8 (p.1.flags.toNat : Int)] 5)) V1 V1 := g0.trans (Gr.ofBelow hbq)
              have rq := hrr.below hbq
              refine (wp_runsh (some 75) rfl (ex_buildSlice 26 1 _ rfl [(0, .int .u8 (p.1.flags.toNat : Int))] rfl (.slice (some ⟨WY.drew.heap.size, 0, none⟩) 1 1) (w' := WY.drew.alloc (.cells #[.int .u8 (p.1.flags.toNat : Int)] 5)) (by go_simp)) (hK _ _ (KY _ _ gq) ?_))
              clear hK K
              simp only [Act.put, List.setIfInBounds_toArray, List.set_cons_zero, List.set_cons_succ]
              refine hh_one 3 (by kernel_rfl) rfl rfl (fun K hK => wp_callsE (some 72) rfl 54 _ (ex_call3h 54 (.tmp 69) (.tmp 71) (.const (.int .i64 4)) _ rfl _ _ _ rfl rfl rfl (fun _ _ => rfl)) _ (eN4 _ V1 l2 n rq (by have := gq.size; omega) (by omega) (by omega)) (fun v3 w3 hR => hK _ _ (KY w3 v3 (gq.trans hR.2)) ?_))
              clear hK K
              simp only [Act.put, List.setIfInBounds_toArray, List.set_cons_zero, List.set_cons_succ]
              have hq3 : Byt w3 (.slice (some ⟨WY.drew.heap.size, 0, none⟩) 1 1) [p.1.flags] := hq.kept hR.2.size (fun g hg => (hR.2.blk g (hq.lt g hg) (fun e => by
                have h1 := hvlt1 g e
                have h2 : WY.drew.heap.size = g := by simpa [Value.ownBlock] using hg
                have h3 := HC.out
                omega)).1)
              have g3 := gq.trans hR.2
              obtain ⟨v4, w4, hap, hr4, hg4⟩ := APP _ v3 (l2 ++ numL 4 n) _ [p.1.flags] hR.1 (by have := g3.size; omega) ⟨⟨_, _, rfl⟩, fun _ => hq3⟩ (by simp only [List.length_append, numL_len, List.length_singleton]; omega)
              have g4w := g3.trans hg4
              refine hh_one 7 (by kernel_rfl) rfl rfl (fun K hK => wp_runsh (some 76) rfl (ex_append (.tmp 72) (.tmp 75) 26 26 rfl v3 (.slice (some ⟨WY.drew.heap.size, 0, none⟩) 1 1) v4 rfl rfl hap) (hK _ _ (KY w4 v4 g4w) ?_))
              clear hK K
              simp only [Act.put, List.setIfInBounds_toArray, List.set_cons_zero, List.set_cons_succ]
              refine hh_take 8 (some 5) v4 rfl rfl (by kernel_rfl) (by kernel_rfl) (by kernel_rfl) (fun _ _ _ h => h) rfl (fun _ _ => rfl) (KY w4 v4 g4w) ?_
              simp only [Act.put, List.setIfInBounds_toArray, List.set_cons_zero, List.set_cons_succ]
              refine wpAnyH_done (by kernel_rfl) ?_ _
              have g4d : Gr WY w4.drew V1 v4 := g4w.trans (Gr.ofBelow (Below.refl _ _).drew)
              have r4d : Row (w.heap.size + 1) w4.drew v4 (l2 ++ numL 4 n ++ [p.1.flags]) := hr4.below (Below.refl _ _).drew
              have HS4 := Lib.hid (KY _ _ g4d)
              clear hap hg4
              go_wp2_with fail
              refine wp_region_held_drew (S := fun W => W.cell? ⟨W8.heap.size, 0, none⟩ = some (.int .i64 (n : Int)) ∧ W.cell? ⟨W8.heap.size, 1, none⟩ = some (.int .u8 (p.1.flags.toNat : Int)) ∧ W.cell? ⟨W8.heap.size, 2, none⟩ = some (.slice ba p.1.bytes.length bc)) (by kernel_rfl) HS4.out (fun _ => ?_)
              refine hh_take 0 (some 77) (v4) rfl rfl (by kernel_rfl) (by kernel_rfl) (by kernel_rfl) (fun _ _ _ h => h) rfl (fun _ _ => rfl) HS4.out ?_
              simp only [Act.put, List.setIfInBounds_toArray, List.set_cons_zero, List.set_cons_succ]
              refine hh_take 1 (some 78) (.pointer (some ⟨W8.heap.size, 2, none⟩)) rfl rfl (by kernel_rfl) (by kernel_rfl) (by kernel_rfl) (fun _ _ _ h => h) rfl (fun _ _ => by kernel_rfl) HS4.out ?_
              simp only [Act.put, List.setIfInBounds_toArray, List.set_cons_zero, List.set_cons_succ]
              refine hh_take 2 (some 79) (.slice ba p.1.bytes.length bc) rfl rfl (by kernel_rfl) (by kernel_rfl) (by kernel_rfl) (fun _ _ _ h => h) rfl (fun W hW => ex_load 26 (.tmp 78) rfl _ _ rfl (L2 W hW)) HS4.out ?_
              simp only [Act.put, List.setIfInBounds_toArray, List.set_cons_zero, List.set_cons_succ]
              refine hh_take 3 (some 80) (.int .i64 (p.1.bytes.length : Int)) rfl rfl (by kernel_rfl) (by kernel_rfl) (by kernel_rfl) (fun _ _ _ h => h) rfl (fun _ _ => by first | rfl | kernel_rfl | go_simp) HS4.out ?_
              simp only [Act.put, List.setIfInBounds_toArray, List.set_cons_zero, List.set_cons_succ]
              refine hh_take 5 (some 82) (.pointer (some ⟨W8.heap.size, 2, none⟩)) rfl rfl (by kernel_rfl) (by kernel_rfl) (by kernel_rfl) (fun _ _ _ h => h) rfl (fun _ _ => by kernel_rfl) HS4.out ?_
              simp only [Act.put, List.setIfInBounds_toArray, List.set_cons_zero, List.set_cons_succ]
              refine hh_take 6 (some 83) (.slice ba p.1.bytes.length bc) rfl rfl (by kernel_rfl) (by kernel_rfl) (by kernel_rfl) (fun _ _ _ h => h) rfl (fun W hW => ex_load 26 (.tmp 82) rfl _ _ rfl (L2 W hW)) HS4.out ?_
              simp only [Act.put, List.setIfInBounds_toArray, List.set_cons_zero, List.set_cons_succ]
              refine hh_one 4 (by kernel_rfl) rfl rfl (fun K hK => wp_callsE (some 81) rfl 54 _ (ex_call3h 54 (.tmp 77) (.tmp 80) (.const (.int .i64 2)) _ rfl _ _ _ rfl rfl rfl (fun _ _ => rfl)) _ (eN2 _ v4 _ p.1.bytes.length r4d (by have := g4d.size; omega) (by omega) (by simp only [List.length_append, numL_len, List.length_singleton]; omega)) (fun v5 w5 hR5 => hK _ _ (KY w5 v5 (g4d.trans hR5.2)) ?_))
              clear hK K
              simp only [Act.put, List.setIfInBounds_toArray, List.set_cons_zero, List.set_cons_succ]
              have g5w := g4d.trans hR5.2
              obtain ⟨v6, w6, hap6, hr6, hg6⟩ := APP _ v5 (l2 ++ numL 4 n ++ [p.1.flags] ++ numL 2 p.1.bytes.length) _ p.1.bytes hR5.1 (by have := g5w.size; omega) (HBZ.out w5 v5 g5w) (by simp only [List.length_append, numL_len, List.length_singleton]; omega)
              have g6w := g5w.trans hg6
              refine hh_one 7 (by kernel_rfl) rfl rfl (fun K hK => wp_runsh (some 84) rfl (ex_append (.tmp 81) (.tmp 83) 26 26 rfl v5 (.slice ba p.1.bytes.length bc) v6 rfl rfl hap6) (hK _ _ (KY w6 v6 g6w) ?_))
              clear hK K
              simp only [Act.put, List.setIfInBounds_toArray, List.set_cons_zero, List.set_cons_succ]
              refine hh_take 8 (some 5) v6 rfl rfl (by kernel_rfl) (by kernel_rfl) (by kernel_rfl) (fun _ _ _ h => h) rfl (fun _ _ => rfl) (KY w6 v6 g6w) ?_
              simp only [Act.put, List.setIfInBounds_toArray, List.set_cons_zero, List.set_cons_succ]
              refine wpAnyH_done (by kernel_rfl) ?_ _
              have HREL := Lib.hid (And.intro hr6 (HGY.out.trans g6w))
              have hfl1 : numL 1 p.1.flags.toNat = [p.1.flags] := by simp [numL]
              have HF1 := Lib.hid hfl1
              clear hap6 hr6 hg6 g6w g5w g4d r4d hfl1 x0 x1 x2 hgl9
              go_wp2_with fail
              go_roundw
              case rel => exact ⟨j + 1, _, by omega, by go_num, Lib.hid ⟨by rw [← HGO3.out, HF1.out]; unfold bodyL; simp only [List.append_assoc], HREL.out.1, HREL.out.2⟩⟩
              case measure => simp [intOf]; omega
          · have hlt2' : ¬ (j : Int) < (b.ls.length : Int) := by omega
            rw [List.drop_of_length_le (by rw [List.length_map]; omega), List.flatMap_nil, List.append_nil] at hgo
            have HREL := Lib.hid (And.intro hr hbW)
            have HGO2 := Lib.hid hgo
            clear hr hg hbW hgo hH2
            go_wp2
            go_roundw
            case rel => exact ⟨k + 1, _, by omega, by go_num, Lib.hid ⟨by rw [HGO2.out, ← HGO.out]; simp only [List.append_assoc], HREL.out.1, HREL.out.2⟩⟩
            case measure => simp [intOf]; omega
      · have hlt' : ¬ (k : Int) < (bs.length : Int) := by omega
        rw [List.drop_of_length_le (by rw [List.length_map]; omega), List.flatMap_nil, List.append_nil] at hgo
        subst hgo
        have HF := Lib.hid (HFIN.out _ wr hbw hr)
        clear hr hb hbw hbx hr5 hH
        go_wp2
        exact bodyPost_ret (v := .tuple #[u5, .int .i64 0]) (by simp [results, Tryd.results26, go_sem]) rfl HF.out
  · have HKK := Lib.hid hK
    have HB0 := Lib.hid hb0
    obtain ⟨WB, hWB⟩ : ∃ WB, w.alloc (.cells #[.string name, .int .i64 valid, .slice sa bs.length sc] 43) = WB := ⟨_, rfl⟩
    rw [hWB] at HC HB0
    have k0 : WB.cell? ⟨w.heap.size, 0, none⟩ = some (.string name) := by rw [← hWB]; exact cell_of_row _ _ _ _ _ _ hrow0
    have k1 : WB.cell? ⟨w.heap.size, 1, none⟩ = some (.int .i64 valid) := by rw [← hWB]; exact cell_of_row _ _ _ _ _ _ hrow0
    have k2 : WB.cell? ⟨w.heap.size, 2, none⟩ = some (.slice sa bs.length sc) := by rw [← hWB]; exact cell_of_row _ _ _ _ _ _ hrow0
    have HWB := Lib.hid hWB
    clear h hT hb0 hz hrow0 hC hK hs hWB
    go_enter Tryd.func26, Tryd.ntmps26
    go_wp2_with (first | rw [HWB.out])
    refine HC.out.mono ?_
    rintro e w1 ⟨rfl, hb⟩
    have HFIN : Hid (PutUR ⟨name, valid, bs.map Bx.dat⟩ w (.returned (.tuple #[.slice none 0 0, .int .i64 K])) w1) := Lib.hid ⟨HB0.out.trans (hb.mono (by omega)), Or.inl ⟨by rw [HKK.out]; exact hk0, by rw [HKK.out]⟩⟩
    clear hb HC HKK HB0 k0 k1 k2 HWB
    go_wp2
    exact bodyPost_ret (v := .tuple #[.slice none 0 0, .int .i64 K]) (by simp [results, Tryd.results26, go_sem]) rfl HFIN.out
end Go.Proofs.YtjljbnilckkjnaaDoor
namespace Go.Proofs.YtjljbnilckkjnaaDoor
open Go Go.RowKit

set_option maxHeartbeats 8000000 in
set_option maxRecDepth 100000 in
theorem refBytes (B : Nat) (w : World) (v : Value) (l : List UInt8) (d : Dd) (pv : Value) (hv : Row B w v l) (hB : B ≤ w.heap.size) (hd : d.Fit) (hp : ∀ wx, Below B w wx → Byz wx pv d.bytes) (hlen : l.length ≤ 100000000) :
    Calls Tryd.prog 44 #[v, ddV d pv] w (PutR B w v (l ++ ddL d)) := by
  obtain ⟨ac, us, bx, ds, n1, n2, fl, n3, n4, bs⟩ := d
  obtain ⟨f1, f2, f3, f4, f5, f6, f7, f8, f9⟩ := hd
  dsimp only at f1 f2 f3 f4 f5 f6 f7 f8 f9 hp
  obtain ⟨ba, bc, rfl⟩ := (hp w (Below.refl _ _)).1
  have ffl : fl.toNat < 256 := fl.toNat_lt
  obtain ⟨WX, hWX⟩ : ∃ WX, w.alloc (.cells #[.int .i64 (ac : Int), .string us, .string bx, .string ds, .int .i64 (n1 : Int), .int .i64 (n2 : Int), .int .u8 (fl.toNat : Int), .int .i64 (n3 : Int), .int .i64 (n4 : Int), .slice ba bs.length bc] 28) = WX := ⟨_, rfl⟩
  have hby : Below w.heap.size w WX := by rw [← hWX]; exact (Below.refl _ w).alloc (Nat.le_refl _) _
  have hzx : WX.heap.size = w.heap.size + 1 := by rw [← hWX]; simp
  have hbrow : WX.heap[w.heap.size]? = some (.cells #[.int .i64 (ac : Int), .string us, .string bx, .string ds, .int .i64 (n1 : Int), .int .i64 (n2 : Int), .int .u8 (fl.toNat : Int), .int .i64 (n3 : Int), .int .i64 (n4 : Int), .slice ba bs.length bc] 28 (0, 0)) := by rw [← hWX]; exact heap_alloc_new w _
  have hvlt : ∀ g, v.ownBlock = some g → g < w.heap.size := hv.1.lt
  have KR : ∀ wx v', Gr WX wx v v' → wx.heap[w.heap.size]? = some (.cells #[.int .i64 (ac : Int), .string us, .string bx, .string ds, .int .i64 (n1 : Int), .int .i64 (n2 : Int), .int .u8 (fl.toNat : Int), .int .i64 (n3 : Int), .int .i64 (n4 : Int), .slice ba bs.length bc] 28 (0, 0)) := fun wx v' h => (h.blk w.heap.size (by omega) (fun e => by have := hvlt _ e; omega)).1.trans hbrow
  have hrX : Row B WX v l := hv.below hby
  have HBZ : Hid (∀ wx v', Gr WX wx v v' → Byz wx (.slice ba bs.length bc) bs) := Lib.hid (fun wx v' h => hp wx ((hby.mono hB).trans (h.below hrX (by omega))))
  have KX : ∀ wx v', Gr WX wx v v' → wx.cell? ⟨w.heap.size, 0, none⟩ = some (.int .i64 (ac : Int)) ∧ wx.cell? ⟨w.heap.size, 1, none⟩ = some (.string us) ∧ wx.cell? ⟨w.heap.size, 2, none⟩ = some (.string bx) ∧ wx.cell? ⟨w.heap.size, 3, none⟩ = some (.string ds) := fun wx v' h => by
    have hh := KR wx v' h
    exact ⟨cell_of_row _ _ _ _ _ _ hh, cell_of_row _ _ _ _ _ _ hh, cell_of_row _ _ _ _ _ _ hh, cell_of_row _ _ _ _ _ _ hh⟩
  have HKR := Lib.hid KR
  have d1 : ∀ wx, Row B wx v l → Gr WX wx v v → Calls Tryd.prog 54 #[v, .int .i64 (ac : Int), .int .i64 1] wx fun e w' => ∃ v', e = .returned v' ∧ Row B w' v' (l ++ numL 1 ac) ∧ Gr WX w' v v' := fun wx hx hg => (refNum B wx v _ ac 1 hx (by have := hg.size; omega) (by omega) (by omega) (by omega)).mono fun e w' ⟨v', h1, h2, h3⟩ => ⟨v', h1, h2, hg.trans h3⟩
  have d2 : ∀ wx v1, Row B wx v1 (l ++ numL 1 ac) → Gr WX wx v v1 → Calls Tryd.prog 55 #[v1, .string us] wx fun e w' => ∃ v', e = .returned v' ∧ Row B w' v' (l ++ numL 1 ac ++ textL us) ∧ Gr WX w' v v' := fun wx v1 hx hg => (refShort B wx v1 _ us hx (by have := hg.size; omega) (by omega) (by simp only [List.length_append, textL_len, numL_len]; omega)).mono fun e w' ⟨v', h1, h2, h3⟩ => ⟨v', h1, h2, hg.trans h3⟩
  have d3 : ∀ wx v1, Row B wx v1 (l ++ numL 1 ac ++ textL us) → Gr WX wx v v1 → Calls Tryd.prog 55 #[v1, .string bx] wx fun e w' => ∃ v', e = .returned v' ∧ Row B w' v' (l ++ numL 1 ac ++ textL us ++ textL bx) ∧ Gr WX w' v v' := fun wx v1 hx hg => (refShort B wx v1 _ bx hx (by have := hg.size; omega) (by omega) (by simp only [List.length_append, textL_len, numL_len]; omega)).mono fun e w' ⟨v', h1, h2, h3⟩ => ⟨v', h1, h2, hg.trans h3⟩
  have d4 : ∀ wx v1, Row B wx v1 (l ++ numL 1 ac ++ textL us ++ textL bx) → Gr WX wx v v1 → Calls Tryd.prog 55 #[v1, .string ds] wx fun e w' => ∃ v', e = .returned v' ∧ Row B w' v' (l ++ numL 1 ac ++ textL us ++ textL bx ++ textL ds) ∧ Gr WX w' v v' := fun wx v1 hx hg => (refShort B wx v1 _ ds hx (by have := hg.size; omega) (by omega) (by simp only [List.length_append, textL_len, numL_len]; omega)).mono fun e w' ⟨v', h1, h2, h3⟩ => ⟨v', h1, h2, hg.trans h3⟩
  have e1 : Hid (∀ wx v1, Row B wx v1 (l ++ numL 1 ac ++ textL us ++ textL bx ++ textL ds) → Gr WX wx v v1 → Calls Tryd.prog 54 #[v1, .int .i64 ((n1 : Nat) : Int), .int .i64 4] wx fun e w' => ∃ v', e = .returned v' ∧ Row B w' v' (l ++ numL 1 ac ++ textL us ++ textL bx ++ textL ds ++ numL 4 n1) ∧ Gr WX w' v v') := Lib.hid (fun wx v1 hx hg => (refNum B wx v1 _ n1 4 hx (by have := hg.size; omega) (by omega) (by omega) (by simp only [List.length_append, textL_len, numL_len]; omega)).mono fun e w' ⟨v', h1, h2, h3⟩ => ⟨v', h1, h2, hg.trans h3⟩)
  have e2 : Hid (∀ wx v1, Row B wx v1 (l ++ numL 1 ac ++ textL us ++ textL bx ++ textL ds ++ numL 4 n1) → Gr WX wx v v1 → Calls Tryd.prog 54 #[v1, .int .i64 ((n2 : Nat) : Int), .int .i64 1] wx fun e w' => ∃ v', e = .returned v' ∧ Row B w' v' (l ++ numL 1 ac ++ textL us ++ textL bx ++ textL ds ++ numL 4 n1 ++ numL 1 n2) ∧ Gr WX w' v v') := Lib.hid (fun wx v1 hx hg => (refNum B wx v1 _ n2 1 hx (by have := hg.size; omega) (by omega) (by omega) (by simp only [List.length_append, textL_len, numL_len]; omega)).mono fun e w' ⟨v', h1, h2, h3⟩ => ⟨v', h1, h2, hg.trans h3⟩)
  have e3 : Hid (∀ wx v1, Row B wx v1 (l ++ numL 1 ac ++ textL us ++ textL bx ++ textL ds ++ numL 4 n1 ++ numL 1 n2) → Gr WX wx v v1 → Calls Tryd.prog 54 #[v1, .int .i64 ((fl.toNat : Nat) : Int), .int .i64 1] wx fun e w' => ∃ v', e = .returned v' ∧ Row B w' v' (l ++ numL 1 ac ++ textL us ++ textL bx ++ textL ds ++ numL 4 n1 ++ numL 1 n2 ++ numL 1 fl.toNat) ∧ Gr WX w' v v') := Lib.hid (fun wx v1 hx hg => (refNum B wx v1 _ fl.toNat 1 hx (by have := hg.size; omega) (by omega) (by omega) (by simp only [List.length_append, textL_len, numL_len]; omega)).mono fun e w' ⟨v', h1, h2, h3⟩ => ⟨v', h1, h2, hg.trans h3⟩)
  have e4 : Hid (∀ wx v1, Row B wx v1 (l ++ numL 1 ac ++ textL us ++ textL bx ++ textL ds ++ numL 4 n1 ++ numL 1 n2 ++ numL 1 fl.toNat) → Gr WX wx v v1 → Calls Tryd.prog 54 #[v1, .int .i64 ((n3 : Nat) : Int), .int .i64 1] wx fun e w' => ∃ v', e = .returned v' ∧ Row B w' v' (l ++ numL 1 ac ++ textL us ++ textL bx ++ textL ds ++ numL 4 n1 ++ numL 1 n2 ++ numL 1 fl.toNat ++ numL 1 n3) ∧ Gr WX w' v v') := Lib.hid (fun wx v1 hx hg => (refNum B wx v1 _ n3 1 hx (by have := hg.size; omega) (by omega) (by omega) (by simp only [List.length_append, textL_len, numL_len]; omega)).mono fun e w' ⟨v', h1, h2, h3⟩ => ⟨v', h1, h2, hg.trans h3⟩)
  have e5 : Hid (∀ wx v1, Row B wx v1 (l ++ numL 1 ac ++ textL us ++ textL bx ++ textL ds ++ numL 4 n1 ++ numL 1 n2 ++ numL 1 fl.toNat ++ numL 1 n3) → Gr WX wx v v1 → Calls Tryd.prog 54 #[v1, .int .i64 ((n4 : Nat) : Int), .int .i64 4] wx fun e w' => ∃ v', e = .returned v' ∧ Row B w' v' (l ++ numL 1 ac ++ textL us ++ textL bx ++ textL ds ++ numL 4 n1 ++ numL 1 n2 ++ numL 1 fl.toNat ++ numL 1 n3 ++ numL 4 n4) ∧ Gr WX w' v v') := Lib.hid (fun wx v1 hx hg => (refNum B wx v1 _ n4 4 hx (by have := hg.size; omega) (by omega) (by omega) (by simp only [List.length_append, textL_len, numL_len]; omega)).mono fun e w' ⟨v', h1, h2, h3⟩ => ⟨v', h1, h2, hg.trans h3⟩)
  have e6 : Hid (∀ wx v1, Row B wx v1 (l ++ numL 1 ac ++ textL us ++ textL bx ++ textL ds ++ numL 4 n1 ++ numL 1 n2 ++ numL 1 fl.toNat ++ numL 1 n3 ++ numL 4 n4) → Gr WX wx v v1 → Calls Tryd.prog 54 #[v1, .int .i64 ((bs.length : Nat) : Int), .int .i64 2] wx fun e w' => ∃ v', e = .returned v' ∧ Row B w' v' (l ++ numL 1 ac ++ textL us ++ textL bx ++ textL ds ++ numL 4 n1 ++ numL 1 n2 ++ numL 1 fl.toNat ++ numL 1 n3 ++ numL 4 n4 ++ numL 2 bs.length) ∧ Gr WX w' v v') := Lib.hid (fun wx v1 hx hg => (refNum B wx v1 _ bs.length 2 hx (by have := hg.size; omega) (by omega) (by omega) (by simp only [List.length_append, textL_len, numL_len]; omega)).mono fun e w' ⟨v', h1, h2, h3⟩ => ⟨v', h1, h2, hg.trans h3⟩)
  have gX : Gr WX WX.drew v v := Gr.ofBelow (Below.refl _ _).drew
  have rX : Row B WX.drew v l := hrX.below (Below.refl _ _).drew
  obtain ⟨i0, hi, hz0, hz1, hz2⟩ := info_parts info5g
  have HAPP : Hid (∀ wx v1 l3 q bs3, Row B wx v1 l3 → B ≤ wx.heap.size → Byz wx q bs3 → l3.length + bs3.length ≤ 40000000000 → ∃ v' w', (∀ ty, (Builtin.append_ #[26, 26] ty #[v1, q]).run Tryd.prog wx = .ok v' w') ∧ Row B w' v' (l3 ++ bs3) ∧ Gr wx w' v1 v') := Lib.hid (fun wx v1 l3 q bs3 h1 h2 h3 h4 => by
    obtain ⟨v', w', hr, hro2, hgr, hn⟩ := run_append_src (P := Tryd.prog) wx 26 26 5 i0 Tryd.underlying26 hi hz0 hz1 hz2 h1 (h3.src Tryd.underlying26) (by omega) (by omega)
    exact ⟨v', w', hr, hro2, Gr.of hgr hn⟩)
  have HLEN : Hid ((l ++ numL 1 ac ++ textL us ++ textL bx ++ textL ds ++ numL 4 n1 ++ numL 1 n2 ++ numL 1 fl.toNat ++ numL 1 n3 ++ numL 4 n4 ++ numL 2 bs.length).length ≤ 30000000000) := Lib.hid (by simp only [List.length_append, textL_len, numL_len]; omega)
  have HFIN : Hid (∀ v' w', Row B w' v' ((l ++ numL 1 ac ++ textL us ++ textL bx ++ textL ds ++ numL 4 n1 ++ numL 1 n2 ++ numL 1 fl.toNat ++ numL 1 n3 ++ numL 4 n4 ++ numL 2 bs.length) ++ bs) → Gr WX w' v v' → PutR B w v (l ++ ddL ⟨ac, us, bx, ds, n1, n2, fl, n3, n4, bs⟩) (.returned v') w') := Lib.hid (fun v' w' h1 h2 => ⟨v', rfl, by unfold ddL bodyL; simp only [← List.append_assoc]; exact h1, (Gr.ofBelow hby : Gr w WX v v).trans h2⟩)
  have HF9 := Lib.hid f9
  have HWX := Lib.hid hWX
  have HSZ : Hid (∀ wx v', Gr WX wx v v' → B ≤ wx.heap.size) := Lib.hid (fun wx v' h => by have := h.size; omega)
  unfold ddV
  rw [show ddC ⟨ac, us, bx, ds, n1, n2, fl, n3, n4, bs⟩ (.slice ba bs.length bc) = #[.int .i64 (ac : Int), .string us, .string bx, .string ds, .int .i64 (n1 : Int), .int .i64 (n2 : Int), .int .u8 (fl.toNat : Int), .int .i64 (n3 : Int), .int .i64 (n4 : Int), .slice ba bs.length bc] from rfl]
  clear hv hB hp hby hbrow hWX hrX KR hi hz0 hz1 hz2 hvlt hzx f1 f2 f3 f4 f5 f6 f7 f8 f9
  go_enter Tryd.func44, Tryd.ntmps44
  go_wp2_with (first | rw [HWX.out])
  clear HWX
  go_region_held3 (fun wx => wx.cell? ⟨w.heap.size, 0, none⟩ = some (.int .i64 (ac : Int)) ∧ wx.cell? ⟨w.heap.size, 1, none⟩ = some (.string us) ∧ wx.cell? ⟨w.heap.size, 2, none⟩ = some (.string bx) ∧ wx.cell? ⟨w.heap.size, 3, none⟩ = some (.string ds)) (first | exact KX _ _ (by assumption)) (first
    | (go_at_call 54; ((with_reducible refine (d1 _ (by assumption) (by assumption)).mono ?_); rintro e wn ⟨vn, rfl, hRn, hGn⟩))
    | (go_at_call 55; ((with_reducible refine (d2 _ _ (by assumption) (by assumption)).mono ?_); rintro e wn ⟨vn, rfl, hRn, hGn⟩))
    | (go_at_call 55; ((with_reducible refine (d3 _ _ (by assumption) (by assumption)).mono ?_); rintro e wn ⟨vn, rfl, hRn, hGn⟩))
    | (go_at_call 55; ((with_reducible refine (d4 _ _ (by assumption) (by assumption)).mono ?_); rintro e wn ⟨vn, rfl, hRn, hGn⟩)))
  clear d1 d2 d3 d4 gX rX KX
  have hh := HKR.out wn vn hGn
  have c1 : wn.cell? ⟨w.heap.size, 4, none⟩ = some (.int .i64 (n1 : Int)) := cell_of_row _ _ _ _ _ _ hh
  have hC := e1.out wn vn hRn hGn
  have HC := Lib.hid hC
  clear hh hC hRn hGn
  go_wp2_with fail
  refine HC.out.mono ?_
  rintro e w5 ⟨v5, rfl, hR5, hG5⟩
  clear HC c1 e1
  have hh := HKR.out w5 v5 hG5
  have c1 : w5.cell? ⟨w.heap.size, 5, none⟩ = some (.int .i64 (n2 : Int)) := cell_of_row _ _ _ _ _ _ hh
  have hC := e2.out w5 v5 hR5 hG5
  have HC := Lib.hid hC
  clear hh hC hR5 hG5
  go_wp2_with fail
  refine HC.out.mono ?_
  rintro e w6 ⟨v6, rfl, hR6, hG6⟩
  clear HC c1 e2
  have hh := HKR.out w6 v6 hG6
  have c1 : w6.cell? ⟨w.heap.size, 6, none⟩ = some (.int .u8 (fl.toNat : Int)) := cell_of_row _ _ _ _ _ _ hh
  have hC := e3.out w6 v6 hR6 hG6
  have HC := Lib.hid hC
  clear hh hC hR6 hG6
  go_wp2_with fail
  refine HC.out.mono ?_
  rintro e w7 ⟨v7, rfl, hR7, hG7⟩
  clear HC c1 e3
  have hh := HKR.out w7 v7 hG7
  have c1 : w7.cell? ⟨w.heap.size, 7, none⟩ = some (.int .i64 (n3 : Int)) := cell_of_row _ _ _ _ _ _ hh
  have hC := e4.out w7 v7 hR7 hG7
  have HC := Lib.hid hC
  clear hh hC hR7 hG7
  go_wp2_with fail
  refine HC.out.mono ?_
  rintro e w8 ⟨v8, rfl, hR8, hG8⟩
  clear HC c1 e4
  have hh := HKR.out w8 v8 hG8
  have c1 : w8.cell? ⟨w.heap.size, 8, none⟩ = some (.int .i64 (n4 : Int)) := cell_of_row _ _ _ _ _ _ hh
  have hC := e5.out w8 v8 hR8 hG8
  have HC := Lib.hid hC
  clear hh hC hR8 hG8
  go_wp2_with fail
  refine HC.out.mono ?_
  rintro e w9 ⟨v9, rfl, hR9, hG9⟩
  clear HC c1 e5
  have gq : Gr WX w9.drew v v9 := hG9.trans (Gr.ofBelow (Below.refl _ _).drew)
  have rq : Row B w9.drew v9 (l ++ numL 1 ac ++ textL us ++ textL bx ++ textL ds ++ numL 4 n1 ++ numL 1 n2 ++ numL 1 fl.toNat ++ numL 1 n3 ++ numL 4 n4) := hR9.below (Below.refl _ _).drew
  have KS : ∀ wx v', Gr WX wx v v' → wx.cell? ⟨w.heap.size, 9, none⟩ = some (.slice ba bs.length bc) := fun wx v' h => cell_of_row _ _ _ _ _ _ (HKR.out wx v' h)
  have HS4 := Lib.hid (KS _ _ gq)
  have L2 : ∀ W : World, W.cell? ⟨w.heap.size, 9, none⟩ = some (.slice ba bs.length bc) → (Instr.loadAt 26 (.pointer (some ⟨w.heap.size, 9, none⟩))).run Tryd.prog W = .ok (.slice ba bs.length bc) W := fun W hc => by go_simp
  have HGQ := Lib.hid gq
  have HRQ := Lib.hid rq
  clear hR9 hG9 gq rq
  go_wp2_with fail
  refine wp_region_held_drew (S := fun W => W.cell? ⟨w.heap.size, 9, none⟩ = some (.slice ba bs.length bc)) (by kernel_rfl) HS4.out (fun _ => ?_)
  refine hh_take 0 (some 39) (v9) rfl rfl (by kernel_rfl) (by kernel_rfl) (by kernel_rfl) (fun _ _ _ h => h) rfl (fun _ _ => rfl) HS4.out ?_
  simp only [Act.put, List.setIfInBounds_toArray, List.set_cons_zero, List.set_cons_succ]
  refine hh_take 1 (some 40) (.pointer (some ⟨w.heap.size, 9, none⟩)) rfl rfl (by kernel_rfl) (by kernel_rfl) (by kernel_rfl) (fun _ _ _ h => h) rfl (fun _ _ => by kernel_rfl) HS4.out ?_
  simp only [Act.put, List.setIfInBounds_toArray, List.set_cons_zero, List.set_cons_succ]
  refine hh_take 2 (some 41) (.slice ba bs.length bc) rfl rfl (by kernel_rfl) (by kernel_rfl) (by kernel_rfl) (fun _ _ _ h => h) rfl (fun W hW => ex_load 26 (.tmp 40) rfl _ _ rfl (L2 W hW)) HS4.out ?_
  simp only [Act.put, List.setIfInBounds_toArray, List.set_cons_zero, List.set_cons_succ]
  refine hh_take 3 (some 42) (.int .i64 (bs.length : Int)) rfl rfl (by kernel_rfl) (by kernel_rfl) (by kernel_rfl) (fun _ _ _ h => h) rfl (fun _ _ => by first | rfl | kernel_rfl | go_simp) HS4.out ?_
  simp only [Act.put, List.setIfInBounds_toArray, List.set_cons_zero, List.set_cons_succ]
  refine hh_take 5 (some 44) (.pointer (some ⟨w.heap.size, 9, none⟩)) rfl rfl (by kernel_rfl) (by kernel_rfl) (by kernel_rfl) (fun _ _ _ h => h) rfl (fun _ _ => by kernel_rfl) HS4.out ?_
  simp only [Act.put, List.setIfInBounds_toArray, List.set_cons_zero, List.set_cons_succ]
  refine hh_take 6 (some 45) (.slice ba bs.length bc) rfl rfl (by kernel_rfl) (by kernel_rfl) (by kernel_rfl) (fun _ _ _ h => h) rfl (fun W hW => ex_load 26 (.tmp 44) rfl _ _ rfl (L2 W hW)) HS4.out ?_
  simp only [Act.put, List.setIfInBounds_toArray, List.set_cons_zero, List.set_cons_succ]
  refine hh_one 4 (by kernel_rfl) rfl rfl (fun K hK => wp_callsE (some 43) rfl 54 _ (ex_call3h 54 (.tmp 39) (.tmp 42) (.const (.int .i64 2)) _ rfl _ _ _ rfl rfl rfl (fun _ _ => rfl)) (fun v' w' => Row B w' v' (l ++ numL 1 ac ++ textL us ++ textL bx ++ textL ds ++ numL 4 n1 ++ numL 1 n2 ++ numL 1 fl.toNat ++ numL 1 n3 ++ numL 4 n4 ++ numL 2 bs.length) ∧ Gr WX w' v v') (e6.out _ v9 HRQ.out HGQ.out) (fun v5 w5 hR5 => hK _ _ (KS w5 v5 hR5.2) ?_))
  clear hK K
  simp only [Act.put, List.setIfInBounds_toArray, List.set_cons_zero, List.set_cons_succ]
  obtain ⟨v6, w6, hap6, hr6, hg6⟩ := HAPP.out _ v5 (l ++ numL 1 ac ++ textL us ++ textL bx ++ textL ds ++ numL 4 n1 ++ numL 1 n2 ++ numL 1 fl.toNat ++ numL 1 n3 ++ numL 4 n4 ++ numL 2 bs.length) _ bs hR5.1 (HSZ.out _ _ hR5.2) (HBZ.out w5 v5 hR5.2) (by have := HLEN.out; have := HF9.out; omega)
  have g6w := hR5.2.trans hg6
  refine hh_one 7 (by kernel_rfl) rfl rfl (fun K hK => wp_runsh (some 46) rfl (ex_append (.tmp 43) (.tmp 45) 26 26 rfl v5 (.slice ba bs.length bc) v6 rfl rfl hap6) (hK _ _ (KS w6 v6 g6w) ?_))
  clear hK K
  simp only [Act.put, List.setIfInBounds_toArray, List.set_cons_zero, List.set_cons_succ]
  refine hh_take 8 (some 4) (v6) rfl rfl (by kernel_rfl) (by kernel_rfl) (by kernel_rfl) (fun _ _ _ h => h) rfl (fun _ _ => rfl) (KS w6 v6 g6w) ?_
  simp only [Act.put, List.setIfInBounds_toArray, List.set_cons_zero, List.set_cons_succ]
  refine wpAnyH_done (by kernel_rfl) ?_ _
  have HE := Lib.hid (HFIN.out v6 w6 hr6 g6w)
  clear hap6 hr6 hg6 g6w
  go_wp2_with fail
  go_ret
  exact HE.out
end Go.Proofs.YtjljbnilckkjnaaDoor
