/- Bag: Same, and how often a message is among others. -/
import Derived.Test.YtdcpdeiljabkaaaN8
namespace Go.Proofs.Ytdcpdeiljabkaaa
open Go Go.RowKit

def sameU (a b : Und) : Bool := a.src == b.src && (a.dst == b.dst && a.bytes == b.bytes)
theorem arr_list (l : List UInt8) : (⟨l.toArray⟩ : ByteArray).toList = l := by rw [Lib.toList_data]
theorem und_cells {w W : World} {a b : Und} {av bv : Value} (hW : (w.alloc (.cells #[.int .i64 a.src, .int .i64 a.dst, av] 34)).alloc (.cells #[.int .i64 b.src, .int .i64 b.dst, bv] 34) = W) :
    Below w.heap.size w W ∧ W.cell? ⟨w.heap.size, 0, none⟩ = some (.int .i64 a.src) ∧ W.cell? ⟨w.heap.size, 1, none⟩ = some (.int .i64 a.dst) ∧ W.cell? ⟨w.heap.size, 2, none⟩ = some av ∧ W.cell? ⟨w.heap.size + 1, 0, none⟩ = some (.int .i64 b.src) ∧ W.cell? ⟨w.heap.size + 1, 1, none⟩ = some (.int .i64 b.dst) ∧ W.cell? ⟨w.heap.size + 1, 2, none⟩ = some bv := by
  have r0 : W.heap[w.heap.size]? = some (.cells #[.int .i64 a.src, .int .i64 a.dst, av] 34 (0, 0)) := by rw [← hW]; exact heap_alloc2_old w _ _
  have r1 : W.heap[w.heap.size + 1]? = some (.cells #[.int .i64 b.src, .int .i64 b.dst, bv] 34 (0, 0)) := by rw [← hW]; exact heap_alloc2_new w _ _
  refine ⟨by rw [← hW]; exact ((Below.refl _ w).alloc (Nat.le_refl _) _).alloc (by simp) _, ?_, ?_, ?_, ?_, ?_, ?_⟩
  · exact cell_of_row _ _ _ _ _ _ r0
  · exact cell_of_row _ _ _ _ _ _ r0
  · exact cell_of_row _ _ _ _ _ _ r0
  · exact cell_of_row _ _ _ _ _ _ r1
  · exact cell_of_row _ _ _ _ _ _ r1
  · exact cell_of_row _ _ _ _ _ _ r1
set_option maxHeartbeats 4000000 in
set_option maxRecDepth 100000 in
theorem same_any (a b : Und) (av bv : Value) (w : World) (ha : Byz w av a.bytes) (hb : Byz w bv b.bytes) :
    Calls Try.prog 16 #[.agg #[.int .i64 a.src, .int .i64 a.dst, av], .agg #[.int .i64 b.src, .int .i64 b.dst, bv]] w fun e w' => e = .returned (.bool (sameU a b)) ∧ Below w.heap.size w w' := by
  obtain ⟨aa, ac, rfl⟩ := ha.1
  obtain ⟨ba, bc, rfl⟩ := hb.1
  obtain ⟨W, hW⟩ : ∃ W, (w.alloc (.cells #[.int .i64 a.src, .int .i64 a.dst, .slice aa a.bytes.length ac] 34)).alloc (.cells #[.int .i64 b.src, .int .i64 b.dst, .slice ba b.bytes.length bc] 34) = W := ⟨_, rfl⟩
  obtain ⟨hbw, a0, a1, a2, b0, b1, b2⟩ := und_cells hW
  have c1 := run_byz_string W _ _ 5 Try.underlying32 Try.underlying5 Try.underlying9 (ha.below hbw)
  have c2 := run_byz_string W _ _ 5 Try.underlying32 Try.underlying5 Try.underlying9 (hb.below hbw)
  have HW := Lib.hid hW
  have HB := Lib.hid hbw
  unfold sameU
  have HR : Hid (∀ x y z : Bool, (a.src == b.src) = x → (a.dst == b.dst) = y → (a.bytes == b.bytes) = z → (a.src == b.src && (a.dst == b.dst && a.bytes == b.bytes)) = (x && (y && z))) := Lib.hid (fun x y z h1 h2 h3 => by rw [h1, h2, h3])
  have e3 : ((⟨a.bytes.toArray⟩ : ByteArray).toList == (⟨b.bytes.toArray⟩ : ByteArray).toList) = (a.bytes == b.bytes) := by rw [arr_list, arr_list]
  clear ha hb hbw hW
  cases h1 : (a.src == b.src) with
  | false =>
    clear e3 HR
    go_enter Try.func16, Try.ntmps16
    go_wp2_with (first | rw [HW.out])
    go_ret
    exact ⟨ret_bool (by simp), HB.out⟩
  | true =>
    cases h2 : (a.dst == b.dst) with
    | false =>
      clear e3 HR
      go_enter Try.func16, Try.ntmps16
      go_wp2_with (first | rw [HW.out])
      go_ret
      exact ⟨ret_bool (by simp), HB.out⟩
    | true =>
      cases h3 : (a.bytes == b.bytes) with
      | false =>
        rw [h3] at e3
        clear HR
        go_enter Try.func16, Try.ntmps16
        go_wp2_with (first | rw [HW.out])
        go_ret
        exact ⟨ret_bool (by simp), HB.out⟩
      | true =>
        rw [h3] at e3
        clear HR
        go_enter Try.func16, Try.ntmps16
        go_wp2_with (first | rw [HW.out])
        go_ret
        exact ⟨ret_bool (by simp), HB.out⟩
theorem sameU_iff (a b : Und) : sameU a b = true ↔ a = b := by
  obtain ⟨a1, a2, a3⟩ := a
  obtain ⟨b1, b2, b3⟩ := b
  unfold sameU
  simp [Und.mk.injEq]
/-- A slice of messages that the call owns; their bytes are read. -/
structure UvAt (N : Nat) (w : World) (v : Value) (ps : List UV) : Prop where
  own : w.ownsRow N 34 3 v ps.length (ps.flatMap cellsUV)
  bytes : ∀ p ∈ ps, Byz w p.2 p.1.bytes
  ne : ∀ p ∈ ps, p.1.bytes ≠ [] → ∀ g, p.2.ownBlock = some g → v.ownBlock ≠ some g
def HasB (v : Value) (ps : List UV) (g : Nat) : Prop := v.ownBlock = some g ∨ ∃ p ∈ ps, p.1.bytes ≠ [] ∧ p.2.ownBlock = some g
theorem UvAt.lt {N : Nat} {w : World} {v : Value} {ps : List UV} (h : UvAt N w v ps) : ∀ g, HasB v ps g → g < w.heap.size := by
  intro g hg
  rcases hg with hg | ⟨p, hp, hn, hg⟩
  · exact (World.ownsRow.lt h.own g hg).2
  · exact (h.bytes p hp).lt g hg hn
theorem UvAt.low {N : Nat} {w : World} {v : Value} {ps : List UV} (h : UvAt N w v ps) : ∀ g, v.ownBlock = some g → N ≤ g := fun g hg => (World.ownsRow.lt h.own g hg).1
theorem UvAt.kept {N : Nat} {w w' : World} {v : Value} {ps : List UV} (h : UvAt N w v ps) (hs : w.heap.size ≤ w'.heap.size) (hk : ∀ g, HasB v ps g → w'.heap[g]? = w.heap[g]?) : UvAt N w' v ps :=
  ⟨owns_frame h.own (fun g hg => hk g (Or.inl hg)), fun p hp => (h.bytes p hp).kept hs (fun g hg hn => hk g (Or.inr ⟨p, hp, hn, hg⟩)), h.ne⟩
theorem UvAt.below {N : Nat} {w w' : World} {v : Value} {ps : List UV} (h : UvAt N w v ps) (hb : Below w.heap.size w w') : UvAt N w' v ps := h.kept hb.size (fun g hg => hb.block g (h.lt g hg))
theorem UvAt.nil (N : Nat) (w : World) : UvAt N w (.slice none 0 0) [] := ⟨World.ownsRow_nil _ _ _ _, (fun p hp => by cases hp), (fun p hp => by cases hp)⟩
theorem hasB_nil (g : Nat) : ¬ HasB (.slice none 0 0) [] g := by
  rintro (h | ⟨p, hp, _⟩)
  · simp [Value.ownBlock] at h
  · cases hp
theorem UvAt.at {N : Nat} {w : World} {v : Value} {ps : List UV} (h : UvAt N w v ps) (i : Nat) (p : UV) (hi : ps[i]? = some p) :
    ∃ g c, v = .slice (some ⟨g, 0, none⟩) ps.length c ∧ w.rangeAt g (i * 3) (cellsUV p) := by
  have ho := h.own
  rcases ho.2 with ⟨_, h0⟩ | ⟨g, cap, cur, e, hb, hg, _⟩
  · rw [List.eq_nil_of_length_eq_zero h0] at hi; cases hi
  · refine ⟨g, cap, e, fun j u hj => ?_⟩
    have := World.ownsRow.cells ho (g := g) (by rw [e]; rfl) _ u (flat_at cellsUV 3 ps i (fun _ _ => rfl) p hi j u hj)
    rwa [addr_plus, Nat.zero_add] at this
theorem appV (w : World) {N : Nat} {v : Value} {l : List UV} (x : UV) (hv : UvAt N w v l) (hN : N ≤ w.heap.size) (hlen : l.length + 1 ≤ 1000000) (hx : Byz w x.2 x.1.bytes) (hxv : x.1.bytes ≠ [] → ∀ g, x.2.ownBlock = some g → v.ownBlock ≠ some g) :
    ∃ a c w', (∀ ty, (Builtin.append_ #[43, 43] ty #[v, .slice (some ⟨w.heap.size, 0, none⟩) 1 1]).run Try.prog (w.alloc (.cells (unC x.1 x.2) 34)) = .ok (.slice a (l ++ [x]).length c) w') ∧ UvAt N w' (.slice a (l ++ [x]).length c) (l ++ [x]) ∧ w.grownBy w' v.ownBlock ∧ (∀ g, (Value.slice a (l ++ [x]).length c).ownBlock = some g → v.ownBlock = some g ∨ w.heap.size < g) := by
  have hb : Below w.heap.size w (w.alloc (.cells (unC x.1 x.2) 34)) := (Below.refl _ w).alloc (Nat.le_refl _) _
  have hv' : (w.alloc (.cells (unC x.1 x.2) 34)).ownsRow N 34 3 v l.length (l.flatMap cellsUV) := owns_frame hv.own (fun k hk => hb.block k (World.ownsRow.lt hv.own k hk).2)
  obtain ⟨i, hi, hz, hs, hbs⟩ := info_parts infoUn
  obtain ⟨v', w', hr, ho, hg, hwh⟩ := app_own (P := Try.prog) _ 43 34 i _ 3 40 Try.underlying43 hi hz hs hbs rfl (by decide) v l.length (l.flatMap cellsUV) (World.ownsRow.mono hv' (Nat.zero_le _)) ⟨w.heap.size, 0, none⟩ 1 1 (cellsUV x) rfl (by decide)
    (fun j u hu => by rw [addr_plus, Nat.zero_add, cell_of_row _ _ _ _ _ _ (heap_alloc_new w _)]; simpa [cellsUV, unC] using hu) (cellsUn_cell x (by obtain ⟨a, c, e⟩ := hx.1; exact ⟨a, _, c, e⟩)) (by unfold maxLen; omega) (by omega)
  have hsz : (w.alloc (.cells (unC x.1 x.2) 34)).heap.size = w.heap.size + 1 := by simp
  rw [hsz] at hwh
  have hg2 : w.grownBy w' v.ownBlock := ⟨hg.os.trans hb.os, hg.tape.trans hb.tape, hg.output.trans hb.output, Nat.le_trans hb.size hg.size, fun k hk hne => (hg.block k (Nat.lt_of_lt_of_le hk hb.size) hne).trans (hb.block k hk)⟩
  have hcl : (l ++ [x]).flatMap cellsUV = l.flatMap cellsUV ++ cellsUV x := by simp
  have hln : (l ++ [x]).length = l.length + 1 := by simp
  rw [← hcl, ← hln] at ho
  obtain ⟨a, c, rfl, _⟩ := owns_shape ho
  have hwh2 : ∀ g, (Value.slice a (l ++ [x]).length c).ownBlock = some g → v.ownBlock = some g ∨ w.heap.size < g := fun g hgg => (hwh g hgg).imp id (fun h => by omega)
  have hkeep : ∀ p, (p ∈ l ∨ p = x) → Byz w p.2 p.1.bytes ∧ (p.1.bytes ≠ [] → ∀ g, p.2.ownBlock = some g → v.ownBlock ≠ some g) := fun p hp => by
    rcases hp with hp | rfl
    · exact ⟨hv.bytes p hp, hv.ne p hp⟩
    · exact ⟨hx, hxv⟩
  refine ⟨a, c, w', hr, ⟨⟨ho.1, ?_⟩, fun p hp => ?_, fun p hp hn g hgp hgv => ?_⟩, hg2, hwh2⟩
  · rcases ho.2 with h0 | ⟨g, cap, cur, e, _, rest⟩
    · exact Or.inl h0
    · refine Or.inr ⟨g, cap, cur, e, ?_, rest⟩
      rcases hwh g (by rw [e]; rfl) with h1 | h1
      · exact (World.ownsRow.lt hv.own g h1).1
      · omega
  · have hp' : p ∈ l ∨ p = x := by rcases List.mem_append.1 hp with h | h; exact Or.inl h; exact Or.inr (List.mem_singleton.1 h)
    obtain ⟨h1, h2⟩ := hkeep p hp'
    exact h1.kept hg2.size (fun g hgp hn => hg2.block g (h1.lt g hgp hn) (fun e => h2 hn g hgp e.symm))
  · have hp' : p ∈ l ∨ p = x := by rcases List.mem_append.1 hp with h | h; exact Or.inl h; exact Or.inr (List.mem_singleton.1 h)
    obtain ⟨h1, h2⟩ := hkeep p hp'
    have := h1.lt g hgp hn
    rcases hwh2 g hgv with h | h
    · exact h2 hn g hgp h
    · omega
theorem ret_int {a b : Int} (h : a = b) : Ending.returned (.int .i64 a) = .returned (.int .i64 b) := by rw [h]
def cntU (u : Und) : List Und → Nat
  | [] => 0
  | x :: t => (if sameU x u = true then 1 else 0) + cntU u t
theorem cntU_app (u : Und) : ∀ a b : List Und, cntU u (a ++ b) = cntU u a + cntU u b
  | [], b => by simp [cntU]
  | x :: t, b => by rw [List.cons_append, cntU, cntU, cntU_app u t b]; omega
theorem cntU_take (u : Und) (l : List Und) (k : Nat) (x : Und) (h : l[k]? = some x) : cntU u (l.take (k + 1)) = cntU u (l.take k) + (if sameU x u = true then 1 else 0) := by
  rw [List.take_add_one, h, cntU_app]
  simp [cntU]
set_option maxHeartbeats 4000000 in
set_option maxRecDepth 100000 in
theorem count_any (N : Nat) (w : World) (v : Value) (ps : List UV) (u : Und) (uv : Value) (h : UvAt N w v ps) (hu : Byz w uv u.bytes) (hn : ps.length ≤ 1000) :
    Calls Try.prog 15 #[v, .agg #[.int .i64 u.src, .int .i64 u.dst, uv]] w fun e w' => e = .returned (.int .i64 (cntU u (ps.map (·.1)) : Int)) ∧ Below w.heap.size w w' := by
  obtain ⟨a, c, rfl, _⟩ := owns_shape h.own
  obtain ⟨ua, uc, rfl⟩ := hu.1
  obtain ⟨W, hW⟩ : ∃ W, w.alloc (.cells #[.int .i64 u.src, .int .i64 u.dst, .slice ua u.bytes.length uc] 34) = W := ⟨_, rfl⟩
  have hbw : Below w.heap.size w W := by rw [← hW]; exact (Below.refl _ w).alloc (Nat.le_refl _) _
  have hrow : W.heap[w.heap.size]? = some (.cells #[.int .i64 u.src, .int .i64 u.dst, .slice ua u.bytes.length uc] 34 (0, 0)) := by rw [← hW]; exact heap_alloc_new w _
  have hs : W.heap.size = w.heap.size + 1 := by rw [← hW]; simp
  have HK : Hid (∀ x, Below W.heap.size W x → x.heap[w.heap.size]? = some (.cells #[.int .i64 u.src, .int .i64 u.dst, .slice ua u.bytes.length uc] 34 (0, 0)) ∧ UvAt N x (.slice a ps.length c) ps ∧ Byz x (.slice ua u.bytes.length uc) u.bytes ∧ Below w.heap.size w x) := Lib.hid (fun x hx => ⟨below_row hrow hx (by omega), (h.below hbw).below hx, (hu.below hbw).below hx, hbw.trans (hx.mono hbw.size)⟩)
  have HW := Lib.hid hW
  have HB := Lib.hid (Below.refl W.heap.size W)
  clear h hu hbw hrow hW
  go_enter Try.func15, Try.ntmps15
  go_wp2_with (first | rw [HW.out])
  go_loopw [5, 6] (fun nv iv wr => ∃ k : Nat, k ≤ ps.length ∧ iv = .int .i64 (k : Int) ∧ nv = .int .i64 ((cntU u ((ps.map (·.1)).take k) : Nat) : Int) ∧ Hid (Below W.heap.size W wr)) (fun _ iv _ => ps.length - (intOf iv).toNat)
  case atStart => exact ⟨0, Nat.zero_le _, rfl, rfl, HB⟩
  case round =>
    clear HB
    obtain ⟨k, hk, rfl, rfl, HB⟩ := hrel
    by_cases hlt : k < ps.length
    · have hlt' : (k : Int) < (ps.length : Int) := by omega
      obtain ⟨q, hp⟩ : ∃ q, ps[k]? = some q := ⟨_, List.getElem?_eq_getElem hlt⟩
      obtain ⟨hrN, hUv, hub, _⟩ := HK.out wr HB.out
      obtain ⟨g, c', e, hrg⟩ := hUv.at k q hp
      injection e with ea _ ec
      subst ea
      have hqb := hUv.bytes q (List.mem_of_getElem? hp)
      obtain ⟨qa, qc, hqv⟩ := hqb.1
      have hqk : (ps.map (·.1))[k]? = some q.1 := by rw [List.getElem?_map, hp]; rfl
      have HCN := Lib.hid (cntU_take u _ k q.1 hqk)
      have hcb : cntU u ((ps.map (·.1)).take k) ≤ k := by
        have : ∀ l : List Und, cntU u l ≤ l.length := fun l => by
          induction l with
          | nil => exact Nat.le_refl _
          | cons x t ih => rw [cntU, List.length_cons]; split <;> omega
        exact Nat.le_trans (this _) (by rw [List.length_take]; omega)
      obtain ⟨q1, q2⟩ := q
      dsimp only at hqb hqv HCN
      subst hqv
      have HRG : Hid (∀ x, Below wr.heap.size wr x → x.rangeAt g (k * 3) [.int .i64 q1.src, .int .i64 q1.dst, .slice qa q1.bytes.length qc]) := Lib.hid (fun x hx i y hy => (hx.cell (p := ⟨g, k * 3 + i, none⟩) (World.block_lt_of_cell? _ _ (hrg i y hy))).trans (hrg i y hy))
      have HSM : Hid (∀ x, Below wr.heap.size wr x → Calls Try.prog 16 #[.agg #[.int .i64 q1.src, .int .i64 q1.dst, .slice qa q1.bytes.length qc], .agg #[.int .i64 u.src, .int .i64 u.dst, .slice ua u.bytes.length uc]] x fun e w' => e = .returned (.bool (sameU q1 u)) ∧ Below wr.heap.size wr w') := Lib.hid (fun x hx => (same_any q1 u _ _ x (hqb.below hx) (hub.below hx)).mono fun _ _ ⟨h1, h2⟩ => ⟨h1, hx.trans (h2.mono hx.size)⟩)
      have HRN : Hid (∀ x, Below wr.heap.size wr x → x.cell? ⟨w.heap.size, 0, none⟩ = some (.int .i64 u.src) ∧ x.cell? ⟨w.heap.size, 1, none⟩ = some (.int .i64 u.dst) ∧ x.cell? ⟨w.heap.size, 2, none⟩ = some (.slice ua u.bytes.length uc) ∧ x.cell? ⟨g, k * 3, none⟩ = some (.int .i64 q1.src) ∧ x.cell? ⟨g, k * 3 + 1, none⟩ = some (.int .i64 q1.dst) ∧ x.cell? ⟨g, k * 3 + 2, none⟩ = some (.slice qa q1.bytes.length qc)) := Lib.hid (fun x hx => by
        have hr := below_row hrN hx (Array.getElem?_eq_some_iff.1 hrN).1
        exact ⟨cell_of_row _ _ _ _ _ _ hr, cell_of_row _ _ _ _ _ _ hr, cell_of_row _ _ _ _ _ _ hr, HRG.out x hx 0 _ rfl, HRG.out x hx 1 _ rfl, HRG.out x hx 2 _ rfl⟩)
      obtain ⟨b0, b1, b2, d0, d1, d2⟩ := HRN.out wr (Below.refl _ _)
      clear hrN hUv hub hrg hqb hp hqk ec
      have hbd := (Below.refl wr.heap.size wr).drew
      have hbr := Below.refl wr.heap.size wr
      go_wp2_with fail
      go_region_held3 (fun x => Below wr.heap.size wr x ∧ x.cell? ⟨w.heap.size, 0, none⟩ = some (.int .i64 u.src) ∧ x.cell? ⟨w.heap.size, 1, none⟩ = some (.int .i64 u.dst) ∧ x.cell? ⟨w.heap.size, 2, none⟩ = some (.slice ua u.bytes.length uc) ∧ x.cell? ⟨g, k * 3, none⟩ = some (.int .i64 q1.src) ∧ x.cell? ⟨g, k * 3 + 1, none⟩ = some (.int .i64 q1.dst) ∧ x.cell? ⟨g, k * 3 + 2, none⟩ = some (.slice qa q1.bytes.length qc)) (first | exact ⟨hbd, HRN.out _ hbd⟩ | exact ⟨hbr, HRN.out _ hbr⟩ | exact ⟨by assumption, HRN.out _ (by assumption)⟩) (first
        | (go_at_call 16; ((with_reducible refine (HSM.out _ (by assumption)).mono ?_); rintro e wn ⟨rfl, hBn⟩)))
      have HBN := Lib.hid (HB.out.trans (hBn.mono HB.out.size))
      clear hBn hbd hbr b0 b1 b2 d0 d1 d2 HRN HSM HRG
      cases hs : sameU q1 u with
      | true =>
        have hcn := HCN.out
        rw [hs, if_pos rfl] at hcn
        have HCM := Lib.hid hcn
        clear hcn HCN
        go_wp2
        go_roundw
        case rel => exact ⟨k + 1, by omega, by go_num, by rw [HCM.out]; push_cast; rfl, HBN⟩
        case measure => simp [intOf]; omega
      | false =>
        have hcn := HCN.out
        rw [hs, if_neg (by simp)] at hcn
        have HCM := Lib.hid hcn
        clear hcn HCN
        go_wp2
        go_roundw
        case rel => exact ⟨k + 1, by omega, by go_num, by rw [HCM.out]; rfl, HBN⟩
        case measure => simp [intOf]; omega
    · have hkl : k = ps.length := by omega
      have hlt' : ¬ (k : Int) < (ps.length : Int) := by omega
      have HE : Hid (cntU u ((ps.map (·.1)).take k) = cntU u (ps.map (·.1))) := Lib.hid (by rw [List.take_of_length_le (by rw [List.length_map]; omega)])
      have HZ := Lib.hid (HK.out wr HB.out).2.2.2
      clear HB hkl
      go_wp2
      go_ret
      exact ⟨ret_int (by rw [HE.out]), HZ.out⟩
end Go.Proofs.Ytdcpdeiljabkaaa
