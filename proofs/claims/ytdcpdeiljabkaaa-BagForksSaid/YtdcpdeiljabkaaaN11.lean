/- Bag, the document's own: appends, the bag as it lies, Len, at, First, New. -/
import Derived.Test.YtdcpdeiljabkaaaN9
namespace Go.Proofs.Ytdcpdeiljabkaaa
open Go Go.RowKit

/-- append onto a slice that is the call's own and is somewhere. -/
theorem app_any {P : Program} (w : World) (B : Nat) (t e : TypeId) (i : TypeInfo) (z : Value) (size bytes : Nat) (ht : P.underlying t = some (.slice e)) (hi : P.info? e = some i) (hz : i.zero = some z)
    (hsize : i.size = size) (hby : i.bytes = bytes) (hzs : z.cells.size = size) (hsz : 0 < size)
    (g n cap : Nat) (xs : List Value) (hown : w.ownsRow B e size (.slice (some ⟨g, 0, none⟩) n cap) n xs) (x : Value) (m : Nat) (ys : List Value) (hx : w.ownsRow 0 e size x m ys) (h1 : ∀ u ∈ ys, u.oneCell' = true)
    (h63 : n + m ≤ maxLen) (hbytes : (n + m) * bytes ≤ 140737488355328) (hB : B ≤ w.heap.size) :
    ∃ g' c' w', (∀ ty, (Builtin.append_ #[t, t] ty #[.slice (some ⟨g, 0, none⟩) n cap, x]).run P w = .ok (.slice (some ⟨g', 0, none⟩) (n + m) c') w') ∧ w'.ownsRow B e size (.slice (some ⟨g', 0, none⟩) (n + m) c') (n + m) (xs ++ ys) ∧ w.grownBy w' (some g) ∧ (g' = g ∨ w.heap.size ≤ g') := by
  rcases hx.2 with ⟨rfl, rfl⟩ | ⟨gx, cx, curx, rfl, _, hgx, _⟩
  · have hys : ys = [] := List.eq_nil_of_length_eq_zero (by simpa using hx.1)
    subst hys
    refine ⟨g, cap, w, fun ty => run_append_owned_none (P := P) (w := w) B t ty e i size ht hi _ n xs hown, by rw [List.append_nil]; exact hown, ⟨rfl, rfl, rfl, Nat.le_refl _, fun _ _ _ => rfl⟩, Or.inl rfl⟩
  · have hl := hx.1
    have hnews : ∀ j u, ys[j]? = some u → w.cell? ((⟨gx, 0, none⟩ : Addr).add j) = some u := hx.cells (g := gx) rfl
    obtain ⟨v', w', hr, h2, h3, _⟩ := run_append_own (P := P) w B t 0 e i z size bytes ht hi hz hsize hby hzs hsz _ n xs hown ⟨gx, 0, none⟩ m cx ys hl hnews h1 h63 hbytes hB
    have hr' : ∀ ty, (Builtin.append_ #[t, t] ty #[.slice (some ⟨g, 0, none⟩) n cap, .slice (some ⟨gx, 0, none⟩) m cx]).run P w = .ok v' w' := fun ty => hr
    subst hsize hby
    have hmx : n + m ≤ 9223372036854775807 := by simp only [maxLen] at h63; omega
    rcases hown.2 with ⟨e0, _⟩ | ⟨g', cap', cur, e1, _, hgc, hnc, hcm, hcs, _⟩
    · cases e0
    · injection e1 with ea _ ec
      injection ea with ea
      injection ea with ea
      subst ea ec
      by_cases hroom : n + m ≤ cap
      · have hfit : n * i.size + ys.length ≤ cur.size := by rw [hl, hcs, ← Nat.add_mul]; exact Nat.mul_le_mul_right _ hroom
        have hr2 := run_append_room (P := P) w t 0 e i ht hi g n cap cur hgc ⟨gx, 0, none⟩ m cx ys hl hnews h1 hroom hfit
        rw [hr] at hr2
        injection hr2 with e1 e2
        subst e1
        exact ⟨_, _, w', hr', h2, h3, Or.inl rfl⟩
      · have holds : ∀ j u, xs[j]? = some u → w.cell? ((⟨g, 0, none⟩ : Addr).add j) = some u := hown.cells (g := g) rfl
        have hr2 := run_append_grow (P := P) w t 0 e i z ht hi hz ⟨g, 0, none⟩ n cap xs hown.1 holds ⟨gx, 0, none⟩ m cx ys hl hnews (by omega) (by omega) (growslice_fits (by omega) hbytes)
        rw [hr] at hr2
        injection hr2 with e1 e2
        subst e1
        exact ⟨_, _, w', hr', h2, h3, Or.inr (Nat.le_refl _)⟩
/-- A row of cells as a slice of one's own. -/
theorem owns_of_row {w : World} {g n size : Nat} {e : TypeId} {cs : List Value} {B : Nat} (h : w.heap[g]? = some (.cells cs.toArray e (0, 0))) (hB : B ≤ g) (hl : cs.length = n * size) (hn : n ≤ maxLen) : w.ownsRow B e size (.slice (some ⟨g, 0, none⟩) n n) n cs := by
  refine ⟨hl, Or.inr ⟨g, n, cs.toArray, rfl, hB, h, Nat.le_refl _, hn, by simpa using hl, ?_⟩⟩
  rw [← hl]
  simp
def rcur : List Und → List Bool → List Und
  | x :: us, true :: ts => x :: rcur us ts
  | _ :: us, false :: ts => rcur us ts
  | _, _ => []
def cntT : List Bool → Nat
  | [] => 0
  | t :: ts => (if t = true then 1 else 0) + cntT ts
theorem cntT_app : ∀ a b : List Bool, cntT (a ++ b) = cntT a + cntT b
  | [], b => by simp [cntT]
  | x :: t, b => by rw [List.cons_append, cntT, cntT, cntT_app t b]; omega
theorem cntT_take (l : List Bool) (k : Nat) (x : Bool) (h : l[k]? = some x) : cntT (l.take (k + 1)) = cntT (l.take k) + (if x = true then 1 else 0) := by
  rw [List.take_add_one, h, cntT_app]
  simp [cntT]
theorem rcur_len : ∀ (us : List Und) (ts : List Bool), us.length = ts.length → (rcur us ts).length = cntT ts
  | [], [], _ => rfl
  | [], t :: ts, h => by simp at h
  | x :: us, [], h => by simp at h
  | x :: us, true :: ts, h => by rw [rcur, cntT, List.length_cons, rcur_len us ts (by simpa using h)]; simp; omega
  | x :: us, false :: ts, h => by rw [rcur, cntT, rcur_len us ts (by simpa using h)]; simp
theorem rcur_app : ∀ (us : List Und) (ts : List Bool) (x : Und), us.length = ts.length → rcur (us ++ [x]) (ts ++ [true]) = rcur us ts ++ [x]
  | [], [], x, _ => rfl
  | [], t :: ts, _, h => by simp at h
  | x :: us, [], _, h => by simp at h
  | y :: us, true :: ts, x, h => by rw [List.cons_append, List.cons_append, rcur, rcur, rcur_app us ts x (by simpa using h)]; rfl
  | y :: us, false :: ts, x, h => by rw [List.cons_append, List.cons_append, rcur, rcur, rcur_app us ts x (by simpa using h)]
def atF : List Bool → Nat → Nat → Int
  | [], _, _ => -1
  | false :: t, k, i => atF t (k + 1) i
  | true :: _, k, 0 => (k : Int)
  | true :: t, k, i + 1 => atF t (k + 1) i
theorem at_spec : ∀ (us : List Und) (ts : List Bool) (k i : Nat), us.length = ts.length →
    (i < (rcur us ts).length → ∃ j, atF ts k i = ((k + j : Nat) : Int) ∧ j < ts.length ∧ us[j]? = (rcur us ts)[i]? ∧ rcur us (ts.set j false) = (rcur us ts).eraseIdx i) ∧ (¬ i < (rcur us ts).length → atF ts k i = -1)
  | [], [], k, i, _ => ⟨fun h => by simp [rcur] at h, fun _ => rfl⟩
  | [], t :: ts, _, _, h => by simp at h
  | x :: us, [], _, _, h => by simp at h
  | x :: us, false :: ts, k, i, h => by
    obtain ⟨h1, h2⟩ := at_spec us ts (k + 1) i (by simpa using h)
    rw [rcur, atF]
    refine ⟨fun hi => ?_, h2⟩
    obtain ⟨j, e1, e2, e3, e4⟩ := h1 hi
    exact ⟨j + 1, by rw [e1]; congr 1; omega, by simp; omega, by simpa using e3, by rw [List.set_cons_succ, rcur, e4]⟩
  | x :: us, true :: ts, k, 0, h => by
    rw [rcur, atF]
    exact ⟨fun _ => ⟨0, rfl, by simp, rfl, by rw [List.set_cons_zero, rcur]; rfl⟩, fun hn => absurd (by simp) hn⟩
  | x :: us, true :: ts, k, i + 1, h => by
    obtain ⟨h1, h2⟩ := at_spec us ts (k + 1) i (by simpa using h)
    rw [rcur, atF]
    refine ⟨fun hi => ?_, fun hi => h2 (by simpa using hi)⟩
    obtain ⟨j, e1, e2, e3, e4⟩ := h1 (by simpa using hi)
    exact ⟨j + 1, by rw [e1]; congr 1; omega, by simp; omega, by simpa using e3, by rw [List.set_cons_succ, rcur, e4]; rfl⟩
/-- The document's bag in block q. -/
structure RB (N : Nat) (w : World) (q : Nat) (m gone : Nat) (av : Value) (us : List UV) (tv : Value) (ts : List Bool) : Prop where
  row : w.heap[q]? = some (.cells #[.int .i64 (m : Int), av, tv, .int .i64 (gone : Int)] 62 (0, 0))
  all : UvAt N w av us
  tr : w.ownsRow N 4 1 tv ts.length (ts.map Value.bool)
  len : us.length = ts.length
  neA : ∀ g, HasB av us g → g ≠ q
  neT : ∀ g, tv.ownBlock = some g → g ≠ q
  base : N ≤ q
theorem RB.lt {N q m gone : Nat} {w : World} {av tv : Value} {us : List UV} {ts : List Bool} (h : RB N w q m gone av us tv ts) : q < w.heap.size := (Array.getElem?_eq_some_iff.1 h.row).1
theorem RB.cells {N q m gone : Nat} {w : World} {av tv : Value} {us : List UV} {ts : List Bool} (h : RB N w q m gone av us tv ts) : w.cell? ⟨q, 0, none⟩ = some (.int .i64 (m : Int)) ∧ w.cell? ⟨q, 1, none⟩ = some av ∧ w.cell? ⟨q, 2, none⟩ = some tv ∧ w.cell? ⟨q, 3, none⟩ = some (.int .i64 (gone : Int)) ∧ w.frozen? ⟨q, 1, none⟩ = false ∧ w.frozen? ⟨q, 2, none⟩ = false ∧ w.frozen? ⟨q, 3, none⟩ = false :=
  ⟨cell_of_row _ _ _ _ _ _ h.row, cell_of_row _ _ _ _ _ _ h.row, cell_of_row _ _ _ _ _ _ h.row, cell_of_row _ _ _ _ _ _ h.row, frozen_of_row _ _ _ _ _ h.row, frozen_of_row _ _ _ _ _ h.row, frozen_of_row _ _ _ _ _ h.row⟩
theorem RB.kept {N q m gone : Nat} {w w' : World} {av tv : Value} {us : List UV} {ts : List Bool} (h : RB N w q m gone av us tv ts) (hs : w.heap.size ≤ w'.heap.size) (hk : ∀ g, g = q ∨ HasB av us g ∨ tv.ownBlock = some g → w'.heap[g]? = w.heap[g]?) : RB N w' q m gone av us tv ts :=
  ⟨(hk q (Or.inl rfl)).trans h.row, h.all.kept hs (fun g hg => hk g (Or.inr (Or.inl hg))), owns_frame h.tr (fun g hg => hk g (Or.inr (Or.inr hg))), h.len, h.neA, h.neT, h.base⟩
theorem RB.below {N q m gone : Nat} {w w' : World} {av tv : Value} {us : List UV} {ts : List Bool} (h : RB N w q m gone av us tv ts) (hb : Below w.heap.size w w') : RB N w' q m gone av us tv ts :=
  h.kept hb.size (fun g hg => hb.block g (by rcases hg with rfl | hg | hg; exact h.lt; exact h.all.lt g hg; exact (World.ownsRow.lt h.tr g hg).2))
theorem owns_bool {N : Nat} {w : World} {tv : Value} {ts : List Bool} (h : w.ownsRow N 4 1 tv ts.length (ts.map Value.bool)) (k : Nat) (t : Bool) (hk : ts[k]? = some t) : ∃ g c, tv = .slice (some ⟨g, 0, none⟩) ts.length c ∧ w.cell? ⟨g, k, none⟩ = some (.bool t) := by
  rcases h.2 with ⟨_, h0⟩ | ⟨g, cap, cur, e, _⟩
  · rw [List.eq_nil_of_length_eq_zero h0] at hk; cases hk
  · refine ⟨g, cap, e, ?_⟩
    have := World.ownsRow.cells h (g := g) (by rw [e]; rfl) k (.bool t) (by rw [List.getElem?_map, hk]; rfl)
    rwa [addr_plus, Nat.zero_add] at this
set_option maxHeartbeats 4000000 in
set_option maxRecDepth 100000 in
theorem rlen_any (N q m gone : Nat) (w : World) (av tv : Value) (us : List UV) (ts : List Bool) (h : RB N w q m gone av us tv ts) (hn : ts.length ≤ 1000) :
    Calls Try.prog 20 #[.pointer (some ⟨q, 0, none⟩)] w fun e w' => e = .returned (.int .i64 (cntT ts : Int)) ∧ w = w' := by
  obtain ⟨_, _, c2, _, _⟩ := h.cells
  have HAT := Lib.hid (owns_bool h.tr)
  obtain ⟨ta, tc, rfl, _⟩ := owns_shape h.tr
  have HC : Hid (∀ k, k ≤ ts.length → cntT (ts.take k) ≤ 1000) := Lib.hid (fun k hk => by
    have : ∀ l : List Bool, cntT l ≤ l.length := fun l => by
      induction l with
      | nil => simp [cntT]
      | cons x t ih => rw [cntT, List.length_cons]; split <;> omega
    have := this (ts.take k)
    rw [List.length_take] at this
    omega)
  clear h
  go_enter Try.func20, Try.ntmps20
  go_wp2
  go_loop [3, 4] (fun nv iv => ∃ k : Nat, k ≤ ts.length ∧ iv = .int .i64 (k : Int) ∧ nv = .int .i64 ((cntT (ts.take k) : Nat) : Int)) (fun nv iv => ts.length - (intOf iv).toNat)
  case atStart => exact ⟨0, Nat.zero_le _, rfl, rfl⟩
  case round =>
    obtain ⟨k, hk, rfl, rfl⟩ := hrel
    have hcb := HC.out k hk
    obtain ⟨ct, hct⟩ : ∃ ct, cntT (ts.take k) = ct := ⟨_, rfl⟩
    rw [hct] at hcb ⊢
    by_cases hlt : k < ts.length
    · have hlt' : (k : Int) < (ts.length : Int) := by omega
      obtain ⟨t, ht⟩ : ∃ t, ts[k]? = some t := ⟨_, List.getElem?_eq_getElem hlt⟩
      obtain ⟨g, c, e, hc⟩ := HAT.out k t ht
      injection e with e1 _ _
      subst e1
      have HT := Lib.hid (cntT_take ts k t ht)
      rw [hct] at HT
      clear ht hct
      cases t with
      | true =>
        go_wp2
        go_round
        case rel => exact ⟨k + 1, by omega, by go_num, by rw [HT.out, if_pos rfl]; go_num⟩
        case measure => simp [intOf]; omega
      | false =>
        go_wp2
        go_round
        case rel => exact ⟨k + 1, by omega, by go_num, by rw [HT.out, if_neg (by simp)]; rfl⟩
        case measure => simp [intOf]; omega
    · have hkl : k = ts.length := by omega
      rw [hkl, List.take_length] at hct
      have hlt' : ¬ (k : Int) < (ts.length : Int) := by omega
      have HCT := Lib.hid hct
      clear hct hkl
      go_wp2
      go_ret
      exact ⟨by rw [HCT.out]; rfl, rfl⟩
set_option maxHeartbeats 4000000 in
set_option maxRecDepth 100000 in
theorem rat_any (N q m gone : Nat) (w : World) (av tv : Value) (us : List UV) (ts : List Bool) (i : Int) (h : RB N w q m gone av us tv ts) (hn : ts.length ≤ 1000) (hib : i ≤ 9223372036854775807) :
    Calls Try.prog 32 #[.pointer (some ⟨q, 0, none⟩), .int .i64 i] w fun e w' => e = .returned (.int .i64 (if i < 0 then -1 else atF ts 0 i.toNat)) ∧ w = w' := by
  obtain ⟨_, _, c2, _, _⟩ := h.cells
  have HAT := Lib.hid (owns_bool h.tr)
  obtain ⟨ta, tc, rfl, _⟩ := owns_shape h.tr
  clear h
  by_cases hi : i < 0
  · rw [if_pos hi]
    go_enter Try.func32, Try.ntmps32
    go_wp2
    go_ret
    exact ⟨rfl, rfl⟩
  · rw [if_neg hi]
    obtain ⟨i, rfl⟩ : ∃ n : Nat, i = (n : Int) := ⟨i.toNat, by omega⟩
    rw [Int.toNat_natCast]
    obtain ⟨R, hR⟩ : ∃ R, atF ts 0 i = R := ⟨_, rfl⟩
    have HR := Lib.hid hR
    rw [hR]
    clear hR
    go_enter Try.func32, Try.ntmps32
    go_wp2
    go_loop [1, 5] (fun nv iv => ∃ k j : Nat, k ≤ ts.length ∧ j ≤ i ∧ iv = .int .i64 (k : Int) ∧ nv = .int .i64 (j : Int) ∧ Hid (atF (ts.drop k) k j = R)) (fun nv iv => ts.length - (intOf iv).toNat)
    case atStart => exact ⟨0, i, Nat.zero_le _, Nat.le_refl _, rfl, rfl, HR⟩
    case round =>
      clear HR
      obtain ⟨k, j, hk, hj, rfl, rfl, hH⟩ := hrel
      by_cases hlt : k < ts.length
      · have hlt' : (k : Int) < (ts.length : Int) := by omega
        obtain ⟨t, ht⟩ : ∃ t, ts[k]? = some t := ⟨_, List.getElem?_eq_getElem hlt⟩
        obtain ⟨g, c, e, hc⟩ := HAT.out k t ht
        injection e with e1 _ _
        subst e1
        have hgo := hH.out
        rw [drop_atn ht] at hgo
        clear hH ht
        cases t with
        | true =>
          cases j with
          | zero =>
            rw [atF] at hgo
            have HG := Lib.hid hgo
            clear hgo
            go_wp2
            go_ret
            exact ⟨by rw [HG.out]; rfl, rfl⟩
          | succ j =>
            rw [atF] at hgo
            have HG := Lib.hid hgo
            clear hgo
            have hj0 : ¬ ((j + 1 : Nat) : Int) = 0 := by omega
            have hj1 : (((j + 1 : Nat) : Int) == 0) = false := by rw [beq_eq_false_iff_ne]; exact hj0
            go_wp2
            go_round
            case rel => exact ⟨k + 1, j, by omega, by omega, by go_num, by go_num, HG⟩
            case measure => simp [intOf]; omega
        | false =>
          rw [atF] at hgo
          have HG := Lib.hid hgo
          clear hgo
          go_wp2
          go_round
          case rel => exact ⟨k + 1, j, by omega, by omega, by go_num, rfl, HG⟩
          case measure => simp [intOf]; omega
      · have hkl : k = ts.length := by omega
        have hgo := hH.out
        rw [hkl, List.drop_length, atF] at hgo
        have hlt' : ¬ (k : Int) < (ts.length : Int) := by omega
        have HG := Lib.hid hgo
        clear hgo hH hkl
        go_wp2
        go_ret
        exact ⟨by rw [← HG.out]; rfl, rfl⟩
end Go.Proofs.Ytdcpdeiljabkaaa
