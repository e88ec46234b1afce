/- Coord: Todo. -/
import Derived.Test.YtleghofpabdkhaaY5
import Derived.Test.YtleghofpabdkhaaY12
import Derived.Test.YtleghofpabdkhaaY14
namespace Go.Proofs.Ytleghofpabdkhaa
open Go Go.RowKit

/-- What a shard is to be told. -/
structure Tdo where
  tx : Txn
  sh : Int
  ft : Int
def cellsD (d : Tdo) : List Value := [.int .i64 d.tx.node, .int .i64 d.tx.boot, .int .i64 d.tx.n, .int .i64 d.sh, .int .i64 d.ft]
def TdAt (B : Nat) (w : World) (v : Value) (ds : List Tdo) : Prop := w.ownsRow B 102 5 v ds.length (ds.flatMap cellsD)
theorem infoD : (Try.prog.info? 102).map (fun i => (i.zero, i.size, i.bytes)) = some (some (.agg #[.int .i64 0, .int .i64 0, .int .i64 0, .int .i64 0, .int .i64 0]), 5, 40) := by kernel_rfl
theorem TdAt.nil (B : Nat) (w : World) : TdAt B w (.slice none 0 0) [] := ⟨rfl, Or.inl ⟨rfl, rfl⟩⟩
def todoOne (t : Trn) (k : Nat) : List Tdo := if (t.sh.at k && !t.sd.at k) = true then [⟨t.tx, (k : Int), if t.dn = true then 1 else 0⟩] else []
def todoTo (t : Trn) : Nat → List Tdo
  | 0 => []
  | k + 1 => todoTo t k ++ todoOne t k
def todoL (ts : List Trn) : List Tdo := ts.flatMap (todoTo · 4)
theorem todoTo_len (t : Trn) : ∀ k, (todoTo t k).length ≤ k
  | 0 => Nat.le_refl _
  | k + 1 => by
    have := todoTo_len t k
    rw [todoTo, List.length_append]
    unfold todoOne
    split <;> simp <;> omega
theorem todoL_len : ∀ (ts : List Trn), (todoL ts).length ≤ 4 * ts.length
  | [] => Nat.le_refl _
  | t :: ts => by
    have := todoL_len ts
    have := todoTo_len t 4
    unfold todoL at *
    rw [List.flatMap_cons, List.length_append, List.length_cons]
    omega
/-- append of one. -/
theorem appD (B : Nat) (w : World) (v : Value) (ts : List Tdo) (t : Tdo) (hv : TdAt B w v ts) (hB : B ≤ w.heap.size) (hl : ts.length ≤ 100000) :
    ∃ v' w', (∀ ty, (Builtin.append_ #[67, 67] ty #[v, .slice (some ⟨w.heap.size, 0, none⟩) 1 1]).run Try.prog (w.alloc (.cells (cellsD t).toArray 102)) = .ok v' w') ∧ TdAt B w' v' (ts ++ [t]) ∧ Fr (fun k => v.ownBlock = some k) w w' ∧ ∀ g, v'.ownBlock = some g → v.ownBlock = some g ∨ w.heap.size ≤ g := by
  have hb : Below w.heap.size w (w.alloc (.cells (cellsD t).toArray 102)) := (Below.refl _ w).alloc (Nat.le_refl _) _
  have hv' := owns_frame hv (fun k hk => hb.block k (World.ownsRow.lt hv k hk).2)
  obtain ⟨i, hi, hz, hs, hbs⟩ := info_parts infoD
  obtain ⟨v', w', hr, ho, hg, hwh⟩ := app_own (P := Try.prog) _ 67 102 i _ 5 40 Try.underlying67 hi hz hs hbs rfl (by decide) v ts.length (ts.flatMap cellsD) (World.ownsRow.mono hv' (Nat.zero_le _)) ⟨w.heap.size, 0, none⟩ 1 1 (cellsD t) rfl (by decide)
    (fun j u hu => by rw [addr_plus, Nat.zero_add, cell_of_row _ _ _ _ _ _ (heap_alloc_new w _)]; simpa using hu) (by intro u hu; simp only [cellsD, List.mem_cons, List.not_mem_nil, or_false] at hu; rcases hu with rfl | rfl | rfl | rfl | rfl <;> rfl) (by unfold maxLen; omega) (by omega)
  have hsz : (w.alloc (.cells (cellsD t).toArray 102)).heap.size = w.heap.size + 1 := by simp
  rw [hsz] at hwh
  have hcl : (ts ++ [t]).flatMap cellsD = ts.flatMap cellsD ++ cellsD t := by simp
  have hln : (ts ++ [t]).length = ts.length + 1 := by simp
  rw [← hcl, ← hln] at ho
  have hwh2 : ∀ g, v'.ownBlock = some g → v.ownBlock = some g ∨ w.heap.size ≤ g := fun g hgg => (hwh g hgg).imp id (fun h => by omega)
  refine ⟨v', w', hr, ⟨ho.1, ?_⟩, (Fr.of_below _ hb).grown hg (fun k hk => Or.inl hk), hwh2⟩
  rcases ho.2 with h0 | ⟨g, cap, cur, e, _, rest⟩
  · exact Or.inl h0
  · refine Or.inr ⟨g, cap, cur, e, ?_, rest⟩
    rcases hwh2 g (by rw [e]; rfl) with h1 | h1
    · exact (World.ownsRow.lt hv g h1).1
    · omega
/-- Where the inner loop stands. -/
structure TdS (w W : World) (b : Nat) (t : Trn) (v : Value) (ds : List Tdo) : Prop where
  at_ : TdAt w.heap.size W v ds
  bl : Below w.heap.size w W
  row : W.heap[b]? = some (.cells (cellsT t).toArray 78 (0, 0))
  ne : v.ownBlock ≠ some b
theorem TdS.step {w W : World} {b : Nat} {t : Trn} {v : Value} {ds : List Tdo} (h : TdS w W b t v ds) (d : Tdo) (hl : ds.length ≤ 100000) :
    ∃ v' w', (∀ ty, (Builtin.append_ #[67, 67] ty #[v, .slice (some ⟨W.heap.size, 0, none⟩) 1 1]).run Try.prog (W.alloc (.cells (cellsD d).toArray 102)) = .ok v' w') ∧ TdS w w' b t v' (ds ++ [d]) := by
  obtain ⟨v', w', h1, h2, h3, h4⟩ := appD w.heap.size W v ds d h.at_ h.bl.size hl
  refine ⟨v', w', h1, h2, h.bl.trans (h3.below h.bl.size (fun k e => (World.ownsRow.lt h.at_ k e).1)), (h3.block b (lt_of_row' h.row) h.ne).trans h.row, fun e => ?_⟩
  rcases h4 b e with e | e
  · exact h.ne e
  · have := lt_of_row' h.row; omega
/-- What Todo tells. -/
def TodoR (w : World) (ts : List Trn) (e : Ending) (w' : World) : Prop := ∃ a c, e = .returned (.slice a (todoL ts).length c) ∧ TdAt w.heap.size w' (.slice a (todoL ts).length c) (todoL ts) ∧ Below w.heap.size w w'
set_option maxHeartbeats 32000000 in
set_option maxRecDepth 100000 in
theorem todo_any (B p : Nat) (w : World) (c : Cd) (sv : Value) (h : CdAt B w p c sv) (hn : c.under.length ≤ 1000) :
    Calls Try.prog 25 #[.pointer (some ⟨p, 0, none⟩)] w (TodoR w c.under) := by
  obtain ⟨sa, sc, rfl, _⟩ := h.lens
  obtain ⟨_, _, _, c3, _⟩ := h.cells
  obtain ⟨ts, hts⟩ : ∃ ts, c.under = ts := ⟨_, rfl⟩
  have hus := h.us
  rw [hts] at hus c3 hn ⊢
  have HU : Hid (∀ W, Below w.heap.size w W → TsAt B W (.slice sa ts.length sc) ts) := Lib.hid (fun W hW => owns_frame hus (fun k hk => hW.block k (World.ownsRow.lt hus k hk).2))
  have HZV : Hid (∀ w : World, (zeroValue 78).run Try.prog w = .ok (.agg (cellsT zTrn).toArray) w) := Lib.hid (fun w => Try.zeroValue78 w)
  clear h hus hts
  go_enter Try.func25, Try.ntmps25
  go_wp2_with fail
  go_loopw [3, 5, 6, 7, 8, 16] (fun lv _ _ _ _ iv wr => ∃ k : Nat, k ≤ ts.length ∧ iv = .int .i64 (k : Int) ∧ Hid (TdAt w.heap.size wr lv (todoL (ts.take k)) ∧ Below w.heap.size w wr)) (fun _ _ _ _ _ iv _ => ts.length - (intOf iv).toNat)
  case atStart => exact ⟨0, Nat.zero_le _, rfl, Lib.hid ⟨TdAt.nil _ _, Below.refl _ _⟩⟩
  case round =>
    clear c3
    obtain ⟨wo, hwo⟩ : ∃ x : World, x = wr := ⟨_, rfl⟩
    subst hwo
    obtain ⟨m, hm, rfl, hH⟩ := hrel
    by_cases hlt : m < ts.length
    · have hlt' : (m : Int) < (ts.length : Int) := by omega
      obtain ⟨t, ht⟩ : ∃ t, ts[m]? = some t := ⟨_, List.getElem?_eq_getElem hlt⟩
      obtain ⟨ho, hbl⟩ := hH.out
      obtain ⟨g, cc, e, hg, _, hr⟩ := TsAt.at (HU.out wo hbl) m t ht
      injection e with ea _ ec
      subst ea ec
      obtain ⟨wv, hwv⟩ : ∃ wv, wo.alloc (.cells (cellsT t).toArray 78) = wv := ⟨_, rfl⟩
      have hbv : Below wo.heap.size wo wv := by rw [← hwv]; exact (Below.refl _ wo).alloc (Nat.le_refl _) _
      have hrv : wv.heap[wo.heap.size]? = some (.cells (cellsT t).toArray 78 (0, 0)) := by rw [← hwv]; exact heap_alloc_new wo _
      have HSN : Hid (todoL (ts.take m) ++ todoTo t 4 = todoL (ts.take (m + 1))) := Lib.hid (by unfold todoL; rw [List.take_add_one, ht, List.flatMap_append]; simp)
      have HLN : Hid (∀ k, k ≤ 4 → (todoL (ts.take m) ++ todoTo t k).length ≤ 100000) := Lib.hid (fun k hk => by
        have h1 := todoL_len (ts.take m)
        have h2 := todoTo_len t k
        rw [List.length_take] at h1
        rw [List.length_append]
        omega)
      have HT0 : Hid (TdS w wv wo.heap.size t u3 (todoL (ts.take m) ++ todoTo t 0)) := Lib.hid ⟨by
        rw [show todoTo t 0 = [] from rfl, List.append_nil]
        exact owns_frame ho (fun k hk => hbv.block k (World.ownsRow.lt ho k hk).2), hbl.trans (hbv.mono hbl.size), hrv, fun e => by have := (World.ownsRow.lt ho _ e).2; omega⟩
      obtain ⟨ds, hds⟩ : ∃ ds, todoL (ts.take m) = ds := ⟨_, rfl⟩
      rw [hds] at HSN HLN HT0
      have HI := Lib.hid (infoT12 (cellsT t) rfl)
      have HI2 : Hid ((Try.prog.info? 78).map (·.size) = some (cellsT t).toArray.size) := Lib.hid (by show _ = some 12; kernel_rfl)
      have HALL : Hid ((cellsT t).toArray.all (·.oneCell') = true) := Lib.hid (all_oneCell_toArray (cellsT_cell t))
      have HWV := Lib.hid hwv
      have HR := Lib.hid hr
      have f0 : wv.cell? ⟨wo.heap.size, 11, none⟩ = some (.bool t.dn) := cell_of_row _ _ _ _ _ _ hrv
      have s0 : wv.cell? ⟨wo.heap.size, 3, none⟩ = some (.bool t.sh.a) := cell_of_row _ _ _ _ _ _ hrv
      have s1 : wv.cell? ⟨wo.heap.size, 4, none⟩ = some (.bool t.sh.b) := cell_of_row _ _ _ _ _ _ hrv
      have s2 : wv.cell? ⟨wo.heap.size, 5, none⟩ = some (.bool t.sh.c) := cell_of_row _ _ _ _ _ _ hrv
      have s3 : wv.cell? ⟨wo.heap.size, 6, none⟩ = some (.bool t.sh.d) := cell_of_row _ _ _ _ _ _ hrv
      obtain ⟨b5, hb5⟩ : ∃ b, wo.heap.size = b := ⟨_, rfl⟩
      have HB5 := Lib.hid hb5
      clear ho hbl hg hr hwv hbv hrv hds hH HU ht hb5
      cases hdn : t.dn
      case false =>
        have HDN : Hid (t.dn = false) := Lib.hid hdn
        rw [hdn] at f0
        clear hdn
        go_wp2_with (first
          | (refine wpList_alloc_row rfl 78 rfl (cellsT zTrn).toArray (HZV.out _) ?_)
          | (refine wpList_store_new rfl 78 (.tmp 5) (.tmp 19) rfl (cellsT zTrn).toArray (cellsT t).toArray rfl rfl HI2.out rfl HALL.out ?_; rw [HWV.out])
          | (refine wpList_load_mid rfl 78 _ rfl g (m * 12) rfl _ _ HR.out Try.underlying78 rfl HI.out ?_))
        go_loopw [3, 7, 8, 24] (fun lv _ _ iv wr => ∃ k : Nat, k ≤ 4 ∧ iv = .int .i64 (k : Int) ∧ Hid (TdS w wr wo.heap.size t lv (ds ++ todoTo t k))) (fun _ _ _ iv _ => 4 - (intOf iv).toNat)
        case atStart => exact ⟨0, Nat.zero_le _, rfl, HT0⟩
        case round =>
          clear HT0 f0 s0 s1 s2 s3
          obtain ⟨k, hk, rfl, hH⟩ := hrel
          by_cases hk4 : k < 4
          case neg =>
            have hk4' : k = 4 := by omega
            subst hk4'
            have HN : Hid (TdAt w.heap.size wr _ (todoL (ts.take (m + 1))) ∧ Below w.heap.size w wr) := Lib.hid ⟨by rw [← HSN.out]; exact hH.out.at_, hH.out.bl⟩
            clear hH HSN HLN hk4
            go_wp2
            go_roundw
            case rel => exact ⟨m + 1, by omega, by go_num, HN⟩
            case measure => simp [intOf]; omega
          obtain ⟨b, hbk⟩ : ∃ b, t.sh.at k = b := ⟨_, rfl⟩
          obtain ⟨d, hdk⟩ : ∃ d, t.sd.at k = d := ⟨_, rfl⟩
          have hone : ds ++ todoTo t (k + 1) = (ds ++ todoTo t k) ++ todoOne t k := by rw [todoTo, List.append_assoc]
          have hln := HLN.out k hk
          have q0 : wr.cell? ⟨wo.heap.size, 0, none⟩ = some (.int .i64 t.tx.node) := cell_of_row _ _ _ _ _ _ hH.out.row
          have q1 : wr.cell? ⟨wo.heap.size, 1, none⟩ = some (.int .i64 t.tx.boot) := cell_of_row _ _ _ _ _ _ hH.out.row
          have q2 : wr.cell? ⟨wo.heap.size, 2, none⟩ = some (.int .i64 t.tx.n) := cell_of_row _ _ _ _ _ _ hH.out.row
          rcases (by omega : k = 0 ∨ k = 1 ∨ k = 2 ∨ k = 3) with rfl | rfl | rfl | rfl
          · have HBK : Hid (t.sh.a = b) := Lib.hid hbk
            have hdk' : t.sd.a = d := hdk
            have y0 : wr.cell? ⟨wo.heap.size, 7, none⟩ = some (.bool d) := by rw [← hdk']; exact cell_of_row _ _ _ _ _ _ hH.out.row
            cases b with
            | false =>
              have HN : Hid (TdS w wr wo.heap.size t u3 (ds ++ todoTo t 1)) := Lib.hid (by rw [hone]; unfold todoOne; rw [hbk]; simpa using hH.out)
              clear hone hbk hdk hdk' hH HLN HSN
              go_wp2_with (first | (refine wpList_index_known rfl 74 (.tmp 23) (.tmp 24) rfl (.bool false) (Eq.trans (b := .ok (.value (.bool t.sh.a)) wr) (by kernel_rfl) (by rw [HBK.out])) ?_))
              go_roundw
              case rel => exact ⟨1, by omega, by go_num, HN⟩
              case measure => simp [intOf]
            | true =>
              cases d with
              | true =>
                have HN : Hid (TdS w wr wo.heap.size t u3 (ds ++ todoTo t 1)) := Lib.hid (by rw [hone]; unfold todoOne; rw [hbk, hdk]; simpa using hH.out)
                clear hone hbk hdk hdk' hH HLN HSN
                go_wp2_with (first | (refine wpList_index_known rfl 74 (.tmp 23) (.tmp 24) rfl (.bool true) (Eq.trans (b := .ok (.value (.bool t.sh.a)) wr) (by kernel_rfl) (by rw [HBK.out])) ?_))
                go_roundw
                case rel => exact ⟨1, by omega, by go_num, HN⟩
                case measure => simp [intOf]
              | false =>
                have h1 : todoOne t 0 = [⟨t.tx, 0, 0⟩] := by unfold todoOne; rw [hbk, hdk, HDN.out]; rfl
                obtain ⟨v', w', ha, hs⟩ := TdS.step hH.out ⟨t.tx, 0, 0⟩ hln
                rw [← h1, ← hone] at hs
                have HN := Lib.hid hs
                have HA := Lib.hid ha
                unfold cellsD at HA
                clear hone hbk hdk hdk' hH HLN HSN ha hs h1
                go_wp2_with (first
                  | (refine wpList_index_known rfl 74 (.tmp 23) (.tmp 24) rfl (.bool true) (Eq.trans (b := .ok (.value (.bool t.sh.a)) wr) (by kernel_rfl) (by rw [HBK.out])) ?_)
                  | (at_builtin; refine wpList_append_run _ rfl _ _ 67 67 rfl _ _ rfl rfl _ w' HA.out ?_))
                go_roundw
                case rel => exact ⟨1, by omega, by go_num, HN⟩
                case measure => simp [intOf]
          · have HBK : Hid (t.sh.b = b) := Lib.hid hbk
            have hdk' : t.sd.b = d := hdk
            have y0 : wr.cell? ⟨wo.heap.size, 8, none⟩ = some (.bool d) := by rw [← hdk']; exact cell_of_row _ _ _ _ _ _ hH.out.row
            cases b with
            | false =>
              have HN : Hid (TdS w wr wo.heap.size t u3 (ds ++ todoTo t 2)) := Lib.hid (by rw [hone]; unfold todoOne; rw [hbk]; simpa using hH.out)
              clear hone hbk hdk hdk' hH HLN HSN
              go_wp2_with (first | (refine wpList_index_known rfl 74 (.tmp 23) (.tmp 24) rfl (.bool false) (Eq.trans (b := .ok (.value (.bool t.sh.b)) wr) (by kernel_rfl) (by rw [HBK.out])) ?_))
              go_roundw
              case rel => exact ⟨2, by omega, by go_num, HN⟩
              case measure => simp [intOf]
            | true =>
              cases d with
              | true =>
                have HN : Hid (TdS w wr wo.heap.size t u3 (ds ++ todoTo t 2)) := Lib.hid (by rw [hone]; unfold todoOne; rw [hbk, hdk]; simpa using hH.out)
                clear hone hbk hdk hdk' hH HLN HSN
                go_wp2_with (first | (refine wpList_index_known rfl 74 (.tmp 23) (.tmp 24) rfl (.bool true) (Eq.trans (b := .ok (.value (.bool t.sh.b)) wr) (by kernel_rfl) (by rw [HBK.out])) ?_))
                go_roundw
                case rel => exact ⟨2, by omega, by go_num, HN⟩
                case measure => simp [intOf]
              | false =>
                have h1 : todoOne t 1 = [⟨t.tx, 1, 0⟩] := by unfold todoOne; rw [hbk, hdk, HDN.out]; rfl
                obtain ⟨v', w', ha, hs⟩ := TdS.step hH.out ⟨t.tx, 1, 0⟩ hln
                rw [← h1, ← hone] at hs
                have HN := Lib.hid hs
                have HA := Lib.hid ha
                unfold cellsD at HA
                clear hone hbk hdk hdk' hH HLN HSN ha hs h1
                go_wp2_with (first
                  | (refine wpList_index_known rfl 74 (.tmp 23) (.tmp 24) rfl (.bool true) (Eq.trans (b := .ok (.value (.bool t.sh.b)) wr) (by kernel_rfl) (by rw [HBK.out])) ?_)
                  | (at_builtin; refine wpList_append_run _ rfl _ _ 67 67 rfl _ _ rfl rfl _ w' HA.out ?_))
                go_roundw
                case rel => exact ⟨2, by omega, by go_num, HN⟩
                case measure => simp [intOf]
          · have HBK : Hid (t.sh.c = b) := Lib.hid hbk
            have hdk' : t.sd.c = d := hdk
            have y0 : wr.cell? ⟨wo.heap.size, 9, none⟩ = some (.bool d) := by rw [← hdk']; exact cell_of_row _ _ _ _ _ _ hH.out.row
            cases b with
            | false =>
              have HN : Hid (TdS w wr wo.heap.size t u3 (ds ++ todoTo t 3)) := Lib.hid (by rw [hone]; unfold todoOne; rw [hbk]; simpa using hH.out)
              clear hone hbk hdk hdk' hH HLN HSN
              go_wp2_with (first | (refine wpList_index_known rfl 74 (.tmp 23) (.tmp 24) rfl (.bool false) (Eq.trans (b := .ok (.value (.bool t.sh.c)) wr) (by kernel_rfl) (by rw [HBK.out])) ?_))
              go_roundw
              case rel => exact ⟨3, by omega, by go_num, HN⟩
              case measure => simp [intOf]
            | true =>
              cases d with
              | true =>
                have HN : Hid (TdS w wr wo.heap.size t u3 (ds ++ todoTo t 3)) := Lib.hid (by rw [hone]; unfold todoOne; rw [hbk, hdk]; simpa using hH.out)
                clear hone hbk hdk hdk' hH HLN HSN
                go_wp2_with (first | (refine wpList_index_known rfl 74 (.tmp 23) (.tmp 24) rfl (.bool true) (Eq.trans (b := .ok (.value (.bool t.sh.c)) wr) (by kernel_rfl) (by rw [HBK.out])) ?_))
                go_roundw
                case rel => exact ⟨3, by omega, by go_num, HN⟩
                case measure => simp [intOf]
              | false =>
                have h1 : todoOne t 2 = [⟨t.tx, 2, 0⟩] := by unfold todoOne; rw [hbk, hdk, HDN.out]; rfl
                obtain ⟨v', w', ha, hs⟩ := TdS.step hH.out ⟨t.tx, 2, 0⟩ hln
                rw [← h1, ← hone] at hs
                have HN := Lib.hid hs
                have HA := Lib.hid ha
                unfold cellsD at HA
                clear hone hbk hdk hdk' hH HLN HSN ha hs h1
                go_wp2_with (first
                  | (refine wpList_index_known rfl 74 (.tmp 23) (.tmp 24) rfl (.bool true) (Eq.trans (b := .ok (.value (.bool t.sh.c)) wr) (by kernel_rfl) (by rw [HBK.out])) ?_)
                  | (at_builtin; refine wpList_append_run _ rfl _ _ 67 67 rfl _ _ rfl rfl _ w' HA.out ?_))
                go_roundw
                case rel => exact ⟨3, by omega, by go_num, HN⟩
                case measure => simp [intOf]
          · have HBK : Hid (t.sh.d = b) := Lib.hid hbk
            have hdk' : t.sd.d = d := hdk
            have y0 : wr.cell? ⟨wo.heap.size, 10, none⟩ = some (.bool d) := by rw [← hdk']; exact cell_of_row _ _ _ _ _ _ hH.out.row
            cases b with
            | false =>
              have HN : Hid (TdS w wr wo.heap.size t u3 (ds ++ todoTo t 4)) := Lib.hid (by rw [hone]; unfold todoOne; rw [hbk]; simpa using hH.out)
              clear hone hbk hdk hdk' hH HLN HSN
              go_wp2_with (first | (refine wpList_index_known rfl 74 (.tmp 23) (.tmp 24) rfl (.bool false) (Eq.trans (b := .ok (.value (.bool t.sh.d)) wr) (by kernel_rfl) (by rw [HBK.out])) ?_))
              go_roundw
              case rel => exact ⟨4, by omega, by go_num, HN⟩
              case measure => simp [intOf]
            | true =>
              cases d with
              | true =>
                have HN : Hid (TdS w wr wo.heap.size t u3 (ds ++ todoTo t 4)) := Lib.hid (by rw [hone]; unfold todoOne; rw [hbk, hdk]; simpa using hH.out)
                clear hone hbk hdk hdk' hH HLN HSN
                go_wp2_with (first | (refine wpList_index_known rfl 74 (.tmp 23) (.tmp 24) rfl (.bool true) (Eq.trans (b := .ok (.value (.bool t.sh.d)) wr) (by kernel_rfl) (by rw [HBK.out])) ?_))
                go_roundw
                case rel => exact ⟨4, by omega, by go_num, HN⟩
                case measure => simp [intOf]
              | false =>
                have h1 : todoOne t 3 = [⟨t.tx, 3, 0⟩] := by unfold todoOne; rw [hbk, hdk, HDN.out]; rfl
                obtain ⟨v', w', ha, hs⟩ := TdS.step hH.out ⟨t.tx, 3, 0⟩ hln
                rw [← h1, ← hone] at hs
                have HN := Lib.hid hs
                have HA := Lib.hid ha
                unfold cellsD at HA
                clear hone hbk hdk hdk' hH HLN HSN ha hs h1
                go_wp2_with (first
                  | (refine wpList_index_known rfl 74 (.tmp 23) (.tmp 24) rfl (.bool true) (Eq.trans (b := .ok (.value (.bool t.sh.d)) wr) (by kernel_rfl) (by rw [HBK.out])) ?_)
                  | (at_builtin; refine wpList_append_run _ rfl _ _ 67 67 rfl _ _ rfl rfl _ w' HA.out ?_))
                go_roundw
                case rel => exact ⟨4, by omega, by go_num, HN⟩
                case measure => simp [intOf]
      case true =>
        have HDN : Hid (t.dn = true) := Lib.hid hdn
        rw [hdn] at f0
        clear hdn
        go_wp2_with (first
          | (refine wpList_alloc_row rfl 78 rfl (cellsT zTrn).toArray (HZV.out _) ?_)
          | (refine wpList_store_new rfl 78 (.tmp 5) (.tmp 19) rfl (cellsT zTrn).toArray (cellsT t).toArray rfl rfl HI2.out rfl HALL.out ?_; rw [HWV.out])
          | (refine wpList_load_mid rfl 78 _ rfl g (m * 12) rfl _ _ HR.out Try.underlying78 rfl HI.out ?_))
        go_loopw [3, 7, 8, 24] (fun lv _ _ iv wr => ∃ k : Nat, k ≤ 4 ∧ iv = .int .i64 (k : Int) ∧ Hid (TdS w wr wo.heap.size t lv (ds ++ todoTo t k))) (fun _ _ _ iv _ => 4 - (intOf iv).toNat)
        case atStart => exact ⟨0, Nat.zero_le _, rfl, HT0⟩
        case round =>
          clear HT0 f0 s0 s1 s2 s3
          obtain ⟨k, hk, rfl, hH⟩ := hrel
          by_cases hk4 : k < 4
          case neg =>
            have hk4' : k = 4 := by omega
            subst hk4'
            have HN : Hid (TdAt w.heap.size wr _ (todoL (ts.take (m + 1))) ∧ Below w.heap.size w wr) := Lib.hid ⟨by rw [← HSN.out]; exact hH.out.at_, hH.out.bl⟩
            clear hH HSN HLN hk4
            go_wp2
            go_roundw
            case rel => exact ⟨m + 1, by omega, by go_num, HN⟩
            case measure => simp [intOf]; omega
          obtain ⟨b, hbk⟩ : ∃ b, t.sh.at k = b := ⟨_, rfl⟩
          obtain ⟨d, hdk⟩ : ∃ d, t.sd.at k = d := ⟨_, rfl⟩
          have hone : ds ++ todoTo t (k + 1) = (ds ++ todoTo t k) ++ todoOne t k := by rw [todoTo, List.append_assoc]
          have hln := HLN.out k hk
          have q0 : wr.cell? ⟨wo.heap.size, 0, none⟩ = some (.int .i64 t.tx.node) := cell_of_row _ _ _ _ _ _ hH.out.row
          have q1 : wr.cell? ⟨wo.heap.size, 1, none⟩ = some (.int .i64 t.tx.boot) := cell_of_row _ _ _ _ _ _ hH.out.row
          have q2 : wr.cell? ⟨wo.heap.size, 2, none⟩ = some (.int .i64 t.tx.n) := cell_of_row _ _ _ _ _ _ hH.out.row
          rcases (by omega : k = 0 ∨ k = 1 ∨ k = 2 ∨ k = 3) with rfl | rfl | rfl | rfl
          · have HBK : Hid (t.sh.a = b) := Lib.hid hbk
            have hdk' : t.sd.a = d := hdk
            have y0 : wr.cell? ⟨wo.heap.size, 7, none⟩ = some (.bool d) := by rw [← hdk']; exact cell_of_row _ _ _ _ _ _ hH.out.row
            cases b with
            | false =>
              have HN : Hid (TdS w wr wo.heap.size t u3 (ds ++ todoTo t 1)) := Lib.hid (by rw [hone]; unfold todoOne; rw [hbk]; simpa using hH.out)
              clear hone hbk hdk hdk' hH HLN HSN
              go_wp2_with (first | (refine wpList_index_known rfl 74 (.tmp 23) (.tmp 24) rfl (.bool false) (Eq.trans (b := .ok (.value (.bool t.sh.a)) wr) (by kernel_rfl) (by rw [HBK.out])) ?_))
              go_roundw
              case rel => exact ⟨1, by omega, by go_num, HN⟩
              case measure => simp [intOf]
            | true =>
              cases d with
              | true =>
                have HN : Hid (TdS w wr wo.heap.size t u3 (ds ++ todoTo t 1)) := Lib.hid (by rw [hone]; unfold todoOne; rw [hbk, hdk]; simpa using hH.out)
                clear hone hbk hdk hdk' hH HLN HSN
                go_wp2_with (first | (refine wpList_index_known rfl 74 (.tmp 23) (.tmp 24) rfl (.bool true) (Eq.trans (b := .ok (.value (.bool t.sh.a)) wr) (by kernel_rfl) (by rw [HBK.out])) ?_))
                go_roundw
                case rel => exact ⟨1, by omega, by go_num, HN⟩
                case measure => simp [intOf]
              | false =>
                have h1 : todoOne t 0 = [⟨t.tx, 0, 1⟩] := by unfold todoOne; rw [hbk, hdk, HDN.out]; rfl
                obtain ⟨v', w', ha, hs⟩ := TdS.step hH.out ⟨t.tx, 0, 1⟩ hln
                rw [← h1, ← hone] at hs
                have HN := Lib.hid hs
                have HA := Lib.hid ha
                unfold cellsD at HA
                clear hone hbk hdk hdk' hH HLN HSN ha hs h1
                go_wp2_with (first
                  | (refine wpList_index_known rfl 74 (.tmp 23) (.tmp 24) rfl (.bool true) (Eq.trans (b := .ok (.value (.bool t.sh.a)) wr) (by kernel_rfl) (by rw [HBK.out])) ?_)
                  | (at_builtin; refine wpList_append_run _ rfl _ _ 67 67 rfl _ _ rfl rfl _ w' HA.out ?_))
                go_roundw
                case rel => exact ⟨1, by omega, by go_num, HN⟩
                case measure => simp [intOf]
          · have HBK : Hid (t.sh.b = b) := Lib.hid hbk
            have hdk' : t.sd.b = d := hdk
            have y0 : wr.cell? ⟨wo.heap.size, 8, none⟩ = some (.bool d) := by rw [← hdk']; exact cell_of_row _ _ _ _ _ _ hH.out.row
            cases b with
            | false =>
              have HN : Hid (TdS w wr wo.heap.size t u3 (ds ++ todoTo t 2)) := Lib.hid (by rw [hone]; unfold todoOne; rw [hbk]; simpa using hH.out)
              clear hone hbk hdk hdk' hH HLN HSN
              go_wp2_with (first | (refine wpList_index_known rfl 74 (.tmp 23) (.tmp 24) rfl (.bool false) (Eq.trans (b := .ok (.value (.bool t.sh.b)) wr) (by kernel_rfl) (by rw [HBK.out])) ?_))
              go_roundw
              case rel => exact ⟨2, by omega, by go_num, HN⟩
              case measure => simp [intOf]
            | true =>
              cases d with
              | true =>
                have HN : Hid (TdS w wr wo.heap.size t u3 (ds ++ todoTo t 2)) := Lib.hid (by rw [hone]; unfold todoOne; rw [hbk, hdk]; simpa using hH.out)
                clear hone hbk hdk hdk' hH HLN HSN
                go_wp2_with (first | (refine wpList_index_known rfl 74 (.tmp 23) (.tmp 24) rfl (.bool true) (Eq.trans (b := .ok (.value (.bool t.sh.b)) wr) (by kernel_rfl) (by rw [HBK.out])) ?_))
                go_roundw
                case rel => exact ⟨2, by omega, by go_num, HN⟩
                case measure => simp [intOf]
              | false =>
                have h1 : todoOne t 1 = [⟨t.tx, 1, 1⟩] := by unfold todoOne; rw [hbk, hdk, HDN.out]; rfl
                obtain ⟨v', w', ha, hs⟩ := TdS.step hH.out ⟨t.tx, 1, 1⟩ hln
                rw [← h1, ← hone] at hs
                have HN := Lib.hid hs
                have HA := Lib.hid ha
                unfold cellsD at HA
                clear hone hbk hdk hdk' hH HLN HSN ha hs h1
                go_wp2_with (first
                  | (refine wpList_index_known rfl 74 (.tmp 23) (.tmp 24) rfl (.bool true) (Eq.trans (b := .ok (.value (.bool t.sh.b)) wr) (by kernel_rfl) (by rw [HBK.out])) ?_)
                  | (at_builtin; refine wpList_append_run _ rfl _ _ 67 67 rfl _ _ rfl rfl _ w' HA.out ?_))
                go_roundw
                case rel => exact ⟨2, by omega, by go_num, HN⟩
                case measure => simp [intOf]
          · have HBK : Hid (t.sh.c = b) := Lib.hid hbk
            have hdk' : t.sd.c = d := hdk
            have y0 : wr.cell? ⟨wo.heap.size, 9, none⟩ = some (.bool d) := by rw [← hdk']; exact cell_of_row _ _ _ _ _ _ hH.out.row
            cases b with
            | false =>
              have HN : Hid (TdS w wr wo.heap.size t u3 (ds ++ todoTo t 3)) := Lib.hid (by rw [hone]; unfold todoOne; rw [hbk]; simpa using hH.out)
              clear hone hbk hdk hdk' hH HLN HSN
              go_wp2_with (first | (refine wpList_index_known rfl 74 (.tmp 23) (.tmp 24) rfl (.bool false) (Eq.trans (b := .ok (.value (.bool t.sh.c)) wr) (by kernel_rfl) (by rw [HBK.out])) ?_))
              go_roundw
              case rel => exact ⟨3, by omega, by go_num, HN⟩
              case measure => simp [intOf]
            | true =>
              cases d with
              | true =>
                have HN : Hid (TdS w wr wo.heap.size t u3 (ds ++ todoTo t 3)) := Lib.hid (by rw [hone]; unfold todoOne; rw [hbk, hdk]; simpa using hH.out)
                clear hone hbk hdk hdk' hH HLN HSN
                go_wp2_with (first | (refine wpList_index_known rfl 74 (.tmp 23) (.tmp 24) rfl (.bool true) (Eq.trans (b := .ok (.value (.bool t.sh.c)) wr) (by kernel_rfl) (by rw [HBK.out])) ?_))
                go_roundw
                case rel => exact ⟨3, by omega, by go_num, HN⟩
                case measure => simp [intOf]
              | false =>
                have h1 : todoOne t 2 = [⟨t.tx, 2, 1⟩] := by unfold todoOne; rw [hbk, hdk, HDN.out]; rfl
                obtain ⟨v', w', ha, hs⟩ := TdS.step hH.out ⟨t.tx, 2, 1⟩ hln
                rw [← h1, ← hone] at hs
                have HN := Lib.hid hs
                have HA := Lib.hid ha
                unfold cellsD at HA
                clear hone hbk hdk hdk' hH HLN HSN ha hs h1
                go_wp2_with (first
                  | (refine wpList_index_known rfl 74 (.tmp 23) (.tmp 24) rfl (.bool true) (Eq.trans (b := .ok (.value (.bool t.sh.c)) wr) (by kernel_rfl) (by rw [HBK.out])) ?_)
                  | (at_builtin; refine wpList_append_run _ rfl _ _ 67 67 rfl _ _ rfl rfl _ w' HA.out ?_))
                go_roundw
                case rel => exact ⟨3, by omega, by go_num, HN⟩
                case measure => simp [intOf]
          · have HBK : Hid (t.sh.d = b) := Lib.hid hbk
            have hdk' : t.sd.d = d := hdk
            have y0 : wr.cell? ⟨wo.heap.size, 10, none⟩ = some (.bool d) := by rw [← hdk']; exact cell_of_row _ _ _ _ _ _ hH.out.row
            cases b with
            | false =>
              have HN : Hid (TdS w wr wo.heap.size t u3 (ds ++ todoTo t 4)) := Lib.hid (by rw [hone]; unfold todoOne; rw [hbk]; simpa using hH.out)
              clear hone hbk hdk hdk' hH HLN HSN
              go_wp2_with (first | (refine wpList_index_known rfl 74 (.tmp 23) (.tmp 24) rfl (.bool false) (Eq.trans (b := .ok (.value (.bool t.sh.d)) wr) (by kernel_rfl) (by rw [HBK.out])) ?_))
              go_roundw
              case rel => exact ⟨4, by omega, by go_num, HN⟩
              case measure => simp [intOf]
            | true =>
              cases d with
              | true =>
                have HN : Hid (TdS w wr wo.heap.size t u3 (ds ++ todoTo t 4)) := Lib.hid (by rw [hone]; unfold todoOne; rw [hbk, hdk]; simpa using hH.out)
                clear hone hbk hdk hdk' hH HLN HSN
                go_wp2_with (first | (refine wpList_index_known rfl 74 (.tmp 23) (.tmp 24) rfl (.bool true) (Eq.trans (b := .ok (.value (.bool t.sh.d)) wr) (by kernel_rfl) (by rw [HBK.out])) ?_))
                go_roundw
                case rel => exact ⟨4, by omega, by go_num, HN⟩
                case measure => simp [intOf]
              | false =>
                have h1 : todoOne t 3 = [⟨t.tx, 3, 1⟩] := by unfold todoOne; rw [hbk, hdk, HDN.out]; rfl
                obtain ⟨v', w', ha, hs⟩ := TdS.step hH.out ⟨t.tx, 3, 1⟩ hln
                rw [← h1, ← hone] at hs
                have HN := Lib.hid hs
                have HA := Lib.hid ha
                unfold cellsD at HA
                clear hone hbk hdk hdk' hH HLN HSN ha hs h1
                go_wp2_with (first
                  | (refine wpList_index_known rfl 74 (.tmp 23) (.tmp 24) rfl (.bool true) (Eq.trans (b := .ok (.value (.bool t.sh.d)) wr) (by kernel_rfl) (by rw [HBK.out])) ?_)
                  | (at_builtin; refine wpList_append_run _ rfl _ _ 67 67 rfl _ _ rfl rfl _ w' HA.out ?_))
                go_roundw
                case rel => exact ⟨4, by omega, by go_num, HN⟩
                case measure => simp [intOf]
    · have hmn : m = ts.length := by omega
      subst hmn
      obtain ⟨ho, hbl⟩ := hH.out
      rw [List.take_of_length_le (Nat.le_refl _)] at ho
      obtain ⟨la, lc, rfl, _⟩ := owns_shape ho
      have HE : Hid (TodoR w ts (.returned (.slice la (todoL ts).length lc)) wo) := Lib.hid ⟨_, _, rfl, ho, hbl⟩
      clear ho hbl hH hlt HU
      go_wp2
      go_ret
      exact HE.out
end Go.Proofs.Ytleghofpabdkhaa
