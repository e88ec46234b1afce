/- Deed: a user, checked. -/
import Derived.Test.YtjljbnilckkjnaaDoorG18
import Derived.Test.YtjljbnilckkjnaaDoorB3
namespace Go.Proofs.YtjljbnilckkjnaaDoor
open Go Go.RowKit

/-- The slice v reads as the boxes bs. -/
structure Boxes (w : World) (v : Value) (bs : List Bx) : Prop where
  shape : ∃ a cap, v = .slice a bs.length cap
  cells : bs ≠ [] → ∃ g off cap, v = .slice (some ⟨g, off, none⟩) bs.length cap ∧ g < w.heap.size ∧ ∀ i b, bs[i]? = some b → w.cell? ⟨g, off + i * 4, none⟩ = some (.string b.name) ∧ w.cell? ⟨g, off + i * 4 + 1, none⟩ = some (.int .i64 b.valid) ∧ w.cell? ⟨g, off + i * 4 + 2, none⟩ = some (.int .i64 b.next) ∧ w.cell? ⟨g, off + i * 4 + 3, none⟩ = some b.lv
  lets : ∀ b ∈ bs, Lets w b.lv b.ls ∧ b.ls.length ≤ 4294967295
theorem Boxes.opened {w : World} {v : Value} {bs : List Bx} (h : Boxes w v bs) : ∃ a cap, v = .slice a bs.length cap ∧ ∃ g off, (bs ≠ [] → a = some ⟨g, off, none⟩ ∧ g < w.heap.size) ∧ ∀ i b, bs[i]? = some b → w.cell? ⟨g, off + i * 4, none⟩ = some (.string b.name) ∧ w.cell? ⟨g, off + i * 4 + 1, none⟩ = some (.int .i64 b.valid) ∧ w.cell? ⟨g, off + i * 4 + 2, none⟩ = some (.int .i64 b.next) ∧ w.cell? ⟨g, off + i * 4 + 3, none⟩ = some b.lv := by
  by_cases hne : bs = []
  · obtain ⟨a, cap, e⟩ := h.shape
    exact ⟨a, cap, e, 0, 0, fun h => absurd hne h, fun i p hp => by subst hne; simp at hp⟩
  · obtain ⟨g, off, cap, e, hg, hc⟩ := h.cells hne
    exact ⟨_, cap, e, g, off, fun _ => ⟨rfl, hg⟩, hc⟩
def ckBxs (top : Int) : List BxD → ByteArray → Bool → Int → Int → Int
  | [], _, f, n, z => if f = false then 4 else if 40 < n then 8 else if 1200 < z then 8 else 0
  | b :: t, ah, f, n, z => if ckBox b.name b.valid b.next b.ls ah top ≠ 0 then ckBox b.name b.valid b.next b.ls ah top else ckBxs top t b.name (f || b.name.toList == [73, 78, 66, 79, 88]) (wrap64 (n + (b.ls.length : Int))) (wrap64 (z + szF 0 b.ls))
/-- What is wrong with a user. -/
def ckUser (u : UsD) : Int :=
  if rightU u.name = false then 4 else if u.valid < 1 then 2 else if 4294967295 < u.valid then 2 else if u.bs.length = 0 then 8 else if 6 < u.bs.length then 8 else ckBxs u.valid u.bs ⟨#[]⟩ false 0 0
theorem drop_at9 {α : Type} {l : List α} {k : Nat} {x : α} (h : l[k]? = some x) : l.drop k = x :: l.drop (k + 1) := by
  obtain ⟨hk, rfl⟩ := List.getElem?_eq_some_iff.1 h
  exact List.drop_eq_getElem_cons hk
set_option maxHeartbeats 4000000 in
set_option maxRecDepth 100000 in
theorem checkUser_any (name : ByteArray) (valid : Int) (sv : Value) (bs : List Bx) (w : World) (h : Boxes w sv bs) (hlen : bs.length ≤ 4294967295) (hs : name.size ≤ 9223372036854775807) (hT : Tabs w) :
    Calls Tryd.prog 29 #[.agg #[.string name, .int .i64 valid, sv]] w fun e w' => e = .returned (.int .i64 (ckUser ⟨name, valid, bs.map Bx.dat⟩)) ∧ Below w.heap.size w w' := by
  obtain ⟨sa, sc, rfl, g, off, hg, hc⟩ := h.opened
  have hlets := h.lets
  have hb0 : Below w.heap.size w (w.alloc (.cells #[.string name, .int .i64 valid, .slice sa bs.length sc] 43)) := (Below.refl _ w).alloc (Nat.le_refl _) _
  have hz : (w.alloc (.cells #[.string name, .int .i64 valid, .slice sa bs.length sc] 43)).heap.size = w.heap.size + 1 := by simp
  have hrow0 : (w.alloc (.cells #[.string name, .int .i64 valid, .slice sa bs.length sc] 43)).heap[w.heap.size]? = some (.cells #[.string name, .int .i64 valid, .slice sa bs.length sc] 43 (0, 0)) := heap_alloc_new w _
  have hR := rightUser_any name (w.alloc (.cells #[.string name, .int .i64 valid, .slice sa bs.length sc] 43)) hs
  rw [hz] at hR
  have HR := Lib.hid hR
  have HG : Hid (∀ u, Below (w.heap.size + 1) (w.alloc (.cells #[.string name, .int .i64 valid, .slice sa bs.length sc] 43)) u → w.heap.size < u.heap.size ∧ u.heap[w.heap.size]? = some (.cells #[.string name, .int .i64 valid, .slice sa bs.length sc] 43 (0, 0)) ∧ Below w.heap.size w u ∧ Tabs u) := Lib.hid (fun u hu => by
    have h1 : u.heap[w.heap.size]? = some (.cells #[.string name, .int .i64 valid, .slice sa bs.length sc] 43 (0, 0)) := below_row hrow0 hu (by omega)
    have h2 : Below w.heap.size w u := hb0.trans (hu.mono (by omega))
    exact ⟨(Array.getElem?_eq_some_iff.1 h1).1, h1, h2, hT.below h2 (Nat.le_refl _)⟩)
  have HGG := Lib.hid hg
  have HOO := Lib.hid hc
  have HLL := Lib.hid hlets
  generalize hE : ckUser ⟨name, valid, bs.map Bx.dat⟩ = E at *
  unfold ckUser at hE
  dsimp only at hE
  rw [List.length_map] at hE
  generalize rightU name = R at *
  have HEQ := Lib.hid hE
  clear h hT hb0 hR hrow0 hz hg hc hlets hE hs
  cases R with
  | false =>
    have HX : Hid (E = 4) := Lib.hid (by rw [← HEQ.out, if_pos rfl])
    clear HEQ
    go_enter Tryd.func29, Tryd.ntmps29
    go_wp2_with fail
    refine HR.out.mono ?_
    rintro e w1 ⟨rfl, hb⟩
    obtain ⟨h1, _, h3, _⟩ := HG.out w1 hb
    clear hb HG HR
    have HB := Lib.hid h3
    clear h3
    go_wp2
    go_ret
    exact ⟨ret_int1 HX.out.symm, HB.out⟩
  | true =>
    rw [if_neg (by simp)] at HEQ
    by_cases hv1 : valid < 1
    · have HX : Hid (E = 2) := Lib.hid (by rw [← HEQ.out, if_pos hv1])
      clear HEQ
      go_enter Tryd.func29, Tryd.ntmps29
      go_wp2_with fail
      refine HR.out.mono ?_
      rintro e w1 ⟨rfl, hb⟩
      obtain ⟨h1, h2, h3, _⟩ := HG.out w1 hb
      have c1 : w1.cell? ⟨w.heap.size, 1, none⟩ = some (.int .i64 valid) := cell_of_row _ _ _ _ _ _ h2
      have c2 : w1.cell? ⟨w.heap.size, 2, none⟩ = some (.slice sa bs.length sc) := cell_of_row _ _ _ _ _ _ h2
      have HB := Lib.hid h3
      have HBW := Lib.hid hb
      clear hb h2 h3
      go_wp2
      go_ret
      exact ⟨ret_int1 HX.out.symm, HB.out⟩
    rw [if_neg hv1] at HEQ
    by_cases hv2 : 4294967295 < valid
    · have HX : Hid (E = 2) := Lib.hid (by rw [← HEQ.out, if_pos hv2])
      clear HEQ
      go_enter Tryd.func29, Tryd.ntmps29
      go_wp2_with fail
      refine HR.out.mono ?_
      rintro e w1 ⟨rfl, hb⟩
      obtain ⟨h1, h2, h3, _⟩ := HG.out w1 hb
      have c1 : w1.cell? ⟨w.heap.size, 1, none⟩ = some (.int .i64 valid) := cell_of_row _ _ _ _ _ _ h2
      have c2 : w1.cell? ⟨w.heap.size, 2, none⟩ = some (.slice sa bs.length sc) := cell_of_row _ _ _ _ _ _ h2
      have HB := Lib.hid h3
      have HBW := Lib.hid hb
      clear hb h2 h3
      go_wp2
      go_ret
      exact ⟨ret_int1 HX.out.symm, HB.out⟩
    rw [if_neg hv2] at HEQ
    by_cases hn0 : bs.length = 0
    · have HX : Hid (E = 8) := Lib.hid (by rw [← HEQ.out, if_pos hn0])
      have e0 : ((bs.length : Int) == 0) = true := by rw [beq_iff_eq]; omega
      clear HEQ hn0
      go_enter Tryd.func29, Tryd.ntmps29
      go_wp2_with fail
      refine HR.out.mono ?_
      rintro e w1 ⟨rfl, hb⟩
      obtain ⟨h1, h2, h3, _⟩ := HG.out w1 hb
      have c1 : w1.cell? ⟨w.heap.size, 1, none⟩ = some (.int .i64 valid) := cell_of_row _ _ _ _ _ _ h2
      have c2 : w1.cell? ⟨w.heap.size, 2, none⟩ = some (.slice sa bs.length sc) := cell_of_row _ _ _ _ _ _ h2
      have HB := Lib.hid h3
      have HBW := Lib.hid hb
      clear hb h2 h3
      go_wp2
      go_ret
      exact ⟨ret_int1 HX.out.symm, HB.out⟩
    rw [if_neg hn0] at HEQ
    have e0 : ((bs.length : Int) == 0) = false := by rw [beq_eq_false_iff_ne]; omega
    by_cases hn6 : 6 < bs.length
    · have HX : Hid (E = 8) := Lib.hid (by rw [← HEQ.out, if_pos hn6])
      clear HEQ
      go_enter Tryd.func29, Tryd.ntmps29
      go_wp2_with fail
      refine HR.out.mono ?_
      rintro e w1 ⟨rfl, hb⟩
      obtain ⟨h1, h2, h3, _⟩ := HG.out w1 hb
      have c1 : w1.cell? ⟨w.heap.size, 1, none⟩ = some (.int .i64 valid) := cell_of_row _ _ _ _ _ _ h2
      have c2 : w1.cell? ⟨w.heap.size, 2, none⟩ = some (.slice sa bs.length sc) := cell_of_row _ _ _ _ _ _ h2
      have HB := Lib.hid h3
      have HBW := Lib.hid hb
      clear hb h2 h3
      go_wp2
      go_ret
      exact ⟨ret_int1 HX.out.symm, HB.out⟩
    rw [if_neg hn6] at HEQ
    go_enter Tryd.func29, Tryd.ntmps29
    go_wp2_with fail
    refine HR.out.mono ?_
    rintro e w1 ⟨rfl, hb⟩
    obtain ⟨h1, h2, h3, _⟩ := HG.out w1 hb
    have c1 : w1.cell? ⟨w.heap.size, 1, none⟩ = some (.int .i64 valid) := cell_of_row _ _ _ _ _ _ h2
    have c2 : w1.cell? ⟨w.heap.size, 2, none⟩ = some (.slice sa bs.length sc) := cell_of_row _ _ _ _ _ _ h2
    have HB := Lib.hid h3
    have HBW := Lib.hid hb
    clear hb h2 h3
    go_wp2
    clear c1
    go_loopw [3, 4, 5, 6, 38] (fun av fv nv zv iv wr => ∃ (k : Nat) (ahead : ByteArray) (f : Bool) (n z : Int), k ≤ bs.length ∧ iv = .int .i64 (k : Int) ∧ av = .string ahead ∧ fv = .bool f ∧ nv = .int .i64 n ∧ zv = .int .i64 z ∧ Hid (ckBxs valid ((bs.map Bx.dat).drop k) ahead f n z = E ∧ Below (w.heap.size + 1) (w.alloc (.cells #[.string name, .int .i64 valid, .slice sa bs.length sc] 43)) wr)) (fun _ _ _ _ i _ => bs.length - (intOf i).toNat)
    case atStart => exact ⟨0, ⟨#[]⟩, false, 0, 0, Nat.zero_le _, rfl, rfl, rfl, rfl, rfl, Lib.hid ⟨HEQ.out, HBW.out⟩⟩
    case round =>
      clear HB HBW h1
      obtain ⟨k, ahead, f, n, z, hk, rfl, rfl, rfl, rfl, rfl, hH⟩ := hrel
      obtain ⟨hgo, hb⟩ := hH.out
      obtain ⟨h1, h2, h3, h4⟩ := HG.out wr hb
      by_cases hlt : k < bs.length
      · have hlt' : (k : Int) < (bs.length : Int) := by omega
        have hp := List.getElem?_eq_getElem hlt
        generalize bs[k] = b at hp
        have hne : bs ≠ [] := fun e => by subst e; simp at hlt
        obtain ⟨rfl, hgl⟩ := HGG.out hne
        obtain ⟨q0, q1, q2, q3⟩ := HOO.out k b hp
        obtain ⟨hl, hll⟩ := HLL.out b (List.mem_of_getElem? hp)
        obtain ⟨la, lc, hlv, _⟩ := hl.shape
        have d0 := (h3.cell (p := ⟨g, off + k * 4, none⟩) hgl).trans q0
        have d1 := (h3.cell (p := ⟨g, off + k * 4 + 1, none⟩) hgl).trans q1
        have d2 := (h3.cell (p := ⟨g, off + k * 4 + 2, none⟩) hgl).trans q2
        have d3 := (h3.cell (p := ⟨g, off + k * 4 + 3, none⟩) hgl).trans q3
        rw [hlv] at d3
        have c1 : wr.cell? ⟨w.heap.size, 1, none⟩ = some (.int .i64 valid) := cell_of_row _ _ _ _ _ _ h2
        have hbx : Below wr.heap.size wr (wr.alloc (.cells #[.string b.name, .int .i64 b.valid, .int .i64 b.next, .slice la b.ls.length lc] 52)) := (Below.refl _ wr).alloc (Nat.le_refl _) _
        have hzx : (wr.alloc (.cells #[.string b.name, .int .i64 b.valid, .int .i64 b.next, .slice la b.ls.length lc] 52)).heap.size = wr.heap.size + 1 := by simp
        have hrx : (wr.alloc (.cells #[.string b.name, .int .i64 b.valid, .int .i64 b.next, .slice la b.ls.length lc] 52)).heap[wr.heap.size]? = some (.cells #[.string b.name, .int .i64 b.valid, .int .i64 b.next, .slice la b.ls.length lc] 52 (0, 0)) := heap_alloc_new wr _
        have hlr : Lets wr (.slice la b.ls.length lc) b.ls := by rw [← hlv]; exact hl.below h3
        have HG2 : Hid (∀ u, Below (wr.heap.size + 1) (wr.alloc (.cells #[.string b.name, .int .i64 b.valid, .int .i64 b.next, .slice la b.ls.length lc] 52)) u → wr.heap.size < u.heap.size ∧ u.heap[wr.heap.size]? = some (.cells #[.string b.name, .int .i64 b.valid, .int .i64 b.next, .slice la b.ls.length lc] 52 (0, 0)) ∧ Below (w.heap.size + 1) (w.alloc (.cells #[.string name, .int .i64 valid, .slice (some ⟨g, off, none⟩) bs.length sc] 43)) u ∧ Calls Tryd.prog 60 #[.agg #[.string b.name, .int .i64 b.valid, .int .i64 b.next, .slice la b.ls.length lc]] u (fun e w' => e = .returned (.int .i64 (szF 0 (b.ls.map (·.1)))) ∧ Below u.heap.size u w')) := Lib.hid (fun u hu => by
          have e1 : u.heap[wr.heap.size]? = some (.cells #[.string b.name, .int .i64 b.valid, .int .i64 b.next, .slice la b.ls.length lc] 52 (0, 0)) := below_row hrx hu (by omega)
          have e2 : Below wr.heap.size wr u := hbx.trans (hu.mono (by omega))
          exact ⟨(Array.getElem?_eq_some_iff.1 e1).1, e1, hb.trans (e2.mono (by omega)), size_any b.name b.valid b.next _ b.ls u (hlr.below e2) (by omega)⟩)
        have hC1 := checkBox_any b.name ahead b.valid b.next valid _ b.ls (wr.alloc (.cells #[.string b.name, .int .i64 b.valid, .int .i64 b.next, .slice la b.ls.length lc] 52)) (hlr.below hbx) hll (h4.below hbx (Nat.le_refl _))
        rw [hzx] at hC1
        unfold boxV at hC1
        rw [drop_at9 (show (bs.map Bx.dat)[k]? = some b.dat by rw [List.getElem?_map, hp]; rfl), ckBxs] at hgo
        have hK1 : b.dat.name = b.name := rfl
        have hK2 : b.dat.valid = b.valid := rfl
        have hK3 : b.dat.next = b.next := rfl
        have hK4 : b.dat.ls = b.ls.map (·.1) := rfl
        rw [hK1, hK2, hK3, hK4, List.length_map] at hgo
        generalize ckBox b.name b.valid b.next (b.ls.map (·.1)) ahead valid = K at *
        have HC1 := Lib.hid hC1
        have HGO := Lib.hid hgo
        have HB := Lib.hid h3
        clear hgo hb h2 h3 h4 hp hne hgl q0 q1 q2 q3 hl hll hlv hbx hzx hrx hlr hC1 hK1 hK2 hK3 hK4 hH
        go_wp2_with fail
        refine HC1.out.mono ?_
        rintro e w3 ⟨rfl, hb3⟩
        obtain ⟨e1, e2, e3, e4⟩ := HG2.out w3 hb3
        by_cases hK : K = 0
        · subst hK
          have hgo := HGO.out
          rw [if_neg (by simp)] at hgo
          have HGO2 := Lib.hid hgo
          have x0 : w3.cell? ⟨wr.heap.size, 0, none⟩ = some (.string b.name) := cell_of_row _ _ _ _ _ _ e2
          have x3 : w3.cell? ⟨wr.heap.size, 3, none⟩ = some (.slice la b.ls.length lc) := cell_of_row _ _ _ _ _ _ e2
          have HROW := Lib.hid e2
          have HSZ := Lib.hid e4
          have HB3 := Lib.hid e3
          clear hgo HGO hb3 e2 e3 e4 HC1 d0 d1 d2 d3 c1
          cases f with
          | true =>
            rw [Bool.true_or] at HGO2
            go_wp2_with (refine wpList_load_row rfl 52 _ rfl wr.heap.size rfl 52 _ (0, 0) _ HROW.out Tryd.underlying52 rfl (by kernel_rfl) ?_)
            refine HSZ.out.mono ?_
            rintro e w4 ⟨rfl, hb4⟩
            have HB4 := Lib.hid (HB3.out.trans (hb4.mono (by omega)))
            clear hb4
            go_wp2
            go_roundw
            case rel => exact ⟨k + 1, b.name, true, _, _, by omega, by go_num, rfl, rfl, rfl, rfl, Lib.hid ⟨HGO2.out, HB4.out⟩⟩
            case measure => simp [intOf]; omega
          | false =>
            rw [Bool.false_or] at HGO2
            cases hnm : (b.name.toList == [73, 78, 66, 79, 88]) with
            | true =>
              rw [hnm] at HGO2
              go_wp2_with (refine wpList_load_row rfl 52 _ rfl wr.heap.size rfl 52 _ (0, 0) _ HROW.out Tryd.underlying52 rfl (by kernel_rfl) ?_)
              refine HSZ.out.mono ?_
              rintro e w4 ⟨rfl, hb4⟩
              have HB4 := Lib.hid (HB3.out.trans (hb4.mono (by omega)))
              clear hb4
              go_wp2
              go_roundw
              case rel => exact ⟨k + 1, b.name, true, _, _, by omega, by go_num, rfl, rfl, rfl, rfl, Lib.hid ⟨HGO2.out, HB4.out⟩⟩
              case measure => simp [intOf]; omega
            | false =>
              rw [hnm] at HGO2
              go_wp2_with (refine wpList_load_row rfl 52 _ rfl wr.heap.size rfl 52 _ (0, 0) _ HROW.out Tryd.underlying52 rfl (by kernel_rfl) ?_)
              refine HSZ.out.mono ?_
              rintro e w4 ⟨rfl, hb4⟩
              have HB4 := Lib.hid (HB3.out.trans (hb4.mono (by omega)))
              clear hb4
              go_wp2
              go_roundw
              case rel => exact ⟨k + 1, b.name, false, _, _, by omega, by go_num, rfl, rfl, rfl, rfl, Lib.hid ⟨HGO2.out, HB4.out⟩⟩
              case measure => simp [intOf]; omega
        · have HX : Hid (E = K) := Lib.hid (by rw [← HGO.out, if_pos hK])
          have HB3 := Lib.hid ((HG.out w3 e3).2.2.1)
          clear HGO hb3 e2 e3 e4 HC1 d0 d1 d2 d3 c1
          go_wp2
          go_ret
          exact ⟨ret_int1 HX.out.symm, HB3.out⟩
      · have hlt' : ¬ (k : Int) < (bs.length : Int) := by omega
        rw [List.drop_of_length_le (by rw [List.length_map]; omega), ckBxs] at hgo
        have HB := Lib.hid h3
        clear hb h2 h3 h4 hH
        cases f with
        | false =>
          have HX : Hid (E = 4) := Lib.hid (by rw [← hgo, if_pos rfl])
          clear hgo
          go_wp2
          go_ret
          exact ⟨ret_int1 HX.out.symm, HB.out⟩
        | true =>
          rw [if_neg (by simp)] at hgo
          by_cases h40 : 40 < n
          · have HX : Hid (E = 8) := Lib.hid (by rw [← hgo, if_pos h40])
            clear hgo
            go_wp2
            go_ret
            exact ⟨ret_int1 HX.out.symm, HB.out⟩
          rw [if_neg h40] at hgo
          by_cases h12 : 1200 < z
          · have HX : Hid (E = 8) := Lib.hid (by rw [← hgo, if_pos h12])
            clear hgo
            go_wp2
            go_ret
            exact ⟨ret_int1 HX.out.symm, HB.out⟩
          · have HX : Hid (E = 0) := Lib.hid (by rw [← hgo, if_neg h12])
            clear hgo
            go_wp2
            go_ret
            exact ⟨ret_int1 HX.out.symm, HB.out⟩
end Go.Proofs.YtjljbnilckkjnaaDoor
