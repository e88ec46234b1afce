/- Date: the document's offset, index. -/
import Derived.Test.YtkkmjadkagpihaaDoorJ34
import Derived.Deep.RegionHeld3
import Derived.IntWalk
namespace Go.Proofs.YtkkmjadkagpihaaDoor
open Go Go.RowKit

def offR (bs : List UInt8) (at_ : Nat) (c : UInt8) : Int := if c = 43 then 60 * valR bs (at_ + 1) 2 + valR bs (at_ + 3) 2 else if c = 45 then -(60 * valR bs (at_ + 1) 2 + valR bs (at_ + 3) 2) else 0
theorem offset_any (w : World) (v : Value) (L : List ByteArray) (bs : List UInt8) (hv : Ltr w v L) (hS : Sg L bs) (at_ : Nat) (c : UInt8) (hat : at_ < bs.length) (hc : bs[at_] = c) (hcs : (c = 43 ∨ c = 45) ∧ Dig bs (at_ + 1) 2 ∧ Dig bs (at_ + 3) 2 ∨ c = 71 ∨ c = 103 ∨ c = 85 ∨ c = 117) (hl : at_ ≤ 1000) (x : Int) (hx : x = (at_ : Int)) :
    Calls Tryd.prog 52 #[v, .int .i64 x] w fun e w' => e = .returned (.int .i64 (offR bs at_ c)) ∧ w = w' := by
  subst hx
  have hlen := hS.len
  have h0 : 0 < L.length := by omega
  have HV := Lib.hid hv
  have HS := Lib.hid hS
  obtain ⟨g, cp, rfl, hcp, hg, hcell⟩ := hv.at h0
  have hi : (at_ : Int) < (L.length : Int) := by omega
  have hcl := hcell at_ (by omega)
  obtain ⟨hb, hget⟩ := hS.get at_ (by omega)
  rw [hget, hc] at hcl
  have hil : at_ < L.length := by omega
  clear hcell hget hc hv hS hlen
  rcases hcs with ⟨hc, hd1, hd2⟩ | hc
  · have HD1 := Lib.hid (fun w v (hv : Ltr w v L) => value_any w v L bs hv HS.out (at_ + 1) 2 hd1 (by omega) h0 (by omega) _ rfl)
    have HD2 := Lib.hid (fun w v (hv : Ltr w v L) => value_any w v L bs hv HS.out (at_ + 3) 2 hd2 (by omega) h0 (by omega) _ rfl)
    have b1 := valR_bd hd1 2 (by omega)
    have b2 := valR_bd hd2 2 (by omega)
    have b3 : (10 : Int) ^ 2 = 100 := by decide
    rw [b3] at b1 b2
    unfold offR
    generalize valR bs (at_ + 1) 2 = v1 at *
    generalize valR bs (at_ + 3) 2 = v2 at *
    clear b3
    rcases hc with rfl | rfl
    · rw [if_pos rfl]
      go_enter Tryd.func52, Tryd.ntmps52
      go_wp2_with fail
      refine (HD1.out _ _ HV.out _ _ (by omega) rfl).mono ?_
      rintro e w' ⟨rfl, rfl⟩
      go_wp2_with fail
      refine (HD2.out _ _ HV.out _ _ (by omega) rfl).mono ?_
      rintro e w' ⟨rfl, rfl⟩
      go_wp2
      go_ret
      exact ⟨rfl, rfl⟩
    · rw [if_neg (by decide), if_pos rfl]
      go_enter Tryd.func52, Tryd.ntmps52
      go_wp2_with fail
      refine (HD1.out _ _ HV.out _ _ (by omega) rfl).mono ?_
      rintro e w' ⟨rfl, rfl⟩
      go_wp2_with fail
      refine (HD2.out _ _ HV.out _ _ (by omega) rfl).mono ?_
      rintro e w' ⟨rfl, rfl⟩
      go_wp2
      go_ret
      exact ⟨ret_int (by omega), rfl⟩
  · unfold offR
    rcases hc with rfl | rfl | rfl | rfl
    all_goals
      rw [if_neg (by decide), if_neg (by decide)]
      go_enter Tryd.func52, Tryd.ntmps52
      go_wp2
      go_ret
      exact ⟨rfl, rfl⟩

/-- The names as a list. -/
def namesL (l : List UInt8) (n : Nat) : List ByteArray := (List.range n).map fun k => ⟨(nthL l k).toArray⟩
theorem names_ltr {l : List UInt8} {n g : Nat} {w : World} (h : Names l n g w) : Ltr w (.slice (some ⟨g, 0, none⟩) n n) (namesL l n) := by
  have hl : (namesL l n).length = n := by simp [namesL]
  refine ⟨some ⟨g, 0, none⟩, n, by rw [hl], by omega, fun i hi => ⟨g, rfl, h.1, ?_⟩⟩
  rw [hl] at hi
  rw [h.2 i hi]
  simp [namesL]
def idxF (l : List UInt8) (x : List UInt8) : Nat → Nat → Int
  | _, 0 => -1
  | k, f + 1 => if low (nthL l k) = x then (k : Int) else idxF l x (k + 1) f
theorem idxF_eq (l x : List UInt8) (k f : Nat) (h : low (nthL l k) = x) : idxF l x k (f + 1) = k := by
  show (if low (nthL l k) = x then (k : Int) else idxF l x (k + 1) f) = _
  rw [if_pos h]
theorem idxF_ne (l x : List UInt8) (k f : Nat) (h : low (nthL l k) ≠ x) : idxF l x k (f + 1) = idxF l x (k + 1) f := by
  show (if low (nthL l k) = x then (k : Int) else idxF l x (k + 1) f) = _
  rw [if_neg h]

theorem index_any (w : World) (v v2 : Value) (L : List ByteArray) (bs : List UInt8) (l : List UInt8) (n : Nat) (hv : Ltr w v L) (hS : Sg L bs) (hv2 : Ltr w v2 (namesL l n)) (at_ : Nat) (a b c : UInt8) (hat : at_ + 2 < bs.length) (ha : bs[at_] = a) (hb : bs[at_ + 1] = b) (hc : bs[at_ + 2] = c) (hl : at_ ≤ 1000) (hn0 : 0 < n) (hn : n ≤ 100) (x : Int) (hx : x = (at_ : Int)) (R : Int) (hR : idxF l (low [a, b, c]) 0 n = R) :
    Calls Tryd.prog 47 #[v, .int .i64 x, v2] w fun e w' => e = .returned (.int .i64 R) ∧ Below w.heap.size w w' := by
  subst hx
  have hlen := hS.len
  have hnl : (namesL l n).length = n := by simp [namesL]
  obtain ⟨g, cp, rfl, hcp, hg, hcell⟩ := hv.at (by omega)
  obtain ⟨g2, cp2, rfl, hcp2, hg2, hcell2⟩ := hv2.at (by omega)
  rw [hnl] at hcp2 ⊢
  obtain ⟨q0, e0⟩ := hS.get at_ (by omega)
  obtain ⟨q1, e1⟩ := hS.get (at_ + 1) (by omega)
  obtain ⟨q2, e2⟩ := hS.get (at_ + 2) (by omega)
  have c0 := hcell at_ (by omega)
  have c1 := hcell (at_ + 1) (by omega)
  have c2 := hcell (at_ + 2) (by omega)
  rw [e0, ha] at c0
  rw [e1, hb] at c1
  rw [e2, hc] at c2
  have K1 : ∀ k (hk : k < n) wx, Below w.heap.size w wx → wx.cell? ⟨g2, k, none⟩ = some (.string ⟨(nthL l k).toArray⟩) := fun k hk wx hb => by
    rw [(hb.cell hg2).trans (hcell2 k (by omega))]; simp [namesL]
  have K0 : ∀ wx, Below w.heap.size w wx → wx.cell? ⟨g, at_, none⟩ = some (.string ⟨#[a]⟩) ∧ wx.cell? ⟨g, at_ + 1, none⟩ = some (.string ⟨#[b]⟩) ∧ wx.cell? ⟨g, at_ + 2, none⟩ = some (.string ⟨#[c]⟩) := fun wx hb => ⟨(hb.cell hg).trans c0, (hb.cell hg).trans c1, (hb.cell hg).trans c2⟩
  have i0 : (at_ : Int) < (L.length : Int) := by omega
  have i1 : (at_ : Int) + 1 < (L.length : Int) := by omega
  have i2 : (at_ : Int) + 2 < (L.length : Int) := by omega
  have hw1 : IntKind.i64.wrap ((at_ : Int) + 1) = (at_ : Int) + 1 := IntWalk.i64_in _ (by omega)
  have hw2 : IntKind.i64.wrap ((at_ : Int) + 2) = (at_ : Int) + 2 := IntWalk.i64_in _ (by omega)
  have hn1 : 0 ≤ (at_ : Int) + 1 := by omega
  have hn2 : 0 ≤ (at_ : Int) + 2 := by omega
  have ht1 : ((at_ : Int) + 1).toNat = at_ + 1 := by omega
  have ht2 : ((at_ : Int) + 2).toNat = at_ + 2 := by omega
  have ad1 := add_to [a] [b] [a, b] rfl (by simp)
  have ad2 := add_to [a, b] [c] [a, b, c] rfl (by simp)
  have HL1 := Lib.hid (fun (w : World) => refLower ⟨#[a, b, c]⟩ w (by show 3 ≤ _; omega))
  rw [show (⟨#[a, b, c]⟩ : ByteArray).data.toList = [a, b, c] from rfl] at HL1
  have HL2 := Lib.hid (fun (k : Nat) (w : World) => refLower ⟨(nthL l k).toArray⟩ w (by rw [size_mk]; unfold nthL; rw [List.length_take]; omega))
  have HK0 := Lib.hid K0
  have HK1 := Lib.hid K1
  have HR := Lib.hid hR
  clear hv hv2 hS hcell hcell2 e0 e1 e2 ha hb hc c0 c1 c2 K0 K1 hlen hnl hR q0 q1 q2
  generalize low [a, b, c] = X at *
  go_enter Tryd.func47, Tryd.ntmps47
  go_wp2
  go_loopw [7] (fun i wr => ∃ k : Nat, k ≤ n ∧ i = .int .i64 k ∧ Below w.heap.size w wr ∧ idxF l X k (n - k) = R) (fun i _ => n - (intOf i).toNat)
  case atStart => exact ⟨0, Nat.zero_le _, rfl, Below.refl _ _, HR.out⟩
  case round =>
    obtain ⟨k, hk, rfl, hbr, hI⟩ := hrel
    by_cases hlt : k < n
    · have hki : (k : Int) < (n : Int) := by omega
      have KC : ∀ wx, Below wr.heap.size wr wx → wx.cell? ⟨g, at_, none⟩ = some (.string ⟨#[a]⟩) ∧ wx.cell? ⟨g, at_ + 1, none⟩ = some (.string ⟨#[b]⟩) ∧ wx.cell? ⟨g, at_ + 2, none⟩ = some (.string ⟨#[c]⟩) ∧ wx.cell? ⟨g2, k, none⟩ = some (.string ⟨(nthL l k).toArray⟩) := fun wx hb => by
        have hq := hbr.trans (hb.mono hbr.size)
        obtain ⟨x0, x1, x2⟩ := HK0.out wx hq
        exact ⟨x0, x1, x2, HK1.out k hlt wx hq⟩
      have c1 : ∀ W, Below wr.heap.size wr W → Calls Tryd.prog 71 #[.string ⟨#[a, b, c]⟩] W fun e w' => e = .returned (.string ⟨X.toArray⟩) ∧ Below wr.heap.size wr w' := fun W hb => (HL1.out W).mono fun e w' ⟨p, q⟩ => ⟨p, hb.trans (q.mono hb.size)⟩
      have c2 : ∀ W, Below wr.heap.size wr W → Calls Tryd.prog 71 #[.string ⟨(nthL l k).toArray⟩] W fun e w' => e = .returned (.string ⟨(low (nthL l k)).toArray⟩) ∧ Below wr.heap.size wr w' := fun W hb => (HL2.out k W).mono fun e w' ⟨p, q⟩ => ⟨p, hb.trans (q.mono hb.size)⟩
      have hB := Below.refl wr.heap.size wr
      have hBd := hB.drew
      obtain ⟨f, hf⟩ : ∃ f, n - k = f + 1 := ⟨n - k - 1, by omega⟩
      by_cases heq : low (nthL l k) = X
      · rw [hf, idxF_eq l X k f heq] at hI
        have hIR := Lib.hid hI
        rw [heq] at c2
        have HBR := Lib.hid hbr
        clear hI hf heq hbr
        generalize nthL l k = NM at *
        generalize (⟨X.toArray⟩ : ByteArray) = LN at *
        have hbe : (LN.toList == LN.toList) = true := by simp
        go_wp2_with fail
        go_region_held3 (fun wx => Below wr.heap.size wr wx ∧ wx.cell? ⟨g, at_, none⟩ = some (.string ⟨#[a]⟩) ∧ wx.cell? ⟨g, at_ + 1, none⟩ = some (.string ⟨#[b]⟩) ∧ wx.cell? ⟨g, at_ + 2, none⟩ = some (.string ⟨#[c]⟩) ∧ wx.cell? ⟨g2, k, none⟩ = some (.string ⟨NM.toArray⟩)) (first | exact ⟨by assumption, KC _ (by assumption)⟩) (first
          | (go_at_call 71; ((with_reducible refine (c1 _ (by assumption)).mono ?_); rintro e wn ⟨rfl, hBn⟩))
          | (go_at_call 71; ((with_reducible refine (c2 _ (by assumption)).mono ?_); rintro e wn ⟨rfl, hBn⟩)))
        go_wp2
        go_ret
        exact ⟨ret_int hIR.out, HBR.out.trans (hBn.mono HBR.out.size)⟩
      · rw [hf, idxF_ne l X k f heq] at hI
        have hIR : Hid (idxF l X (k + 1) (n - (k + 1)) = R) := Lib.hid (by rw [← hI]; congr 1; omega)
        have hbe : ((⟨X.toArray⟩ : ByteArray).toList == (⟨(low (nthL l k)).toArray⟩ : ByteArray).toList) = false := by
          rw [beq_eq_false_iff_ne, Lib.toList_data, Lib.toList_data, data_mk, data_mk]; exact fun e => heq e.symm
        have HBR := Lib.hid hbr
        clear hI hf heq hbr
        generalize nthL l k = NM at *
        generalize (⟨(low NM).toArray⟩ : ByteArray) = LN at *
        generalize (⟨X.toArray⟩ : ByteArray) = XA at *
        go_wp2_with fail
        go_region_held3 (fun wx => Below wr.heap.size wr wx ∧ wx.cell? ⟨g, at_, none⟩ = some (.string ⟨#[a]⟩) ∧ wx.cell? ⟨g, at_ + 1, none⟩ = some (.string ⟨#[b]⟩) ∧ wx.cell? ⟨g, at_ + 2, none⟩ = some (.string ⟨#[c]⟩) ∧ wx.cell? ⟨g2, k, none⟩ = some (.string ⟨NM.toArray⟩)) (first | exact ⟨by assumption, KC _ (by assumption)⟩) (first
          | (go_at_call 71; ((with_reducible refine (c1 _ (by assumption)).mono ?_); rintro e wn ⟨rfl, hBn⟩))
          | (go_at_call 71; ((with_reducible refine (c2 _ (by assumption)).mono ?_); rintro e wn ⟨rfl, hBn⟩)))
        have HB2 := Lib.hid (HBR.out.trans (hBn.mono HBR.out.size))
        clear hBn hB hBd KC c1 c2
        go_wp2
        go_roundw
        case rel => exact ⟨k + 1, by omega, by go_num, HB2.out, hIR.out⟩
        case measure => simp [intOf]; omega
    · obtain rfl : k = n := by omega
      rw [Nat.sub_self] at hI
      have hI' : R = -1 := hI.symm
      subst hI'
      have HBR := Lib.hid hbr
      clear hI hbr
      go_wp2
      go_ret
      exact ⟨rfl, HBR.out⟩
end Go.Proofs.YtkkmjadkagpihaaDoor
