import Derived.Test.YtbhkchdkknainaaU1
namespace Go.Proofs.Ytbhkchdkknainaa
open Go.RowKit

set_option maxHeartbeats 800000 in
theorem line_short {B b : Nat} {v : Value} {l : List UInt8} (w : World) (h : LB B w b v l) (hl : l.length ≤ 16384) (hM : Ml w) (hn : lineLen l = none) :
    Calls Try.prog 13 #[.pointer (some ⟨b, 0, none⟩)] w fun e w' => e = .returned (.tuple #[.string ⟨#[]⟩, .int .i64 3]) ∧ Below w.heap.size w w' := by
  have hf := first_no v l w h.row.1 (by omega) hM hn
  have hc := h.cell
  obtain ⟨a, cap, rfl, hcap⟩ := h.row.1.shape
  clear hn h
  go_enter Try.func13, Try.ntmps13
  go_wp2_with fail
  refine hf.mono ?_
  rintro e w1 ⟨rfl, hb⟩
  go_wp2
  go_ret2
  exact ⟨rfl, hb⟩

def lineV (l : List UInt8) (n : Nat) : Value := if 1024 < n - 2 then .tuple #[.string ⟨#[]⟩, .int .i64 6] else .tuple #[.string ⟨(l.take (n - 2)).toArray⟩, .int .i64 0]

set_option maxHeartbeats 800000 in
theorem line_some {B b : Nat} {v : Value} {l : List UInt8} (w : World) (n : Nat) (h : LB B w b v l) (hl : l.length ≤ 16384) (hM : Ml w) (hn : lineLen l = some n) :
    Calls Try.prog 13 #[.pointer (some ⟨b, 0, none⟩)] w fun e w' => e = .returned (lineV l n) ∧ ∃ v', LB B w' b v' (l.drop n) ∧ v'.ownBlock = v.ownBlock ∧ Fr (fun j => j = b) w w' := by
  obtain ⟨a, cap, rfl, hcap⟩ := h.row.1.shape
  have hf := first_yes a cap l n w h.row.1 (by omega) hM hn
  have hle := lineLen_le l n hn
  have hc := h.cell
  have hz := cutA_zero h.row.1
  have hap := h.apart
  generalize hV : lineV l n = V
  have HV := Lib.hid hV
  clear hn hV
  go_enter Try.func13, Try.ntmps13
  go_wp2_with fail
  refine hf.mono ?_
  rintro e w1 ⟨rfl, hb⟩
  have hF1 : Fr (fun _ => False) w w1 := Fr.of_below hb
  have h1 := h.fr hF1 (fun e => e) (fun _ _ e => e)
  have ht := take_any w1 n h1 hle.2
  clear hf h hb hc
  go_wp2_with fail
  refine ht.mono ?_
  rintro e w2 ⟨t, v', rfl, _, _, h2, hv', hF2⟩
  have hl2 := (h1.row.1.fr hF2 (fun g hg e => hap (by rw [hg, e])))
  have hcut := run_cut_to (P := Try.prog) w2 31 5 Try.underlying31 sz5 a n cap (n - 2) (by omega)
  have hr := hl2.cut 0 (n - 2) cap (Nat.zero_le _) (by omega) (by omega) (Nat.le_refl _)
  rw [hz, Nat.sub_zero, Nat.sub_zero, List.drop_zero] at hr
  rw [hz, show ((n - 2 : Nat) : Int) = (n : Int) - 2 by omega] at hcut
  have hcv := run_byt_string (P := Try.prog) w2 31 9 5 Try.underlying31 Try.underlying5 Try.underlying9 hr
  have hfin : ∃ v', LB B w2 b v' (l.drop n) ∧ v'.ownBlock = (Value.slice a l.length cap).ownBlock ∧ Fr (fun j => j = b) w w2 :=
    ⟨v', h2, hv', hF1.trans hF2 (fun _ e => e.elim) (fun _ _ e => e)⟩
  have HFIN := Lib.hid hfin
  have hnn : ((n - 2 : Nat) : Int) = (n : Int) - 2 := by omega
  clear hfin h2 hv' hF2 hF1 ht h1 hl2 hr hap hz
  by_cases hbig : 1024 < n - 2
  · have HBIG := Lib.hid hbig
    go_wp2
    go_ret2
    refine ⟨?_, HFIN.out⟩
    rw [← HV.out]
    unfold lineV
    rw [if_pos HBIG.out]
    rfl
  · have HBIG := Lib.hid hbig
    go_wp2
    go_ret2
    refine ⟨?_, HFIN.out⟩
    rw [← HV.out]
    unfold lineV
    rw [if_neg HBIG.out]
    rfl

set_option maxHeartbeats 800000 in
theorem body_no {B b : Nat} {v : Value} {l : List UInt8} (w : World) (h : LB B w b v l) (hl : l.length ≤ 16384) (hM : Ml w) (hn : unstL l = none) :
    Calls Try.prog 23 #[.pointer (some ⟨b, 0, none⟩)] w fun e w' => e = .returned (.tuple #[.slice none 0 0, .int .i64 3]) ∧ Below w.heap.size w w' := by
  obtain ⟨a, cap, rfl, hcap⟩ := h.row.1.shape
  have hf := unst_any a cap l w h.row.1 (by omega) hM
  rw [hn] at hf
  simp only at hf
  have hc := h.cell
  clear hn h
  go_enter Try.func23, Try.ntmps23
  go_wp2_with fail
  refine hf.mono ?_
  rintro e w1 ⟨hb, rfl⟩
  go_wp2
  go_ret2
  exact ⟨rfl, hb⟩

theorem unstL_le (l p : List UInt8) (n : Nat) (h : unstL l = some (p, n)) : n ≤ l.length := by
  have key : ∀ f r acc k, unstF f r acc k = some (p, n) → n ≤ k + r.length := by
    intro f
    induction f with
    | zero => intro r acc k h; cases h
    | succ f ih =>
      intro r acc k h
      unfold unstF at h
      cases hl : lineLen r with
      | none => rw [hl] at h; cases h
      | some m =>
        have hle := lineLen_le r m hl
        rw [hl] at h
        simp only at h
        split at h
        · injection h with h; injection h with _ h; omega
        · have := ih _ _ _ h
          rw [List.length_drop] at this
          omega
  have := key _ _ _ _ h
  omega

set_option maxHeartbeats 800000 in
theorem body_some {B b : Nat} {v : Value} {l p : List UInt8} (w : World) (n : Nat) (h : LB B w b v l) (hl : l.length ≤ 16384) (hM : Ml w) (hn : unstL l = some (p, n)) :
    Calls Try.prog 23 #[.pointer (some ⟨b, 0, none⟩)] w fun e w' => ∃ t v', e = .returned (.tuple #[t, .int .i64 0]) ∧ Row w.heap.size w' t p ∧ LB B w' b v' (l.drop n) ∧ v'.ownBlock = v.ownBlock ∧ Fr (fun j => j = b) w w' := by
  obtain ⟨a, cap, rfl, hcap⟩ := h.row.1.shape
  have hf := unst_any a cap l w h.row.1 (by omega) hM
  have hle := unstL_le l p n hn
  rw [hn] at hf
  simp only at hf
  have hc := h.cell
  have hblt := h.lt
  clear hn
  go_enter Try.func23, Try.ntmps23
  go_wp2_with fail
  refine hf.mono ?_
  rintro e w1 ⟨hb, t, rfl, hrow⟩
  have hF1 : Fr (fun _ => False) w w1 := Fr.of_below hb
  have h1 := h.fr hF1 (fun e => e) (fun _ _ e => e)
  have ht := take_any w1 n h1 hle
  clear hf h hb hc
  go_wp2_with fail
  refine ht.mono ?_
  rintro e w2 ⟨t2, v', rfl, _, _, h2, hv', hF2⟩
  have hrow2 := hrow.fr hF2 (fun g hg e => by have := hrow.own g hg; omega)
  go_wp2
  go_ret2
  exact ⟨_, _, rfl, hrow2, h2, hv', hF1.trans hF2 (fun _ e => e.elim) (fun _ _ e => e)⟩
end Go.Proofs.Ytbhkchdkknainaa
