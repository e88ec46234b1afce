/- Deed: DeedPuts. -/
import Derived.Test.YtjljbnilckkjnaaDoorGR10
import Derived.Test.YtjljbnilckkjnaaDoorGM6
namespace Go.Proofs.YtjljbnilckkjnaaDoor
open Go Go.RowKit

/-- Deeds' bytes, or none. -/
def putAL (ds : List Di) : List UInt8 := if putAllE ds = 0 then dsL (ds.map Di.nat) else []
/-- PutAll, in one form. -/
def PutAX (ds : List Di) (w : World) (e : Ending) (w' : World) : Prop := ∃ v, e = .returned (.tuple #[v, .int .i64 (putAllE ds)]) ∧ Byz w' v (putAL ds) ∧ Below w.heap.size w w'
theorem putA_one {ds : List Di} {w w' : World} {e : Ending} (h : PutAllR ds w e w') : PutAX ds w e w' := by
  obtain ⟨hb, ⟨hk, rfl⟩ | ⟨hk, v, rfl, hr⟩⟩ := h
  · refine ⟨_, rfl, ?_, hb⟩
    unfold putAL
    rw [if_neg hk]
    exact byz_none _
  · refine ⟨v, by rw [hk], ?_, hb⟩
    unfold putAL
    rw [if_pos hk]
    exact hr.1.z
set_option maxHeartbeats 8000000 in
set_option maxRecDepth 100000 in
theorem walk_puts (sv : Value) (ps : List (Di × Value)) (w : World) (hd : Deeds w sv ps) (hsm : ∀ p ∈ ps, p.1.user.size + p.1.box.size + p.1.dest.size ≤ 1048576) (hT : Tabs w) :
    Calls Tryd.prog 5 #[sv] w fun e w' => e = .returned (.bool true) ∧ Below w.heap.size w w' := by
  obtain ⟨sa, sc, rfl⟩ := hd.shape
  have HT : Hid (∀ u, Below w.heap.size w u → Tabs u) := Lib.hid (fun u hu => hT.below hu (Nat.le_refl _))
  have HP : Hid (∀ u, Below w.heap.size w u → Calls Tryd.prog 20 #[.slice sa ps.length sc] u (PutAX (ps.map (·.1)) u)) := Lib.hid (fun u hu => (putAll_any _ ps u (hd.below hu) (HT.out u hu)).mono fun _ _ h => putA_one h)
  have HQ : Hid (∀ u, Below w.heap.size w u → Calls Tryd.prog 21 #[.slice sa ps.length sc] u (PutAX (ps.map (·.1)) u)) := Lib.hid (fun u hu => (refPutAll _ ps u (hd.below hu) hsm (HT.out u hu)).mono fun _ _ h => putA_one h)
  unfold PutAX at HP HQ
  obtain ⟨L, hL⟩ : ∃ L, putAL (ps.map (·.1)) = L := ⟨_, rfl⟩
  obtain ⟨E, hE⟩ : ∃ E, putAllE (ps.map (·.1)) = E := ⟨_, rfl⟩
  rw [hL, hE] at HP HQ
  clear hd hT hL hE hsm
  go_enter Tryd.func5, Tryd.ntmps5
  go_wp2_with fail
  refine (HP.out w (Below.refl _ _)).mono ?_
  rintro e w1 ⟨v1, rfl, hz1, hb1⟩
  obtain ⟨ca, cc, rfl⟩ := hz1.1
  have HZ1 := Lib.hid hz1
  have HB1 := Lib.hid hb1
  clear hz1 hb1 HP
  go_wp2_with fail
  refine (HQ.out w1 HB1.out).mono ?_
  rintro e w2 ⟨v2, rfl, hz2, hb2⟩
  obtain ⟨da, dc, rfl⟩ := hz2.1
  have HZ2 := Lib.hid hz2
  have HB2 := Lib.hid (HB1.out.trans (hb2.mono HB1.out.size))
  have HZ3 := Lib.hid (HZ1.out.below hb2)
  have HLV := Lib.hid (live_any w2 (HT.out w2 HB2.out))
  clear hz2 hb2 HQ HB1 HZ1
  go_wp2_with fail
  refine HLV.out.mono ?_
  rintro e w3 ⟨rfl, hb3⟩
  have c1 := run_byz_string w3 _ _ 5 Tryd.underlying26 Tryd.underlying5 Tryd.underlying9 (HZ3.out.below hb3)
  have c2 := run_byz_string w3 _ _ 5 Tryd.underlying26 Tryd.underlying5 Tryd.underlying9 (HZ2.out.below hb3)
  have HB3 := Lib.hid (HB2.out.trans (hb3.mono HB2.out.size))
  clear hb3 HLV HZ3 HZ2 HB2
  go_wp2
  go_ret
  exact ⟨ret_bool (by simp), HB3.out⟩
end Go.Proofs.YtjljbnilckkjnaaDoor
