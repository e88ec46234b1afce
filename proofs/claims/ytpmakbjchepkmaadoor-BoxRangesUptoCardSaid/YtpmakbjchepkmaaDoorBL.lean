/- Box: live. -/
import Derived.Test.YtpmakbjchepkmaaDoorBG8
import Derived.Test.YtpmakbjchepkmaaDoorBF4
import Derived.Test.YtpmakbjchepkmaaDoorB8
import Derived.Test.YtpmakbjchepkmaaDoorB10
import Derived.Lib.SlBytesConst
namespace Go.Proofs.YtpmakbjchepkmaaDoor
open Go Go.RowKit

theorem find_any (name : ByteArray) (valid next : Int) (sv qv : Value) (ps : List LV) (qs : List Qry) (w : World) (h : Lets w sv ps) (hlen : ps.length ≤ 9223372036854775807) (hq : Qrys w qv qs) (hM : Ml w) :
    Calls Tryd.prog 16 #[boxV name valid next sv, qv] w (FindR w valid next ps qs) := by
  by_cases hc : chk valid next (ps.map (·.1)) = 0
  · by_cases hl : qs.length ≤ 16
    · exact find_ok name valid next sv qv ps qs w h hq hM hc hl
    · exact find_bad name valid next sv qv ps qs w h hlen hq (Or.inr (by omega))
  · exact find_bad name valid next sv qv ps qs w h hlen hq (Or.inl hc)
theorem add_any (name : ByteArray) (valid next : Int) (sv : Value) (ps : List LV) (flags : UInt8) (pv : Value) (p : List UInt8) (w : World) (h : Lets w sv ps) (hlen : ps.length ≤ 9223372036854775807) (hp : Byz w pv p) :
    Calls Tryd.prog 15 #[boxV name valid next sv, .int .u8 (flags.toNat : Int), pv] w (AddR w name valid next ps flags p) := by
  by_cases hE : addE valid next (ps.map (·.1)) flags p.length = 0
  · exact add_ok name valid next sv ps flags pv p w h hp hE
  · exact add_bad name valid next sv ps flags pv p w h hlen hp hE
theorem set_any (s : ByteArray) (most : Int) (w : World) (hs : s.size ≤ 2000000) :
    Calls Tryd.prog 5 #[.string s, .int .i64 most] w (SetR w s most) := by
  by_cases h : most < 0 ∨ 4294967295 < most
  · exact set_arg s most w h
  · exact set_good s most w (by omega) hs

def liveS : ByteArray := ⟨#[53, 58, 51, 44, 42]⟩
theorem live_setE : setE liveS 9 = (0, 0) := by kernel_rfl
theorem live_setP : setP liveS 9 = [(3, 5), (9, 9)] := by kernel_rfl
def liveQ : List Qry := [⟨6, 0, 0, 0, ⟨#[104, 73]⟩⟩, ⟨2, 1, 0, 0, ⟨#[]⟩⟩]
theorem live_addE : addE 1 5 [] 1 2 = 0 := by kernel_rfl
theorem live_findE : findE 1 6 [⟨5, 1, [72, 105]⟩] liveQ = 0 := by kernel_rfl
theorem live_findL : findL liveQ [⟨5, 1, [72, 105]⟩] = [5] := by kernel_rfl
theorem live_join {x : Int × Int} {t : List (Int × Int)} (hp : (x :: t).Perm [(3, 5), (9, 9)]) (hs : (x :: t).Pairwise fun x y => x.1 ≤ y.1) : joinGo [] x.1 x.2 t = [(3, 5), (9, 9)] := by
  have hx : x ∈ [((3 : Int), (5 : Int)), (9, 9)] := hp.mem_iff.1 (List.mem_cons_self ..)
  simp only [List.mem_cons, List.not_mem_nil, or_false] at hx
  rcases hx with rfl | rfl
  · have ht : t.Perm [(9, 9)] := (List.perm_cons _).1 hp
    obtain rfl := List.perm_singleton.1 ht
    rfl
  · have h3 : ((3 : Int), (5 : Int)) ∈ ((9 : Int), (9 : Int)) :: t := hp.mem_iff.2 (List.mem_cons_self ..)
    rcases List.mem_cons.1 h3 with h3 | h3
    · cases h3
    · have := (List.pairwise_cons.1 hs).1 _ h3
      simp at this
theorem lit_hi (w : World) (fr : Nat × Nat) : Byz (w.alloc (.cells #[.int .u8 72, .int .u8 105] 5 fr)) (.slice (some ⟨w.heap.size, 0, none⟩) 2 2) [72, 105] := by
  refine Byt.z ⟨some ⟨w.heap.size, 0, none⟩, 2, rfl, Nat.le_refl _, (fun h => by cases h), fun ad had => ?_⟩
  injection had with had
  subst had
  refine ⟨w.heap.size, 0, rfl, by simp, fun j hj => ?_⟩
  rw [Nat.zero_add, cell_of_row _ _ _ _ _ _ (heap_alloc_last w _)]
  match j, hj with
  | 0, _ => rfl
  | 1, _ => rfl
theorem lit_qs (w : World) : Qrys (w.alloc (.cells #[.int .i64 6, .int .u8 0, .int .i64 0, .int .i64 0, .string ⟨#[104, 73]⟩, .int .i64 2, .int .u8 1, .int .i64 0, .int .i64 0, .string ⟨#[]⟩] 49)) (.slice (some ⟨w.heap.size, 0, none⟩) 2 2) liveQ := by
  refine ⟨⟨_, 2, rfl⟩, fun _ => ⟨w.heap.size, 0, 2, rfl, by simp, fun j u hu => ?_⟩⟩
  rw [Nat.zero_add, cell_of_row _ _ _ _ _ _ (heap_alloc_last w _)]
  simpa [liveQ, cellsQ] using hu

set_option maxHeartbeats 4000000 in
set_option maxRecDepth 100000 in
theorem live_any (w : World) (hM : Ml w) : Calls Tryd.prog 7 #[] w fun e w' => e = .returned (.bool true) ∧ Below w.heap.size w w' := by
  have hb1 : Below w.heap.size w (w.alloc (.cells #[.int .u8 72, .int .u8 105] 5 (2, 3))) := (Below.refl _ w).alloc (Nat.le_refl _) _
  have hadd := add_any ⟨#[]⟩ 1 5 (.slice none 0 0) [] 1 _ _ _ (Lets.nil _ none 0) (by simp) (lit_hi w (2, 3))
  have HA := Lib.hid hadd
  have HM := Lib.hid hM
  have HB1 := Lib.hid hb1
  have kc := fun (w : World) (C : Array Value) (n c : Nat) => Lib.run_convert_bytes_const (P := Tryd.prog) w 43 5 C n c Tryd.underlying43 Tryd.underlying5
  unfold boxV at HA
  clear hadd hM hb1
  go_enter Tryd.func7, Tryd.ntmps7
  go_wp2_with fail
  refine HA.out.mono ?_
  intro e w1 hR
  obtain ⟨hb, _, hok⟩ := hR
  obtain ⟨a, c, qs, rfl, hown, hqs, hfr⟩ := hok live_addE
  have hbb := HB1.out.trans (hb.mono HB1.out.size)
  have hqs2 : qs.map (·.1) = [⟨5, 1, [72, 105]⟩] := by simpa using hqs
  have hql : qs.length = 1 := by have := congrArg List.length hqs2; simpa using this
  have hlets := Owns.lets hown (fun p hp => (hfr p hp).1.1.z)
  rw [hql] at hlets
  have h5 : (5 : Int) + 1 = 6 := rfl
  unfold boxV
  rw [hql, h5]
  have HL := Lib.hid hlets
  have HBB := Lib.hid hbb
  have HQS := Lib.hid hqs2
  have HQL := Lib.hid hql
  clear hb hok hown hfr hqs hlets hbb hqs2 hql h5 HA
  have hWA : Below w1.heap.size w1 (w1.alloc (.cells #[.string ⟨#[]⟩, .int .i64 1, .int .i64 6, .slice a 1 c] 40)) := (Below.refl _ w1).alloc (Nat.le_refl _) _
  have hszA : (w1.alloc (.cells #[.string ⟨#[]⟩, .int .i64 1, .int .i64 6, .slice a 1 c] 40)).heap.size = w1.heap.size + 1 := by simp
  have hbxA := BoxW.new w1 ⟨#[]⟩ 1 6 (.slice a 1 c) 40
  have hqA := lit_qs (w1.alloc (.cells #[.string ⟨#[]⟩, .int .i64 1, .int .i64 6, .slice a 1 c] 40))
  have hWB := hWA.alloc hWA.size (.cells #[.int .i64 6, .int .u8 0, .int .i64 0, .int .i64 0, .string ⟨#[104, 73]⟩, .int .i64 2, .int .u8 1, .int .i64 0, .int .i64 0, .string ⟨#[]⟩] 49)
  rw [hszA] at hqA
  have hbxB := hbxA.below ((Below.refl _ (w1.alloc (.cells #[.string ⟨#[]⟩, .int .i64 1, .int .i64 6, .slice a 1 c] 40))).alloc (Nat.le_refl _) (.cells #[.int .i64 6, .int .u8 0, .int .i64 0, .int .i64 0, .string ⟨#[104, 73]⟩, .int .i64 2, .int .u8 1, .int .i64 0, .int .i64 0, .string ⟨#[]⟩] 49)) (by simp)
  have hfi := find_any ⟨#[]⟩ 1 6 (.slice a 1 c) _ qs liveQ _ (HL.out.below hWB) (by rw [HQL.out]; decide) hqA ((HM.out.below HBB.out).below hWB)
  have HF := Lib.hid hfi
  have HWB := Lib.hid hWB
  have HBX := Lib.hid hbxB
  unfold boxV at HF
  clear hWA hszA hbxA hqA hWB hbxB hfi HL
  go_wp2_with fail
  refine HF.out.mono ?_
  intro e w3 hR
  obtain ⟨hb3, _, hok⟩ := hR
  rw [HQS.out] at hok
  obtain ⟨a2, c2, rfl, hown⟩ := hok live_findE
  rw [live_findL] at hown ⊢
  have hbx3 := HBX.out.below hb3 (by simp; omega)
  have hbb3 := HBB.out.trans ((HWB.out.trans (hb3.mono HWB.out.size)).mono HBB.out.size)
  obtain ⟨g2, rfl, hc2⟩ : ∃ g2, a2 = some ⟨g2, 0, none⟩ ∧ w3.cell? ⟨g2, 0, none⟩ = some (.int .i64 5) := by
    rcases hown.2 with ⟨_, h0⟩ | ⟨g, cap, cur, e, _⟩
    · simp at h0
    · injection e with e1 e2 e3
      subst e1
      refine ⟨g, rfl, ?_⟩
      have := World.ownsRow.cells hown (g := g) rfl 0 (.int .i64 5) rfl
      rwa [addr_plus] at this
  have hlt2 := World.block_lt_of_cell? w3 _ hc2
  have HS := Lib.hid (set_any liveS 9 w3 (by decide))
  have HB3 := Lib.hid hbb3
  have HX3 := Lib.hid hbx3
  have HC2 := Lib.hid hc2
  unfold liveS at HS
  clear hb3 hok hown hbx3 hbb3 hc2 HF HBX HWB HQS HQL HBB HB1
  go_wp2_with fail
  refine HS.out.mono ?_
  intro e w4 hR
  obtain ⟨hb4, _, hok⟩ := hR
  obtain ⟨v, l', x, t, rfl, rfl, hperm, hsort, hprs⟩ := hok (by rw [show (⟨#[53, 58, 51, 44, 42]⟩ : ByteArray) = liveS from rfl, live_setE])
  rw [show (⟨#[53, 58, 51, 44, 42]⟩ : ByteArray) = liveS from rfl, live_setP] at hperm
  rw [live_join hperm hsort] at hprs
  obtain ⟨g3, c3, rfl, hg3, hcells⟩ := hprs
  have k0 := hcells 0 (.int .i64 3) rfl
  have k1 := hcells 1 (.int .i64 5) rfl
  have k2 := hcells 2 (.int .i64 9) rfl
  have k3 := hcells 3 (.int .i64 9) rfl
  rw [Nat.zero_add] at k0 k1 k2 k3
  have c2' := (hb4.cell (p := ⟨g2, 0, none⟩) hlt2).trans HC2.out
  obtain ⟨b0, b1, b2, b3, _⟩ := HX3.out.below hb4 HX3.out.lt
  have HEND := Lib.hid (HB3.out.trans (hb4.mono HB3.out.size))
  clear hb4 hok hperm hsort hcells HS HX3 HB3 HC2 HM
  have q1 : ∀ W, (Op.equalIn 10000 30 (.agg #[.int .i64 3, .int .i64 5]) (.agg #[.int .i64 3, .int .i64 5])).run Tryd.prog W = .ok true W := fun W => by kernel_rfl
  have q2 : ∀ W, (Op.equalIn 10000 30 (.agg #[.int .i64 9, .int .i64 9]) (.agg #[.int .i64 9, .int .i64 9])).run Tryd.prog W = .ok true W := fun W => by kernel_rfl
  go_wp2
  go_ret
  exact ⟨rfl, HEND.out⟩
end Go.Proofs.YtpmakbjchepkmaaDoor
