/- Box: BoxChecks. -/
import Derived.Test.YtpmakbjchepkmaaBL
import Derived.Test.YtpmakbjchepkmaaB3
import Derived.Test.YtpmakbjchepkmaaB4
namespace Go.Proofs.Ytpmakbjchepkmaa
open Go Go.RowKit

/-- A contract, told of the world in which the whole began. -/
theorem bring {P : Program} {W0 W : World} {f : FuncId} {args : Array Value} {v : Value} (hb : Below W0.heap.size W0 W) (hc : Calls P f args W fun e w' => e = .returned v ∧ Below W.heap.size W w') : Calls P f args W fun e w' => e = .returned v ∧ Below W0.heap.size W0 w' :=
  hc.mono fun _ _ ⟨h1, h2⟩ => ⟨h1, hb.trans (h2.mono hb.size)⟩
/-- A box's own block, read while memory grows. -/
theorem box_reads {w : World} {name : ByteArray} {valid next : Int} {sv : Value} {t : TypeId} {b : Nat} (h : BoxW w b name valid next sv) (wx : World) (hb : Below w.heap.size w wx) :
    wx.cell? ⟨b, 0, none⟩ = some (.string name) ∧ wx.cell? ⟨b, 1, none⟩ = some (.int .i64 valid) ∧ wx.cell? ⟨b, 2, none⟩ = some (.int .i64 next) ∧ wx.cell? ⟨b, 3, none⟩ = some sv := by
  have h' := h.below hb h.lt
  exact ⟨h'.c0, h'.c1, h'.c2, h'.c3⟩

set_option maxHeartbeats 8000000 in
set_option maxRecDepth 100000 in
theorem walk_checks (name : ByteArray) (valid next : Int) (sv : Value) (ps : List LV) (w : World) (h : BoxIn w name valid next sv ps) (hM : Ml w) :
    Calls Try.prog 3 #[boxV name valid next sv] w fun e w' => e = .returned (.bool true) ∧ Below w.heap.size w w' := by
  have hb0 : Below w.heap.size w (w.alloc (.cells #[.string name, .int .i64 valid, .int .i64 next, sv] 24)) := (Below.refl _ w).alloc (Nat.le_refl _) _
  have hbx := BoxW.new w name valid next sv 24
  obtain ⟨W0, hW0⟩ : ∃ W0, W0 = w.alloc (.cells #[.string name, .int .i64 valid, .int .i64 next, sv] 24) := ⟨_, rfl⟩
  rw [← hW0] at hb0 hbx
  have hl0 := h.lets.below hb0
  have hM0 := hM.below hb0
  have hlen := h.len
  have K := fun wx hb => box_reads (t := 24) hbx wx hb
  have cL : ∀ W, Below W0.heap.size W0 W → Calls Try.prog 10 #[] W fun e w' => e = .returned (.bool true) ∧ Below W0.heap.size W0 w' := fun W hb => bring hb (live_any W (hM0.below hb))
  have c1 := fun W (hb : Below W0.heap.size W0 W) => bring hb (check_any name valid next sv ps W (hl0.below hb) hlen)
  have c2 := fun W (hb : Below W0.heap.size W0 W) => bring hb (refCheck name valid next sv ps W (hl0.below hb) hlen)
  have c3 := fun W (hb : Below W0.heap.size W0 W) => bring hb (size_any name valid next sv ps W (hl0.below hb) hlen)
  have c4 := fun W (hb : Below W0.heap.size W0 W) => bring hb (refSize name valid next sv ps W (hl0.below hb) hlen)
  have bd : Below W0.heap.size W0 W0.drew := (Below.refl _ W0).drew
  obtain ⟨sa, sc, rfl, _⟩ := h.lets.shape
  generalize chk valid next (ps.map (·.1)) = ck at *
  generalize szF 0 (ps.map (·.1)) = sz at *
  unfold boxV at c1 c2 c3 c4 ⊢
  have HK := Lib.hid K
  have HL := Lib.hid cL
  have H1 := Lib.hid c1
  have H2 := Lib.hid c2
  have H3 := Lib.hid c3
  have H4 := Lib.hid c4
  have HB := Lib.hid hb0
  have HW := Lib.hid hW0
  clear K cL c1 c2 c3 c4 hb0 hW0 hl0 hM0 hM h hbx hlen
  go_enter Try.func3, Try.ntmps3
  go_wp2_with fail
  rw [← HW.out]
  go_region_held3 (fun wx => Below W0.heap.size W0 wx ∧ wx.cell? ⟨w.heap.size, 0, none⟩ = some (.string name) ∧ wx.cell? ⟨w.heap.size, 1, none⟩ = some (.int .i64 valid) ∧ wx.cell? ⟨w.heap.size, 2, none⟩ = some (.int .i64 next) ∧ wx.cell? ⟨w.heap.size, 3, none⟩ = some (.slice sa ps.length sc)) (first | exact ⟨by assumption, HK.out _ (by assumption)⟩) (first
    | (go_at_call 10; ((with_reducible refine (HL.out _ (by assumption)).mono ?_); rintro e wn ⟨rfl, hBn⟩))
    | (go_at_call 11; ((with_reducible refine (H1.out _ (by assumption)).mono ?_); rintro e wn ⟨rfl, hBn⟩))
    | (go_at_call 12; ((with_reducible refine (H2.out _ (by assumption)).mono ?_); rintro e wn ⟨rfl, hBn⟩))
    | (go_at_call 13; ((with_reducible refine (H3.out _ (by assumption)).mono ?_); rintro e wn ⟨rfl, hBn⟩))
    | (go_at_call 14; ((with_reducible refine (H4.out _ (by assumption)).mono ?_); rintro e wn ⟨rfl, hBn⟩)))
  all_goals
    go_wp2
    go_ret
    exact ⟨ret_bool (by simp), HB.out.trans ((by assumption : Below W0.heap.size W0 _).mono HB.out.size)⟩
end Go.Proofs.Ytpmakbjchepkmaa
