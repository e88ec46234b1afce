import Derived.Test.YtjlhcgimijcghaaFOpen
import Derived.WideKeyArr2
namespace Go.Proofs.Ytjlhcgimijcghaa
open Go.ChangeShapes Go.WideShapes Go.ChangeAt Go.RowKit Go.WideMaps

theorem arr4 : ArrKey Try.prog 38 5 4 := ⟨Try.underlying38, by kernel_rfl, by kernel_rfl, by kernel_rfl⟩
theorem byte_back {a : Int} (h : (Lit.int .u8 a).wf = true) : ∃ b : UInt8, a = (b.toNat : Int) := by
  have := byte_of h
  exact ⟨UInt8.ofNat a.toNat, by rw [UInt8.toNat_ofNat']; omega⟩
/-- An argument of four bytes, opened. -/
theorem open_arr4 {H : Type} {enc : TypeId × Value → H} {W : World} {base : Nat} {v : Value} {d : DataW H} {p : List MemPlace}
    (hval : Value.okWide Try.prog W .any base 38 v) (h0 : DataW.Trod enc Try.prog W 0 (fun _ => true) true 38 v d p) :
    ∃ b0 b1 b2 b3 : UInt8, v = .agg #[.int .u8 (b0.toNat : Int), .int .u8 (b1.toNat : Int), .int .u8 (b2.toNat : Int), .int .u8 (b3.toNat : Int)] := by
  obtain ⟨xs, rfl, hn⟩ := okWide_arr arr4 hval
  obtain ⟨fuel, hf⟩ := h0
  cases fuel with
  | zero => simp [DataW.trod] at hf
  | succ m =>
    rw [DataW.trod_step] at hf
    unfold DataW.trodStep at hf
    simp only [arr4.hu, Value.cells] at hf
    rw [if_pos (by rw [arr4.size]; simpa using hn)] at hf
    simp only [Option.map_eq_some_iff] at hf
    obtain ⟨ys, hy, _⟩ := hf
    obtain ⟨l⟩ := xs
    match l, hn with
    | [x0, x1, x2, x3], _ =>
      rw [cells5] at hy
      simp [List.range, List.range.loop, List.mapM_cons, Option.bind_eq_some_iff] at hy
      obtain ⟨_, _, p0, _, ⟨_, _, p1, _, ⟨_, _, p2, _, ⟨_, _, p3, _⟩, _⟩, _⟩, _⟩ := hy
      obtain ⟨a0, e0, _, w0⟩ := DataW.trod_int Try.underlying5 p0
      obtain ⟨a1, e1, _, w1⟩ := DataW.trod_int Try.underlying5 p1
      obtain ⟨a2, e2, _, w2⟩ := DataW.trod_int Try.underlying5 p2
      obtain ⟨a3, e3, _, w3⟩ := DataW.trod_int Try.underlying5 p3
      obtain ⟨b0, rfl⟩ := byte_back w0
      obtain ⟨b1, rfl⟩ := byte_back w1
      obtain ⟨b2, rfl⟩ := byte_back w2
      obtain ⟨b3, rfl⟩ := byte_back w3
      injection e0 with e0
      injection e1 with e1
      injection e2 with e2
      injection e3 with e3
      exact ⟨b0, b1, b2, b3, by rw [e0, e1, e2, e3]⟩
end Go.Proofs.Ytjlhcgimijcghaa
