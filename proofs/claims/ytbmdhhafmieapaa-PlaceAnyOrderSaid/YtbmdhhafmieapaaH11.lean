/- The reference's Learn. -/
import Derived.Test.YtbmdhhafmieapaaH10
import Derived.Deep.Onto
namespace Go.Proofs.Ytbmdhhafmieapaa
open Go Go.RowKit Go.Maps

theorem RefOwn.below {w w' : World} {q : Nat} {n : Int} {v : Value} {l : List Known} (h : RefOwn w q n v l) (hb : Below w.heap.size w w') : RefOwn w' q n v l :=
  h.kept (grown_of_below hb none) (by simp) (by cases v.ownBlock <;> simp)
theorem Mine.made (w : World) (l : List Known) (cs : Array Value) (hc : cs.toList = cellsL l) (hl : l.length ≤ 1000000) : Mine w.heap.size (w.alloc (.cells cs 35)) (.slice (some ⟨w.heap.size, 0, none⟩) l.length l.length) l := by
  refine ⟨cellsL_len l, Or.inr ⟨w.heap.size, l.length, cs, rfl, Nat.le_refl _, heap_alloc_new w _, Nat.le_refl _, by unfold maxLen; omega, by rw [← Array.length_toList, hc, cellsL_len], ?_⟩⟩
  rw [hc, ← cellsL_len, List.take_length]
theorem Mine.reads {B : Nat} {w : World} {v : Value} {l : List Known} (h : Mine B w v l) : Reads w v l := by
  rcases h.full with h | ⟨g, cap, rfl, _, _, hc⟩
  · exact Or.inl h
  · exact Or.inr ⟨⟨g, 0, none⟩, cap, rfl, fun j u hu => by rw [addr_plus, Nat.zero_add]; exact hc j u hu⟩
theorem Mine.grow {B : Nat} {a w w' : World} {v : Value} {l : List Known} (h : Mine B w v l) (hb : Below B a w) (hB : B ≤ w.heap.size) (hg : w.grownBy w' v.ownBlock) : Below B a w' :=
  hb.grown hg hB fun k hk => (h.lt k hk).1

structure Spliced (w4 w6 w8 w9 : World) (v v6 v8 v9 x1 x2 : Value) (i j : Nat) (l : List Known) (u : ByteArray) (s e : Int) : Prop where
  cutT : ∀ w, (Instr.slice 29 v none (some (.int .i64 (i : Int))) none).run Try.prog w = .ok x1 w
  cutF : ∀ w, (Instr.slice 29 v (some (.int .i64 (j : Int))) none none).run Try.prog w = .ok x2 w
  run6 : ∀ ty, (Builtin.append_ #[29, 29] ty #[.slice (some ⟨w4.heap.size, 0, none⟩) 0 0, x1]).run Try.prog (w4.alloc (.cells #[] 35)) = .ok v6 w6
  run8 : ∀ ty, (Builtin.append_ #[29, 29] ty #[v6, .slice (some ⟨w6.heap.size, 0, none⟩) 1 1]).run Try.prog (w6.alloc (.cells #[.string u, .int .i64 s, .int .i64 e] 35)) = .ok v8 w8
  run9 : ∀ ty, (Builtin.append_ #[29, 29] ty #[v8, x2]).run Try.prog w8 = .ok v9 w9
  b6 : Below w4.heap.size w4 w6
  b8 : Below w4.heap.size w4 w8
  b9 : Below w4.heap.size w4 w9
  own : Mine w4.heap.size w9 v9 (l.take i ++ (u.data.toList, s, e) :: l.drop j)
theorem splice_runs {w4 : World} {q : Nat} {n : Int} {v : Value} {l : List Known} (hm : RefOwn w4 q n v l) (i j : Nat) (hi : i ≤ l.length) (hj : j ≤ l.length) (hl : l.length ≤ 1000) (u : ByteArray) (s e : Int) :
    ∃ w6 w8 w9 v6 v8 v9 x1 x2, Spliced w4 w6 w8 w9 v v6 v8 v9 x1 x2 i j l u s e := by
  obtain ⟨x1, c1, R1⟩ := cut_to hm.full i hi
  obtain ⟨x2, c2, R2⟩ := cut_from hm.full j hj
  have b5 : Below w4.heap.size w4 (w4.alloc (.cells #[] 35)) := (Below.refl _ w4).alloc (Nat.le_refl _) _
  have m5 := Mine.made w4 [] #[] rfl (by simp)
  obtain ⟨v6, w6, r6, m6, g6⟩ := app3 _ m5 (R1 _ (hm.below b5).full) b5.size (by rw [List.length_take]; simp; omega)
  rw [List.nil_append] at m6
  have b6 := m5.grow b5 b5.size g6
  have b7a : Below w6.heap.size w6 (w6.alloc (.cells #[.string u, .int .i64 s, .int .i64 e] 35)) := (Below.refl _ w6).alloc (Nat.le_refl _) _
  have m7 := Mine.made w6 [(u.data.toList, s, e)] #[.string u, .int .i64 s, .int .i64 e] (by rw [cellsL_one]; unfold cells3; rw [Lib.mk_data]) (by simp)
  have b7 := b6.trans (b7a.mono b6.size)
  have m6' : Mine w4.heap.size (w6.alloc (.cells #[.string u, .int .i64 s, .int .i64 e] 35)) v6 (l.take i) := World.ownsRow.alloc m6 _
  obtain ⟨v8, w8, r8, m8, g8⟩ := app3 _ m6' m7.reads b7.size (by rw [List.length_take]; simp; omega)
  have b8 := m6'.grow b7 b7.size g8
  obtain ⟨v9, w9, r9, m9, g9⟩ := app3 _ m8 (R2 _ (hm.below b8).full) b8.size (by simp only [List.length_append, List.length_take, List.length_drop, List.length_cons, List.length_nil]; omega)
  have b9 := m8.grow b8 b8.size g9
  rw [List.append_assoc] at m9
  exact ⟨w6, w8, w9, v6, v8, v9, x1, x2, c1, c2, r6, r8, r9, b6, b8, b9, m9⟩
end Go.Proofs.Ytbmdhhafmieapaa
