/- Box: ranges that touch are joined: in plain words, and in memory. -/
import Derived.Test.YtpmakbjchepkmaaDoorBG5
namespace Go.Proofs.YtpmakbjchepkmaaDoor
open Go Go.RowKit

/-- Sorted ranges, joined. -/
def joinGo : List (Int × Int) → Int → Int → List (Int × Int) → List (Int × Int)
  | ini, lo, hi, [] => ini ++ [(lo, hi)]
  | ini, lo, hi, p :: t => if hi + 1 < p.1 then joinGo (ini ++ [(lo, hi)]) p.1 p.2 t else joinGo ini lo (max hi p.2) t
/-- Ranges that rise, with a gap between each two. -/
def Gaps : List (Int × Int) → Prop
  | [] => True
  | [p] => p.1 ≤ p.2
  | p :: q :: t => p.1 ≤ p.2 ∧ p.2 + 1 < q.1 ∧ Gaps (q :: t)
def inR (l : List (Int × Int)) (n : Int) : Prop := ∃ p ∈ l, p.1 ≤ n ∧ n ≤ p.2

/-- Where the accumulated ranges are. -/
structure Acc (D : Nat) (w : World) (g b : Nat) (c : Nat) (ini : List (Int × Int)) (lo hi : Int) : Prop where
  c0 : w.cell? ⟨b, ini.length * 2, none⟩ = some (.int .i64 lo)
  c1 : w.cell? ⟨b, ini.length * 2 + 1, none⟩ = some (.int .i64 hi)
  f1 : w.frozen? ⟨b, ini.length * 2 + 1, none⟩ = false
  at' : (b = g ∧ ini = [] ∧ c = 1) ∨ (b ≠ g ∧ D < b ∧ OwnsP (D + 1) w (.slice (some ⟨b, 0, none⟩) (ini.length + 1) c) (ini ++ [(lo, hi)]))
/-- The ranges that are still to come stand in block g. -/
def Src (w : World) (g : Nat) (l : List (Int × Int)) : Prop := g < w.heap.size ∧ ∀ j p, 1 ≤ j → l[j]? = some p → w.cell? ⟨g, j * 2, none⟩ = some (.int .i64 p.1) ∧ w.cell? ⟨g, j * 2 + 1, none⟩ = some (.int .i64 p.2)
theorem Src.kept {w w' : World} {g : Nat} {l : List (Int × Int)} (h : Src w g l) (hs : w.heap.size ≤ w'.heap.size) (hb : w'.heap[g]? = w.heap[g]?) : Src w' g l :=
  ⟨Nat.lt_of_lt_of_le h.1 hs, fun j p h1 hj => by
    obtain ⟨a, b⟩ := h.2 j p h1 hj
    exact ⟨(World.cell?_of_block (a := ⟨g, j * 2, none⟩) hb).trans a, (World.cell?_of_block (a := ⟨g, j * 2 + 1, none⟩) hb).trans b⟩⟩
theorem Acc.kept {D : Nat} {w w' : World} {g b c : Nat} {ini : List (Int × Int)} {lo hi : Int} (h : Acc D w g b c ini lo hi) (hb : w'.heap[b]? = w.heap[b]?) : Acc D w' g b c ini lo hi :=
  ⟨(World.cell?_of_block (a := ⟨b, ini.length * 2, none⟩) hb).trans h.c0, (World.cell?_of_block (a := ⟨b, ini.length * 2 + 1, none⟩) hb).trans h.c1, (World.frozen?_of_block (a := ⟨b, ini.length * 2 + 1, none⟩) hb).trans h.f1,
    h.at'.imp id fun ⟨h1, h2, h3⟩ => ⟨h1, h2, owns_frame h3 (fun k hk => by cases hk; exact hb)⟩⟩
theorem Acc.lt {D : Nat} {w : World} {g b c : Nat} {ini : List (Int × Int)} {lo hi : Int} (h : Acc D w g b c ini lo hi) : b < w.heap.size := World.block_lt_of_cell? w _ h.c0
/-- From what is owned. -/
theorem Acc.of {D : Nat} {w : World} {g b c : Nat} {ini : List (Int × Int)} {lo hi : Int} (hne : b ≠ g) (ho : OwnsP (D + 1) w (.slice (some ⟨b, 0, none⟩) (ini.length + 1) c) (ini ++ [(lo, hi)])) : Acc D w g b c ini lo hi := by
  have hl : (ini ++ [(lo, hi)])[ini.length]? = some (lo, hi) := by simp
  have ho' : w.ownsRow (D + 1) 30 2 (.slice (some ⟨b, 0, none⟩) (ini.length + 1) c) (ini.length + 1) ((ini ++ [(lo, hi)]).flatMap cells2) := by have := ho; unfold OwnsP at this; simpa using this
  have h0 := World.ownsRow.cells ho' (g := b) rfl _ _ (flat_at cells2 2 _ _ (fun _ _ => rfl) _ hl 0 _ rfl)
  have h1 := World.ownsRow.cells ho' (g := b) rfl _ _ (flat_at cells2 2 _ _ (fun _ _ => rfl) _ hl 1 _ rfl)
  rw [addr_plus, Nat.zero_add, Nat.add_zero] at h0
  rw [addr_plus, Nat.zero_add] at h1
  exact ⟨h0, h1, (owns_there ho' (ini.length * 2) 2 (by omega) 1 (by omega)).2, Or.inr ⟨hne, by have := (World.ownsRow.lt ho' b rfl).1; omega, ho⟩⟩
/-- Its last end is another one. -/
theorem Acc.max {D : Nat} {w : World} {g b c : Nat} {ini : List (Int × Int)} {lo hi : Int} (h : Acc D w g b c ini lo hi) (n : Int) : Acc D (w.setCell ⟨b, ini.length * 2 + 1, none⟩ (.int .i64 n)) g b c ini lo n := by
  rcases h.at' with ⟨rfl, rfl, rfl⟩ | ⟨h1, h2, h3⟩
  · refine ⟨?_, World.cell?_setCell_same _ _ _ h.c1, by rw [World.frozen?_setCell]; exact h.f1, Or.inl ⟨rfl, rfl, rfl⟩⟩
    rw [World.cell?_setCell_other _ _ _ _ (by intro e; injection e with _ e; simp at e)]
    exact h.c0
  · refine Acc.of h1 ?_
    have h3' : w.ownsRow (D + 1) 30 2 (.slice (some ⟨b, 0, none⟩) (ini.length + 1) c) (ini.length + 1) ((ini ++ [(lo, hi)]).flatMap cells2) := by have := h3; unfold OwnsP at this; simpa using this
    have h4 := owns_set h3' (ini.length * 2 + 1) [.int .i64 n] (by simp; omega)
    have hov : over ((ini ++ [(lo, hi)]).flatMap cells2) (ini.length * 2 + 1) [.int .i64 n] = (ini ++ [(lo, n)]).flatMap cells2 := by
      have hl : (ini.flatMap cells2).length = ini.length * 2 := flat_len cells2 2 ini (fun _ _ => rfl)
      rw [List.flatMap_append, List.flatMap_append]
      unfold over
      rw [List.take_append, List.drop_append]
      simp [hl, cells2, List.take_of_length_le, List.drop_eq_nil_of_le, show ini.length * 2 + 1 - ini.length * 2 = 1 by omega, show ini.length * 2 + 1 + 1 - ini.length * 2 = 2 by omega]
      omega
    rw [hov] at h4
    unfold OwnsP
    rw [show (ini ++ [(lo, n)]).length = ini.length + 1 by simp]
    exact h4
/-- append where there is no room, onto what is only read: new memory. -/
theorem app_grow_from {P : Program} (w : World) (base : Nat) (t e : TypeId) (i : TypeInfo) (z : Value) (size bytes : Nat) (ht : P.underlying t = some (.slice e)) (hi : P.info? e = some i) (hz : i.zero = some z)
    (hsize : i.size = size) (hby : i.bytes = bytes) (hzs : z.cells.size = size) (b : Addr) (n c : Nat) (xs : List Value) (hx : xs.length = n * size) (holds : ∀ j u, xs[j]? = some u → w.cell? (b.add j) = some u)
    (a : Addr) (m c2 : Nat) (news : List Value) (hl : news.length = m * size) (hnews : ∀ j u, news[j]? = some u → w.cell? (a.add j) = some u) (hroom : c < n + m)
    (h63 : n + m ≤ maxLen) (hbytes : (n + m) * bytes ≤ 140737488355328) (hbase : base ≤ w.heap.size) :
    ∃ cap w', (∀ ty, (Builtin.append_ #[t, t] ty #[.slice (some b) n c, .slice (some a) m c2]).run P w = .ok (.slice (some ⟨w.heap.size, 0, none⟩) (n + m) cap) w') ∧ w'.ownsRow base e size (.slice (some ⟨w.heap.size, 0, none⟩) (n + m) cap) (n + m) (xs ++ news) ∧ w.grownBy w' none := by
  subst hsize
  subst hby
  have hmx : n + m ≤ 9223372036854775807 := by simp only [maxLen] at h63; omega
  have hr := fun ty => run_append_grow (P := P) w t ty e i z ht hi hz b n c xs hx holds a m c2 news hl hnews hroom (by omega) (growslice_fits (by omega) hbytes)
  have hlen : (xs ++ news).length = (n + m) * i.size := by rw [List.length_append, hx, hl, Nat.add_mul]
  have hge := grownCap_ge w (n + m) c e
  have hcm : grownCap w (n + m) c e ≤ maxLen := grownCap_le_maxLen w (n + m) c e h63
  refine ⟨_, _, hr, ⟨hlen, .inr ⟨w.heap.size, _, _, rfl, hbase, heap_alloc_new w.drew _, hge, hcm, ?_, ?_⟩⟩, ⟨rfl, rfl, rfl, by simp, fun k hk _ => Below.heap_alloc w.drew _ k hk⟩⟩
  · simp only [Array.size_append, List.size_toArray, size_zeroCells, hzs, hx, hl, ← Nat.add_mul]
    congr 1
    omega
  · simp only [Array.toList_append, List.append_assoc]
    rw [← List.append_assoc, ← hlen]
    exact List.take_left
/-- One more range is laid behind. -/
theorem Acc.app {D : Nat} {w : World} {g b c : Nat} {ini : List (Int × Int)} {lo hi : Int} (h : Acc D w g b c ini lo hi) (x : Int × Int) (hg : g < w.heap.size) (hD : D < w.heap.size) (hn : ini.length ≤ 1000) :
    ∃ b' c' w', (∀ ty, (Builtin.append_ #[22, 22] ty #[.slice (some ⟨b, 0, none⟩) (ini.length + 1) c, .slice (some ⟨w.heap.size, 0, none⟩) 1 1]).run Tryd.prog (w.alloc (.cells #[.int .i64 x.1, .int .i64 x.2] 30)) = .ok (.slice (some ⟨b', 0, none⟩) (ini.length + 1 + 1) c') w') ∧
      Acc D w' g b' c' (ini ++ [(lo, hi)]) x.1 x.2 ∧ (∀ k, k < w.heap.size → k ≤ D ∨ k = g → w'.heap[k]? = w.heap[k]?) ∧ Below D w w' := by
  have hlt := h.lt
  rcases h.at' with ⟨rfl, rfl, rfl⟩ | ⟨h1, h2, h3⟩
  · obtain ⟨i, hi0, hz, hs, hbs⟩ := info_parts infoPair
    have hb : Below w.heap.size w (w.alloc (.cells #[.int .i64 x.1, .int .i64 x.2] 30)) := (Below.refl _ w).alloc (Nat.le_refl _) _
    have hc0 := (hb.cell (p := ⟨b, ([] : List (Int × Int)).length * 2, none⟩) hlt).trans h.c0
    have hc1 := (hb.cell (p := ⟨b, ([] : List (Int × Int)).length * 2 + 1, none⟩) hlt).trans h.c1
    simp at hc0 hc1
    have hsz : (w.alloc (.cells #[.int .i64 x.1, .int .i64 x.2] 30)).heap.size = w.heap.size + 1 := by simp
    obtain ⟨c', w', hr, ho, hgr⟩ := app_grow_from (P := Tryd.prog) (w.alloc (.cells #[.int .i64 x.1, .int .i64 x.2] 30)) (D + 1) 22 30 i _ 2 16 Tryd.underlying22 hi0 hz hs hbs rfl ⟨b, 0, none⟩ 1 1 (cells2 (lo, hi)) rfl
      (fun j u hu => by
        rw [addr_plus, Nat.zero_add]
        match j with
        | 0 => simp [cells2] at hu; rw [← hu]; exact hc0
        | 1 => simp [cells2] at hu; rw [← hu]; exact hc1
        | j + 2 => simp [cells2] at hu)
      ⟨w.heap.size, 0, none⟩ 1 1 (cells2 x) rfl (fun j u hu => by rw [addr_plus, Nat.zero_add, cell_of_row _ _ _ _ _ _ (heap_alloc_new w _)]; simpa [cells2] using hu) (by omega) (by unfold maxLen; omega) (by omega) (by rw [hsz]; omega)
    rw [hsz] at hr ho
    refine ⟨w.heap.size + 1, c', w', hr, Acc.of (by omega) ?_, fun k hk _ => (hgr.block k (by omega) (by simp)).trans (hb.block k hk), (hb.mono (Nat.le_of_lt hD)).grown hgr (by omega) (fun k hk => by cases hk)⟩
    unfold OwnsP
    simpa [cells2] using ho
  · obtain ⟨a, c', w', hr, ho, hgr, b', rfl, hwh⟩ := appP w x (v := .slice (some ⟨b, 0, none⟩) (ini.length + 1) c) (by simpa using h3) (by omega) (by simp; omega)
    have hl2 : (ini ++ [(lo, hi)] ++ [x]).length = ini.length + 1 + 1 := by simp
    rw [hl2] at hr ho
    have hne : b' ≠ g := by
      rcases hwh with e | e
      · simp [Value.ownBlock] at e; omega
      · omega
    refine ⟨b', c', w', hr, Acc.of hne (by simpa using ho), fun k hk hkk => hgr.block k hk (fun e => by simp [Value.ownBlock] at e; subst e; rcases hkk with h | h; omega; exact h1 h), (Below.refl D w).grown hgr (Nat.le_of_lt hD) (fun k hk => by simp [Value.ownBlock] at hk; omega)⟩
end Go.Proofs.YtpmakbjchepkmaaDoor
