/- Disk, the document's own: Write. -/
import Derived.Test.YtohmofhpbmhhjaaE3
import Derived.Test.YtohmofhpbmhhjaaD20
namespace Go.Proofs.Ytohmofhpbmhhjaa
open Go Go.RowKit

theorem run_byz_string {P : Program} (w : World) (src dst e : TypeId) (hs : P.underlying src = some (.slice e)) (he : P.underlying e = some (.int .u8)) (hd : P.underlying dst = some .string) {v : Value} {l : List UInt8} (h : Byz w v l) :
    (convert src dst v).run P w = .ok (.string ⟨l.toArray⟩) w := by
  by_cases hn : l = []
  · subst hn
    obtain ⟨a, cap, rfl⟩ := h.1
    cases a with
    | none =>
      show (convert src dst (.slice none 0 cap)).run P w = _
      rw [run_convert_bytes_string w src dst e none 0 cap hs he hd]
      rfl
    | some ad => exact run_convert_bytes_back (P := P) w src dst e ad cap [] hs he hd (fun j hj => by simp at hj)
  · exact run_byt_string w src dst e hs he hd (h.2 hn)
section
variable {P : Program}
theorem str_from (w : World) (t : TypeId) (ht : P.underlying t = some .string) (l : List UInt8) (k : Nat) (hk : k ≤ l.length) :
    (Instr.sliceAt t (.string ⟨l.toArray⟩) (some (.int .i64 (k : Int))) none none).run P w = .ok (.string ⟨(l.drop k).toArray⟩) w := by
  have hsz : (⟨l.toArray⟩ : ByteArray).size = l.length := by simp [ByteArray.size]
  rw [run_sliceAt_string w t _ _ _ _ ht, run_slice_string_l w t _ ht .i64 _ (by omega) (by rw [hsz]; omega), Lib.extract_eq, hsz, Int.toNat_natCast, List.take_of_length_le (by simp)]
theorem str_to (w : World) (t : TypeId) (ht : P.underlying t = some .string) (l : List UInt8) (k : Nat) (hk : k ≤ l.length) :
    (Instr.sliceAt t (.string ⟨l.toArray⟩) none (some (.int .i64 (k : Int))) none).run P w = .ok (.string ⟨(l.take k).toArray⟩) w := by
  have hsz : (⟨l.toArray⟩ : ByteArray).size = l.length := by simp [ByteArray.size]
  rw [run_sliceAt_string w t _ _ _ _ ht, run_slice_string_h w t _ ht .i64 _ (by omega) (by rw [hsz]; omega), Lib.extract_eq]
  simp
end

/-- Another list of writes is put into the disk. -/
theorem RDsk.listed {O : Nat → Prop} {w W : World} {D : Nat} {pv lv : Value} {s : St} (h : RDsk O w D pv lv s) (hb : Below w.heap.size w W) (g n c : Nat) (ws : List (Nat × List UInt8)) (hl : ws.length = n) (hp : ∀ x ∈ ws, x.1 < s.sure.length ∧ x.2.length = 64) (hn : n ≤ 1000) (hne : ws ≠ [])
    (hown : W.ownsRow 0 77 2 (.slice (some ⟨g, 0, none⟩) n c) n (ws.flatMap rwC)) (hg : w.heap.size ≤ g) : RNow O w D { s with waits := ws } (W.setCell ⟨D, 1, none⟩ (.slice (some ⟨g, 0, none⟩) n c)) := by
  have hD := h.lt D h.memD
  have hgl := row_lt hown g rfl
  have hf : Fr (· = D) W (W.setCell ⟨D, 1, none⟩ (.slice (some ⟨g, 0, none⟩) n c)) := (Fr.refl (· = D) W).setCell ⟨D, 1, none⟩ (Or.inl rfl) _
  have hf' : Fr (· = D) w (W.setCell ⟨D, 1, none⟩ (.slice (some ⟨g, 0, none⟩) n c)) := (Fr.of_below (· = D) hb).trans hf (fun _ _ h => h) (fun _ _ h => h)
  have ho : ∀ k, O k → k ≠ D → (W.setCell ⟨D, 1, none⟩ (.slice (some ⟨g, 0, none⟩) n c)).heap[k]? = w.heap[k]? := fun k hk hn => hf'.block k (h.lt k hk) hn
  subst hl
  refine ⟨fun k => O k ∨ k = g, pv, .slice (some ⟨g, 0, none⟩) ws.length c, ⟨⟨h.ok.pages, hp, h.ok.some, h.ok.few, h.ok.cut, hn, h.ok.an⟩, ?_, ?_, ?_, fun e => absurd e hne, Or.inl h.memD, fun k hk => ⟨Or.inl (h.memP k hk).1, (h.memP k hk).2⟩, ?_, ?_⟩, hf', fun k hk => ?_⟩
  · rw [heap_setCell_same _ D 1 _ _ _ ((hb.block D hD).trans h.blk)]
    rfl
  · exact owns_frame h.pages (fun k hk => ho k (h.memP k hk).1 (h.memP k hk).2)
  · exact owns_frame hown (fun k hk => by cases hk; exact heap_setCell_other W _ _ _ (show g ≠ D by omega))
  · intro k hk
    cases hk
    exact ⟨Or.inr rfl, show g ≠ D by omega⟩
  · intro k hk
    rcases hk with hk | rfl
    · exact Nat.lt_of_lt_of_le (h.lt k hk) hf'.size
    · exact Nat.lt_of_lt_of_le hgl hf.size
  · rcases hk with hk | rfl
    · exact Or.inl hk
    · exact Or.inr hg
theorem RNow.after {O : Nat → Prop} {w w1 w' : World} {D : Nat} {pv lv : Value} {s s' : St} (h : RDsk O w1 D pv lv s) (hf : Fr (· = D) w w1) (hn : RNow O w1 D s' w') : RNow O w D s' w' := by
  obtain ⟨O', pv', lv', h', hf', hs⟩ := hn
  exact ⟨O', pv', lv', h', hf.trans hf' (fun _ _ h => h) (fun _ _ h => h), fun k hk => (hs k hk).imp id (fun h => Nat.le_trans hf.size h)⟩
/-- The two appends of Write. -/
theorem app_more (w : World) (ws : List (Nat × List UInt8)) (g c : Nat) (x : Nat × List UInt8) (hown : w.ownsRow 0 77 2 (.slice (some ⟨g, 0, none⟩) ws.length c) ws.length (ws.flatMap rwC)) (hn : ws.length + 1 ≤ 1000) :
    ∃ g' c' w', (∀ ty, (Builtin.append_ #[71, 71] ty #[.slice (some ⟨g, 0, none⟩) ws.length c, .slice (some ⟨w.heap.size, 0, none⟩) 1 1]).run Try.prog (w.alloc (.cells #[.int .i64 (x.1 : Int), .string ⟨x.2.toArray⟩] 77)) = .ok (.slice (some ⟨g', 0, none⟩) (ws.length + 1) c') w') ∧
      w'.ownsRow 0 77 2 (.slice (some ⟨g', 0, none⟩) (ws.length + 1) c') (ws.length + 1) ((ws ++ [x]).flatMap rwC) ∧ (w.alloc (.cells #[.int .i64 (x.1 : Int), .string ⟨x.2.toArray⟩] 77)).grownBy w' (some g) ∧ (g' = g ∨ w.heap.size ≤ g') := by
  obtain ⟨i0, hi0, hz0, hz1, hz2⟩ := info_parts infoRW
  obtain ⟨v', w', hr, h2, h3, h4⟩ := app_own (P := Try.prog) (w.alloc (.cells #[.int .i64 (x.1 : Int), .string ⟨x.2.toArray⟩] 77)) 71 77 i0 _ 2 24 Try.underlying71 hi0 hz0 hz1 hz2 rfl (by decide) _ _ _ (World.ownsRow.alloc hown _)
    ⟨w.heap.size, 0, none⟩ 1 1 (rwC x) rfl (by decide) (fun j u hu => by rw [Addr.add_mid, Nat.zero_add]; exact (cell_of_row _ w.heap.size j _ _ _ (heap_alloc_last w _)).trans (by rw [← hu]; simp [rwC])) (rwC_cell (l := [x]) · <| by simpa using ·) (by unfold maxLen; omega) (by omega)
  have hfl : ws.flatMap rwC ++ rwC x = (ws ++ [x]).flatMap rwC := by simp
  rw [hfl] at h2
  rcases h2.2 with ⟨_, h⟩ | ⟨g', cap', cur', rfl, _⟩
  · omega
  · refine ⟨g', cap', w', hr, h2, by simpa [Value.ownBlock] using h3, ?_⟩
    rcases h4 g' rfl with h | h
    · left
      simpa [Value.ownBlock, eq_comm] using h
    · right
      simp at h
      omega
end Go.Proofs.Ytohmofhpbmhhjaa
