/- The reference's letters as they lie in memory; its domain. -/
import Derived.Test.YtmolifgjghbfaaaDoorR1
namespace Go.Proofs.YtmolifgjghbfaaaDoor
open Go.RowKit

/-- A text's letters lie in block g. -/
def Cells (s : ByteArray) (w : World) (g : Nat) : Prop := ∀ i, i < (lets s 0).length → w.cell? ⟨g, i, none⟩ = (letV s)[i]?
theorem Cells.below {s : ByteArray} {w w' : World} {g : Nat} (h : Cells s w g) {B : Nat} (hb : Below B w w') (hg : g < B) : Cells s w' g :=
  fun i hi => (hb.cell (p := ⟨g, i, none⟩) hg).trans (h i hi)
/-- The letters from a place on are those of the bytes from there on. -/
def Run (s : ByteArray) (i : Nat) : Prop := i ≤ s.size ∧ (lets s 0).drop i = lets s i ∧ i ≤ (lets s 0).length

structure LetterAt (s : ByteArray) (w : World) (g i : Nat) (t : ByteArray) (r : Nat) : Prop where
  lt : i < (lets s 0).length
  cell : w.cell? ⟨g, i, none⟩ = some (.string t)
  pos : 0 < t.size
  is : ∀ c, c < 128 → (t.toList == [UInt8.ofNat c]) = decide (r = c)
  low : r < 128 → t.size = 1 ∧ Run s (i + 1) ∧ (lets s 0)[i]? = some (i, r, 1)
  byte : (t.get! 0).toNat = (s.get! i).toNat
  same : r < 128 → (t.get! 0).toNat = r
  high : 128 ≤ r → 128 ≤ (t.get! 0).toNat
  txt : r < 128 → t.data.toList = [UInt8.ofNat r]
  top : r ≤ 1114111
  small : t.size ≤ 4
theorem letter_at (s : ByteArray) (w : World) (g i : Nat) (hc : Cells s w g) (hr : Run s i) (hp : i < s.size) : ∃ t r, LetterAt s w g i t r := by
  obtain ⟨r, k, hd⟩ : ∃ r k, Utf8.decode s i = (r, k) := ⟨_, _, rfl⟩
  have hwd := dec_le s i hp
  have hdr := hr.2.1
  rw [lets_cons s i hp] at hdr
  rw [hd] at hwd hdr
  simp only at hwd hdr
  obtain ⟨hin, hx, hdr2⟩ := drop_cons hdr
  have hlead := lead_byte s i r k hp hd
  have hg := ext_get s i k 0 hwd.2.2 (by omega)
  rw [Nat.add_zero] at hg
  have hk : r < 128 → k = 1 := fun h => (hlead.1 h).2
  refine ⟨s.extract i (i + k), r, hin, ?_, ?_, ?_, ?_, ?_, ?_, ?_, ?_, ?_, ?_⟩
  · rw [hc i hin]; exact letV_at s i _ hx
  · rw [ext_size s i k hwd.2.2]; omega
  · intro c h; exact letter_eq s i r k c hp hd h
  · intro h
    have h1 := hk h
    subst h1
    exact ⟨ext_size s i 1 hwd.2.2, ⟨hwd.2.2, hdr2, hin⟩, hx⟩
  · rw [hg]
  · intro h; rw [hg]; exact (hlead.1 h).1
  · intro h; rw [hg]; exact hlead.2 h
  · intro h
    rw [letter_enc s i r k hp hd (by intro e; omega), enc_small r h]
  · exact (dec_ok s i r k hd).1
  · rw [ext_size s i k hwd.2.2]; omega
theorem run_end (s : ByteArray) (i : Nat) (hr : Run s i) (hp : ¬ i < s.size) : i = s.size ∧ (lets s 0).length ≤ i := by
  have h := hr.2.1
  rw [lets_nil s i hp] at h
  exact ⟨by have := hr.1; omega, drop_nil h⟩
theorem run_zero (s : ByteArray) : Run s 0 := ⟨Nat.zero_le _, List.drop_zero, Nat.zero_le _⟩
theorem lets_len0 (s : ByteArray) : (lets s 0).length ≤ s.size := lets_len s
theorem run_full (s : ByteArray) (i : Nat) (hr : Run s i) (hp : ¬ i < s.size) : (lets s 0).length = s.size := by
  have h1 := run_end s i hr hp
  have h2 := lets_len0 s
  have := hr.2.2
  omega

/-- One of some: of a letter. -/
theorem refOne_letter (s : ByteArray) (w W : World) (g i : Nat) (t sm : ByteArray) (r : Nat) (L : LetterAt s W g i t r) (hz : sm.size ≤ 1000) (hsm : ∀ b ∈ sm.data.toList, b.toNat < 128) :
    Calls Tryd.prog 22 #[.string t, .string sm] w fun e w' => e = .returned (.bool (decide (r < 128) && (alnumR r || anyFrom sm 0 r))) ∧ w = w' := by
  by_cases h : r < 128
  · have h1 := refOne_go t sm w hz (L.low h).1 r (L.same h)
    rw [decide_eq_true h, Bool.true_and]; exact h1
  · rw [decide_eq_false h, Bool.false_and]
    by_cases h1 : t.size = 1
    · have hh := L.high (by omega)
      have h2 := refOne_go t sm w hz h1 _ rfl
      have e1 : alnumR (t.get! 0).toNat = false := by
        cases hc : alnumR (t.get! 0).toNat with
        | false => rfl
        | true => have := alnum_low hc; omega
      have e2 : anyFrom sm 0 (t.get! 0).toNat = false := by
        unfold anyFrom
        rw [List.drop_zero, List.any_eq_false]
        intro b hb
        have := hsm b hb
        simp; omega
      rw [e1, e2] at h2; exact h2
    · exact refOne_not t sm w h1
theorem any_map (r : Nat) : ∀ l : List UInt8, (l.any fun b => decide (b.toNat = r)) = decide (r ∈ l.map fun b => b.toNat) := by
  intro l
  induction l with
  | nil => simp
  | cons b t ih =>
    rw [List.any_cons, ih, List.map_cons, Bool.eq_iff_iff]
    simp only [Bool.or_eq_true, decide_eq_true_eq, List.mem_cons]
    exact ⟨fun h => h.elim (fun h => Or.inl h.symm) Or.inr, fun h => h.elim (fun h => Or.inl h.symm) Or.inr⟩
theorem any_minus (r : Nat) : anyFrom ⟨#[45]⟩ 0 r = decide (r = 45) := by
  unfold anyFrom
  rw [List.drop_zero, any_map, Bool.eq_iff_iff]
  simp
theorem any_signs (r : Nat) : anyFrom signB 0 r = decide (r ∈ signL) := by
  unfold anyFrom
  rw [List.drop_zero, any_map, show (signB.data.toList.map fun b => b.toNat) = signL by decide]
end Go.Proofs.YtmolifgjghbfaaaDoor
