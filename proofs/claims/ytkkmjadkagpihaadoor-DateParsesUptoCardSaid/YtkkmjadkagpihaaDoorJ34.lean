/- Date: the document's letters in a list; wrong, value, offset. -/
import Derived.Test.YtkkmjadkagpihaaDoorJ12
import Derived.Test.YtkkmjadkagpihaaDoorJ15
import Derived.Test.YtkkmjadkagpihaaDoorJM
namespace Go.Proofs.YtkkmjadkagpihaaDoor
open Go Go.RowKit

/-- A list of strings that is read. -/
def Ltr (w : World) (v : Value) (L : List ByteArray) : Prop :=
  ∃ a c, v = .slice a L.length c ∧ L.length ≤ c ∧ ∀ i (h : i < L.length), ∃ g, a = some ⟨g, 0, none⟩ ∧ g < w.heap.size ∧ w.cell? ⟨g, i, none⟩ = some (.string L[i])
theorem Ltr.below {w w' : World} {v : Value} {L : List ByteArray} (h : Ltr w v L) (hb : Below w.heap.size w w') : Ltr w' v L := by
  obtain ⟨a, c, rfl, hc, hx⟩ := h
  refine ⟨a, c, rfl, hc, fun i hi => ?_⟩
  obtain ⟨g, rfl, hg, hcc⟩ := hx i hi
  exact ⟨g, rfl, Nat.lt_of_lt_of_le hg hb.size, (hb.cell hg).trans hcc⟩
theorem Ltr.at {w : World} {v : Value} {L : List ByteArray} (h : Ltr w v L) (h0 : 0 < L.length) : ∃ g c, v = .slice (some ⟨g, 0, none⟩) L.length c ∧ L.length ≤ c ∧ g < w.heap.size ∧ ∀ i (h : i < L.length), w.cell? ⟨g, i, none⟩ = some (.string L[i]) := by
  obtain ⟨a, c, rfl, hc, hx⟩ := h
  obtain ⟨g, rfl, hg, -⟩ := hx 0 h0
  refine ⟨g, c, rfl, hc, hg, fun i hi => ?_⟩
  obtain ⟨g', e, -, hcc⟩ := hx i hi
  have : g' = g := by injection e with e; injection e with e; exact e.symm
  subst this; exact hcc
theorem Ltr.shape {w : World} {v : Value} {L : List ByteArray} (h : Ltr w v L) : ∃ a c, v = .slice a L.length c ∧ L.length ≤ c := by
  obtain ⟨a, c, rfl, hc, _⟩ := h
  exact ⟨a, c, rfl, hc⟩
theorem Ltr.of {w : World} {B : Nat} {v : Value} {L : List ByteArray} (h : w.ownsRow B 9 1 v L.length (L.map Value.string)) : Ltr w v L := by
  obtain ⟨a, c, rfl, hc⟩ := owns_shape h
  refine ⟨a, c, rfl, hc, fun i hi => ?_⟩
  rcases h.2 with ⟨h0, h1⟩ | ⟨g, cap, cur, hv, hb, hg, hr⟩
  · omega
  · injection hv with e1 e2 e3
    subst e1; subst e3
    have := World.ownsRow.cells h (g := g) rfl i (.string L[i]) (by rw [List.getElem?_map, List.getElem?_eq_getElem hi]; rfl)
    rw [Addr.add_mid, Nat.zero_add] at this
    exact ⟨g, rfl, (Array.getElem?_eq_some_iff.1 hg).1, this⟩

/-- The letters of a text. -/
def ltrs (t : ByteArray) : List ByteArray := (lets t 0).map fun x => t.extract x.1 (x.1 + x.2.2)
theorem ltrs_map (t : ByteArray) : (ltrs t).map Value.string = letsV t := by unfold ltrs letsV; rw [List.map_map]; rfl
theorem ltrs_len (t : ByteArray) : (ltrs t).length ≤ t.size := by
  unfold ltrs lets
  rw [List.length_map]
  exact lets_length t _ _
theorem refLetters (t : ByteArray) (w : World) (hT : Tabs w) (hs : t.size ≤ 4398046511104) :
    Calls Tryd.prog 43 #[.string t] w fun e w' => ∃ v, e = .returned v ∧ Ltr w' v (ltrs t) ∧ Below w.heap.size w w' := by
  refine (letters_any t w hT hs).mono ?_
  rintro e w' ⟨v, rfl, h1, h2⟩
  rw [← ltrs_map, List.length_map] at h1
  exact ⟨v, rfl, Ltr.of h1, h2⟩

theorem wrong_any (w : World) (v : Value) (L : List ByteArray) (hv : Ltr w v L) (far : Nat) :
    Calls Tryd.prog 46 #[v, .int .i64 (far : Int)] w fun e w' => e = .returned (.tuple #[.int .i64 (far : Int), .int .i64 (if far = L.length then 3 else 4)]) ∧ w = w' := by
  obtain ⟨a, c, rfl, hc⟩ := hv.shape
  by_cases h : far = L.length
  · rw [if_pos h]
    have hx : ((far : Int) == (L.length : Int)) = true := by simp; omega
    have hy : (far == L.length) = true := by simpa using h
    clear h hv
    go_enter Tryd.func46, Tryd.ntmps46
    go_wp2
    go_ret2
    exact ⟨rfl, rfl⟩
  · rw [if_neg h]
    have hx : ((far : Int) == (L.length : Int)) = false := by simp; omega
    have hy : (far == L.length) = false := by simpa using h
    clear h hv
    go_enter Tryd.func46, Tryd.ntmps46
    go_wp2
    go_ret2
    exact ⟨rfl, rfl⟩

/-- All letters are single bytes. -/
def Sg (L : List ByteArray) (bs : List UInt8) : Prop := L = bs.map fun c => ⟨#[c]⟩
theorem Sg.len {L : List ByteArray} {bs : List UInt8} (h : Sg L bs) : L.length = bs.length := by rw [h, List.length_map]
theorem Sg.get {L : List ByteArray} {bs : List UInt8} (h : Sg L bs) (i : Nat) (hi : i < L.length) : ∃ hb : i < bs.length, L[i] = ⟨#[bs[i]]⟩ := by
  have hb : i < bs.length := by rw [← h.len]; exact hi
  refine ⟨hb, ?_⟩
  subst h
  simp
/-- The number of digits. -/
def valF (v : Int) (bs : List UInt8) : Int := bs.foldl (fun v c => 10 * v + (c.toNat : Int) - 48) v
def valR (bs : List UInt8) (at_ n : Nat) : Int := valF 0 ((bs.drop at_).take n)
def Dig (bs : List UInt8) (at_ n : Nat) : Prop := at_ + n ≤ bs.length ∧ ∀ j (h : j < bs.length), at_ ≤ j → j < at_ + n → 48 ≤ (bs[j]).toNat ∧ (bs[j]).toNat ≤ 57
theorem valR_snoc (bs : List UInt8) (at_ k : Nat) (h : at_ + k < bs.length) : valR bs at_ (k + 1) = 10 * valR bs at_ k + ((bs[at_ + k]).toNat : Int) - 48 := by
  unfold valR valF
  have h1 : k < (bs.drop at_).length := by rw [List.length_drop]; omega
  rw [List.take_succ_eq_append_getElem h1, List.foldl_append]
  simp only [List.foldl_cons, List.foldl_nil, List.getElem_drop]
theorem valR_bd {bs : List UInt8} {at_ n : Nat} (h : Dig bs at_ n) : ∀ k, k ≤ n → 0 ≤ valR bs at_ k ∧ valR bs at_ k < 10 ^ k
  | 0, _ => by simp [valR, valF]
  | k + 1, hk => by
    have ih := valR_bd h k (by omega)
    have hd := h.2 (at_ + k) (by have := h.1; omega) (by omega) (by omega)
    rw [valR_snoc bs at_ k (by have := h.1; omega), Int.pow_succ]
    omega
theorem value_any (w : World) (v : Value) (L : List ByteArray) (bs : List UInt8) (hv : Ltr w v L) (hS : Sg L bs) (at_ n : Nat) (hd : Dig bs at_ n) (hn : n ≤ 4) (h0 : 0 < L.length) (hl : at_ ≤ 2000) (R : Int) (hR : valR bs at_ n = R) (x y : Int) (hx : x = (at_ : Int)) (hy : y = (n : Int)) :
    Calls Tryd.prog 49 #[v, .int .i64 x, .int .i64 y] w fun e w' => e = .returned (.int .i64 R) ∧ w = w' := by
  subst hx; subst hy
  obtain ⟨g, c, rfl, hc, hg, hcell⟩ := hv.at h0
  have hle := hd.1
  have hlen := hS.len
  have HC := Lib.hid hcell
  have HV := Lib.hid hv
  have HR := Lib.hid hR
  have HS := Lib.hid hS
  have HL := Lib.hid hlen
  have hat : at_ ≤ 1000000 := by omega
  clear hcell hv hR hlen
  go_enter Tryd.func49, Tryd.ntmps49
  go_wp2
  go_loop [7, 8] (fun s i => ∃ k : Nat, k ≤ n ∧ i = .int .i64 ((at_ + k : Nat) : Int) ∧ s = .int .i64 (valR bs at_ k)) (fun _ i => at_ + n - (intOf i).toNat)
  case atStart => exact ⟨0, Nat.zero_le _, rfl, rfl⟩
  case round =>
    obtain ⟨k, hk, rfl, rfl⟩ := hrel
    have hb := valR_bd hd k hk
    have hb4 : valR bs at_ k < 10000 := by
      have : (10 : Int) ^ k ≤ 10 ^ 4 := by
        have : k = 0 ∨ k = 1 ∨ k = 2 ∨ k = 3 ∨ k = 4 := by omega
        rcases this with rfl | rfl | rfl | rfl | rfl <;> decide
      have h4 : (10 : Int) ^ 4 = 10000 := by decide
      omega
    by_cases hlt : k < n
    · have hL := HL.out
      have hin : at_ + k < L.length := by omega
      obtain ⟨hbl, hget⟩ := HS.out.get (at_ + k) hin
      have hcl := HC.out (at_ + k) hin
      rw [hget] at hcl
      have hdd := hd.2 (at_ + k) hbl (by omega) (by omega)
      have HN := Lib.hid (valR_snoc bs at_ k hbl)
      generalize valR bs at_ k = vv at *
      generalize bs[at_ + k] = cc at *
      obtain ⟨S1, hS1⟩ : ∃ S1 : ByteArray, (⟨#[cc]⟩ : ByteArray) = S1 := ⟨_, rfl⟩
      have hz0 : ∀ (h : 0 < S1.size), (S1[0]'h).toNat = cc.toNat := fun h => by subst hS1; rfl
      have hz1 : 0 < S1.size := by subst hS1; exact Nat.one_pos
      rw [hS1] at hcl
      clear hS1
      generalize cc.toNat = cv at *
      generalize hp : at_ + k = pp at *
      have HP := Lib.hid hp
      clear hget hL
      have hpl : (pp : Int) < (at_ : Int) + (n : Int) := by omega
      have hpi : (pp : Int) < (L.length : Int) := by omega
      have hppb : pp ≤ 1000000 := by omega
      clear hp
      go_wp2
      go_round
      case rel => exact ⟨k + 1, by omega, by have := HP.out; go_num, by rw [HN.out]⟩
      case measure => have := HP.out; simp [intOf]; omega
    · obtain rfl : k = n := by omega
      have hpl : ¬ (((at_ + k : Nat) : Int)) < (at_ : Int) + (k : Int) := by omega
      rw [HR.out]
      go_wp2
      go_ret
      exact ⟨rfl, rfl⟩
end Go.Proofs.YtkkmjadkagpihaaDoor
