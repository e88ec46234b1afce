/- What an address's local part between signs says, and how it is laid there. Plain facts. -/
import Derived.Test.YtmolifgjghbfaaaDoorP1
import Derived.Test.YtmolifgjghbfaaaDoorA5
namespace Go.Proofs.YtmolifgjghbfaaaDoor
open Go.RowKit

theorem enc_small (r : Nat) (h : r < 128) : Lib.encodeRune (r : Int) = [UInt8.ofNat r] := by
  unfold Lib.encodeRune
  rw [Lib.encodeRuneZ_one (by omega) (by omega)]
  simp
theorem enc_byte (b : UInt8) (h : b.toNat < 128) : Lib.encodeRune (b.toNat : Int) = [b] := by
  rw [enc_small _ h]; simp
theorem lets_at (s : ByteArray) (pos : Nat) (b : UInt8) (t : List UInt8) (h : s.data.toList.drop pos = b :: t) (hb : b.toNat < 128) :
    pos < s.size ∧ lets s pos = (pos, b.toNat, 1) :: lets s (pos + 1) ∧ s.data.toList.drop (pos + 1) = t := by
  have hp : pos < s.size := by
    rw [Lib.size_eq]
    rcases Nat.lt_or_ge pos s.data.toList.length with h' | h'
    · exact h'
    · rw [List.drop_eq_nil_of_le h'] at h; cases h
  have hp' : pos < s.data.toList.length := by rw [← Lib.size_eq]; exact hp
  rw [List.drop_eq_getElem_cons hp'] at h
  injection h with h1 h2
  have hg : s[pos] = b := h1
  have hd := dec_ascii s pos hp (by rw [hg]; exact hb)
  rw [hg] at hd
  refine ⟨hp, ?_, h2⟩
  rw [lets_cons s pos hp, hd]
theorem lets_none (s : ByteArray) (pos : Nat) (h : s.data.toList.drop pos = []) : s.size ≤ pos := by
  rw [Lib.size_eq]
  rcases Nat.lt_or_ge pos s.data.toList.length with h' | h'
  · rw [List.drop_eq_getElem_cons h'] at h; cases h
  · exact h'

theorem next3 (r : Nat) : nextF 3 0 r = nextSignedF r := rfl
theorem next4 (r : Nat) : nextF 4 0 r = if r = 34 ∨ r = 92 then 3 else 9 := rfl

theorem unqGo_step (p r k : Nat) (t : List (Nat × Nat × Nat)) (acc : List UInt8) (pl : Nat) (esc : Bool) :
    unqGo ((p, r, k) :: t) acc pl esc = if quotesR p r k esc = false then ([], pl, 4)
    else if p = 0 then unqGo t acc (pl + 1) esc
    else if esc = true ∨ (r ≠ 34 ∧ r ≠ 92) then unqGo t (acc ++ Lib.encodeRune (r : Int)) (pl + 1) false
    else if r = 92 then unqGo t acc (pl + 1) true
    else if 1024 < acc.length then ([], 0, 6) else (acc, p + 1, 0) := rfl
theorem toNat_ne {b : UInt8} {n : Nat} (hn : n < 256) (h : b ≠ UInt8.ofNat n) : b.toNat ≠ n := by
  intro e; apply h; apply UInt8.toNat_inj.1; rw [e]; simp; omega
/-- Unquote of what stands between signs. -/
theorem unq_say (s : ByteArray) : ∀ (a : List UInt8) (pos far : Nat) (x acc : List UInt8) (pl : Nat), s.data.toList.drop pos = a → 0 < pos → (far = 3 ∨ far = 4) → sayF far a = some x →
    unqGo (lets s pos) acc pl (decide (far = 4)) = if 1024 < (acc ++ x).length then ([], 0, 6) else (acc ++ x, s.size, 0) := by
  intro a
  induction a with
  | nil =>
    intro pos far x acc pl _ _ hf h
    unfold sayF at h
    rw [if_neg (by omega)] at h; cases h
  | cons b t ih =>
    intro pos far x acc pl hd hpos hf h
    unfold sayF at h
    split at h
    · cases h
    · rename_i hn
      obtain ⟨y, hy, rfl⟩ := Option.map_eq_some_iff.1 h
      have hlow : b.toNat < 128 := by
        rcases Nat.lt_or_ge b.toNat 127 with h' | h'
        · omega
        · exact absurd (Or.inl (next_high far 0 b.toNat h')) hn
      obtain ⟨hp, hl, hd2⟩ := lets_at s pos b t hd hlow
      rw [hl, unqGo_step]
      rcases hf with rfl | rfl
      · rw [next3] at hn hy
        have hpr : quotesR pos b.toNat 1 (decide ((3 : Nat) = 4)) = true := by
          unfold quotesR plainR
          rw [if_neg (by omega), if_neg (by decide), if_neg (by omega)]
          unfold nextSignedF at hn
          by_cases h34 : b.toNat = 34
          · rw [h34]; rfl
          by_cases h92 : b.toNat = 92
          · rw [h92]; rfl
          rw [if_neg h34, if_neg h92] at hn
          by_cases hpr : printR b.toNat = true
          · have := print_low hpr
            simp; omega
          · rw [if_neg hpr] at hn; omega
        rw [hpr, if_neg (by simp), if_neg (by omega)]
        unfold nextSignedF at hn hy
        by_cases h34 : b.toNat = 34
        · have hb : b = 34 := UInt8.toNat_inj.1 h34
          rw [if_pos h34] at hy
          obtain ⟨ht, rfl⟩ := say_end t y hy
          rw [if_neg (by rw [h34]; simp), if_neg (by omega)]
          have hk : keepF 3 b = [] := by unfold keepF; rw [if_pos (Or.inr ⟨rfl, Or.inl hb⟩)]
          rw [hk, List.append_nil, List.append_nil]
          rw [ht] at hd2
          have := lets_none s (pos + 1) hd2
          rw [show pos + 1 = s.size by omega]
        by_cases h92 : b.toNat = 92
        · have hb : b = 92 := UInt8.toNat_inj.1 h92
          rw [if_neg h34, if_pos h92] at hy
          rw [if_neg (by rw [h92]; simp), if_pos h92]
          have hk : keepF 3 b = [] := by unfold keepF; rw [if_pos (Or.inr ⟨rfl, Or.inr hb⟩)]
          rw [hk, List.nil_append]
          exact ih (pos + 1) 4 y acc (pl + 1) hd2 (by omega) (Or.inr rfl) hy
        · rw [if_neg h34, if_neg h92] at hy hn
          by_cases hpr : printR b.toNat = true
          · rw [if_pos hpr] at hy
            rw [if_pos (Or.inr ⟨h34, h92⟩), enc_byte b hlow]
            have hk : keepF 3 b = [b] := by
              unfold keepF
              rw [if_neg]
              rintro (⟨h, _⟩ | ⟨_, h | h⟩)
              · omega
              · exact h34 (by rw [h]; rfl)
              · exact h92 (by rw [h]; rfl)
            rw [hk, ← List.append_assoc]
            exact ih (pos + 1) 3 y (acc ++ [b]) (pl + 1) hd2 (by omega) (Or.inl rfl) hy
          · rw [if_neg hpr] at hn; omega
      · rw [next4] at hn hy
        by_cases hb : b.toNat = 34 ∨ b.toNat = 92
        · rw [if_pos hb] at hy
          have hq : quotesR pos b.toNat 1 (decide ((4 : Nat) = 4)) = true := by
            unfold quotesR
            rw [if_neg (by omega), if_pos (by decide)]
            simpa using hb
          rw [hq, if_neg (by simp), if_neg (by omega), if_pos (Or.inl (by decide)), enc_byte b hlow]
          have hk : keepF 4 b = [b] := by unfold keepF; rw [if_neg (by omega)]
          rw [hk, ← List.append_assoc]
          exact ih (pos + 1) 3 y (acc ++ [b]) (pl + 1) hd2 (by omega) (Or.inl rfl) hy
        · rw [if_neg hb] at hn; omega
/-- Unquote of a local part between signs. -/
theorem unq_local (a : ByteArray) (t x : List UInt8) (ha : a.data.toList = 34 :: t) (h : sayF 0 (34 :: t) = some x) : unqF a = if 1024 < x.length then ([], 0, 6) else (x, a.size, 0) := by
  obtain ⟨hp, hl, hd2⟩ := lets_at a 0 34 t (by rw [List.drop_zero]; exact ha) (by decide)
  unfold unqF
  rw [hl, unqGo_step, show quotesR 0 (34 : UInt8).toNat 1 false = true from rfl, if_neg (by simp), if_pos rfl]
  exact unq_say a t 1 3 x [] 1 hd2 (by omega) (Or.inl rfl) (say_quote t x h)

/-- What stands behind the address in a piece of text, as the code takes it apart. -/
def partF (a d : List UInt8) : Took := if a.head? = some 34 then (if 1024 < ((sayF 0 a).getD []).length then ([], [], 0, 6) else finF ((sayF 0 a).getD []) d) else finF a d
theorem part_fin (a d x : List UInt8) (h : sayF 0 a = some x) : partF a d = finF x d := by
  unfold partF
  split
  · rw [h]
    simp only [Option.getD_some]
    split
    · unfold finF; rw [if_pos (by omega)]
    · rfl
  · rename_i hh
    cases a with
    | nil => unfold sayF at h; rw [if_neg (by omega)] at h; cases h
    | cons b t =>
      rw [say_plain b t x (by intro e; apply hh; rw [e]; rfl) h]
theorem head34 (a : List UInt8) (h : a.head? = some 34) : ∃ t, a = 34 :: t := by
  cases a with
  | nil => cases h
  | cons b t => injection h with h; subst h; exact ⟨t, rfl⟩
end Go.Proofs.YtmolifgjghbfaaaDoor
