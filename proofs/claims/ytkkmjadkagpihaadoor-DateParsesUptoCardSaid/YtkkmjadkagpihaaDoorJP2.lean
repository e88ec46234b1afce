/- Date: the code's whole reading against the patterns: plain. -/
import Derived.Test.YtkkmjadkagpihaaDoorJP1
import Derived.Test.YtkkmjadkagpihaaDoorJ24
namespace Go.Proofs.YtkkmjadkagpihaaDoor
open Go Go.RowKit

/-- Where a stamp stands behind a pattern's beginning. -/
theorem Run.len {bs pre : List UInt8} {p : Nat} {st : Int} (h : Run bs pre p st) : p ≤ pre.length := h.at_.pl
/-- A sign of its own. -/
theorem sign_tab : ∀ s, s = 32 ∨ s = 44 ∨ s = 45 ∨ s = 58 → ∀ c, c < 256 → decide (0 ≤ Lib.indexByte (low [UInt8.ofNat s]) (lowB (UInt8.ofNat c))) = decide (UInt8.ofNat c = UInt8.ofNat s) := by
  rintro s (rfl | rfl | rfl | rfl) <;> decide +kernel
theorem Run.sign {t : ByteArray} {bs pre : List UInt8} {p : Nat} {st : Int} (hbs : t.data.toList = bs) (h : Run bs pre p st) (s : Nat) (hs : s = 32 ∨ s = 44 ∨ s = 45 ∨ s = 58) :
    Run bs (pre ++ [UInt8.ofNat s]) (oneR t [UInt8.ofNat s] p st).2.1 (oneR t [UInt8.ofNat s] p st).2.2 ∧
      ((oneR t [UInt8.ofNat s] p st).2.1 = pre.length + 1 → p = pre.length ∧ p < bs.length ∧ nb bs p = UInt8.ofNat s) := by
  have hfit : ∀ q, fitB bs q (UInt8.ofNat s) = decide (nb bs q = UInt8.ofNat s) := by
    intro q
    rcases hs with rfl | rfl | rfl | rfl <;> rfl
  have H := h.one hbs [UInt8.ofNat s] (UInt8.ofNat s) (fun _ _ => by
    have := sign_tab s hs (nb bs p).toNat (nb bs p).toNat_lt
    rw [UInt8.ofNat_toNat] at this
    rw [hfit, this])
  refine ⟨H.1, fun e => ?_⟩
  obtain ⟨h1, h2, h3, _⟩ := H.2 e
  rw [hfit] at h3
  exact ⟨h1, h2, of_decide_eq_true h3⟩
theorem isR_run {t : ByteArray} {bs : List UInt8} {p : Nat} (hbs : t.data.toList = bs) (g : List UInt8) : isR t g p = if p < bs.length then decide (0 ≤ Lib.indexByte g (nb bs p)) else false := by
  subst hbs
  unfold isR
  by_cases h : p < t.size
  · rw [if_pos h, nb_get (by rw [← size_toList]; exact h), if_pos (by rw [← size_toList]; exact h)]
  · rw [if_neg h, if_neg (by rw [← size_toList]; exact h)]
theorem fig_tab : ∀ c, c < 256 → decide (0 ≤ Lib.indexByte figL (UInt8.ofNat c)) = decide (48 ≤ c ∧ c < 48 + 10) := by decide +kernel
theorem isR_fig {t : ByteArray} {bs : List UInt8} {p : Nat} (hbs : t.data.toList = bs) (hp : p < bs.length) : isR t figL p = fitB bs p 57 := by
  have h := fig_tab (nb bs p).toNat (nb bs p).toNat_lt
  rw [UInt8.ofNat_toNat] at h
  rw [isR_run hbs, if_pos hp, h]
  rfl
theorem one_tab : ∀ s, s = 32 ∨ s = 58 → ∀ c, c < 256 → decide (0 ≤ Lib.indexByte [UInt8.ofNat s] (UInt8.ofNat c)) = decide (UInt8.ofNat c = UInt8.ofNat s) := by
  rintro s (rfl | rfl) <;> decide +kernel
theorem isR_sign {t : ByteArray} {bs : List UInt8} {p : Nat} (hbs : t.data.toList = bs) (hp : p < bs.length) (s : Nat) (hs : s = 32 ∨ s = 58) : isR t [UInt8.ofNat s] p = fitB bs p (UInt8.ofNat s) := by
  have h := one_tab s hs (nb bs p).toNat (nb bs p).toNat_lt
  rw [UInt8.ofNat_toNat] at h
  rw [isR_run hbs, if_pos hp, h]
  rcases hs with rfl | rfl <;> rfl
/-- Of a space, a digit or another beginning no two stand for a sign. -/
theorem digit_no {bs : List UInt8} {q : Nat} (h : fitB bs q 57 = true) : fitB bs q 32 = false ∧ fitB bs q 45 = false ∧ fitB bs q 58 = false ∧ (¬ isA (nb bs (q - 1)) → q = 0 ∨ True) := by
  have h' : digB (nb bs q) 10 = true := h
  have a := of_decide_eq_true h'
  refine ⟨?_, ?_, ?_, fun _ => Or.inr trivial⟩
  all_goals
    show decide (nb bs q = _) = false
    apply decide_eq_false
    intro e
    rw [e] at a
    exact absurd a (by decide)
def zoneP : Nat → List UInt8
  | 0 => [43, 50, 51, 53, 57]
  | 1 => [45, 50, 51, 53, 57]
  | 2 => [71, 109, 84]
  | _ => [85, 84]
theorem one_hit {t : ByteArray} {bs : List UInt8} (hbs : t.data.toList = bs) (g : List UInt8) {p : Nat} (hp : p < bs.length) (i : Nat) (hi : Lib.indexByte (low g) (lowB (nb bs p)) = (i : Int)) : oneR t g p 0 = ((g.drop i).take 1, p + 1, 0) := by
  subst hbs
  unfold oneR
  rw [if_pos (by rw [size_toList]; exact hp), if_pos rfl, nb_get hp, hi, if_pos (by omega)]
  rfl
theorem one_no {t : ByteArray} {bs : List UInt8} (hbs : t.data.toList = bs) (g : List UInt8) {p : Nat} (hp : p < bs.length) (hi : ¬ 0 ≤ Lib.indexByte (low g) (lowB (nb bs p))) : oneR t g p 0 = ([], p, 4) := by
  subst hbs
  unfold oneR
  rw [if_pos (by rw [size_toList]; exact hp), if_pos rfl, nb_get hp, if_neg hi]
theorem one_past {t : ByteArray} {bs : List UInt8} (hbs : t.data.toList = bs) (g : List UInt8) {p : Nat} {st : Int} (hp : ¬ p < bs.length ∨ st ≠ 0) : (oneR t g p st).1 = [] := by
  subst hbs
  unfold oneR
  by_cases h : p < t.size
  · rw [if_pos h, if_neg]
    rcases hp with e | e
    · exact absurd (by rw [← size_toList]; exact h) e
    · exact e
  · rw [if_neg h]
theorem Run.hit {bs pre : List UInt8} {p : Nat} {st : Int} (h : Run bs pre p st) (hp : p = pre.length) (hb : p < bs.length) (s : UInt8) (hf : fitB bs p s = true) : Run bs (pre ++ [s]) (p + 1) 0 := by
  refine ⟨⟨by simp; omega, by omega, fun j hj => ?_, fun a => ?_⟩, ?_⟩
  · by_cases e : j < p
    · rw [nb_left _ _ _ (by omega)]; exact h.at_.fit j e
    · have : j = pre.length := by omega
      subst this
      rw [nb_at, ← hp]; exact hf
  · simp at a; omega
  · rw [if_pos (by simp; omega)]
theorem low_tab : ∀ s, s = 77 ∨ s = 84 → ∀ c, c < 256 → decide (0 ≤ Lib.indexByte (low [UInt8.ofNat s]) (lowB (UInt8.ofNat c))) = decide (lowB (UInt8.ofNat c) = UInt8.ofNat (s + 32)) := by
  rintro s (rfl | rfl) <;> decide +kernel
theorem Run.low77 {t : ByteArray} {bs pre : List UInt8} {p : Nat} {st : Int} (hbs : t.data.toList = bs) (h : Run bs pre p st) :
    Run bs (pre ++ [109]) (oneR t [77] p st).2.1 (oneR t [77] p st).2.2 ∧ ((oneR t [77] p st).2.1 = pre.length + 1 → p = pre.length ∧ p < bs.length) := by
  have H := h.one hbs [77] 109 (fun _ _ => by
    have := low_tab 77 (Or.inl rfl) (nb bs p).toNat (nb bs p).toNat_lt
    rw [UInt8.ofNat_toNat] at this
    exact this)
  exact ⟨H.1, fun e => ⟨(H.2 e).1, (H.2 e).2.1⟩⟩
theorem Run.low84 {t : ByteArray} {bs pre : List UInt8} {p : Nat} {st : Int} (hbs : t.data.toList = bs) (h : Run bs pre p st) :
    Run bs (pre ++ [84]) (oneR t [84] p st).2.1 (oneR t [84] p st).2.2 ∧ ((oneR t [84] p st).2.1 = pre.length + 1 → p = pre.length ∧ p < bs.length) := by
  have H := h.one hbs [84] 84 (fun _ _ => by
    have := low_tab 84 (Or.inr rfl) (nb bs p).toNat (nb bs p).toNat_lt
    rw [UInt8.ofNat_toNat] at this
    exact this)
  exact ⟨H.1, fun e => ⟨(H.2 e).1, (H.2 e).2.1⟩⟩
theorem zone_tab4 : ∀ c, c < 256 → Lib.indexByte (low [43, 45, 71, 85]) (lowB (UInt8.ofNat c)) = if UInt8.ofNat c = 43 then 0 else if UInt8.ofNat c = 45 then 1 else if lowB (UInt8.ofNat c) = 103 then 2 else if lowB (UInt8.ofNat c) = 117 then 3 else -1 := by decide +kernel
theorem zone_tab2 : ∀ c, c < 256 → Lib.indexByte (low [43, 45]) (lowB (UInt8.ofNat c)) = if UInt8.ofNat c = 43 then 0 else if UInt8.ofNat c = 45 then 1 else -1 := by decide +kernel
theorem low_g : ∀ c, c < 256 → (lowB (UInt8.ofNat c) = 103 → UInt8.ofNat c = 71 ∨ UInt8.ofNat c = 103) ∧ (lowB (UInt8.ofNat c) = 117 → UInt8.ofNat c = 85 ∨ UInt8.ofNat c = 117) := by decide +kernel

/-- What is known of a zone that was read. -/
structure ZoneR (bs : List UInt8) (p z : Nat) (zone : Int) : Prop where
  lt : p < bs.length
  cs : (nb bs p = 43 ∨ nb bs p = 45) ∧ Dig bs (p + 1) 2 ∧ Dig bs (p + 3) 2 ∨ nb bs p = 71 ∨ nb bs p = 103 ∨ nb bs p = 85 ∨ nb bs p = 117
  off : offR bs p (nb bs p) = zone
  lo : -1439 ≤ zone
  hi : zone ≤ 1439
structure PlaceR (bs pre : List UInt8) (nz : Nat) (s s' : Stp) : Prop where
  ex : ∃ z, z < nz ∧ Run bs (pre ++ zoneP z) s'.at_ s'.stop ∧ (s.at_ = pre.length → pre.length < bs.length → ∀ z', z' < nz → z' ≠ z → fitB bs pre.length (nb (zoneP z') 0) = false) ∧ (s'.at_ = pre.length + (zoneP z).length → s.at_ = pre.length ∧ ZoneR bs pre.length z s'.zone)
  year : s'.year = s.year
  month : s'.month = s.month
  day : s'.day = s.day
  weekly : s'.weekly = s.weekly
  week : s'.week = s.week
  clock : s'.clock = s.clock

theorem fit_zone (bs : List UInt8) (p z : Nat) (hz : z < 4) : fitB bs p (nb (zoneP z) 0) = if z = 0 then decide (nb bs p = 43) else if z = 1 then decide (nb bs p = 45) else if z = 2 then decide (lowB (nb bs p) = 103) else decide (lowB (nb bs p) = 117) := by
  rcases (show z = 0 ∨ z = 1 ∨ z = 2 ∨ z = 3 by omega) with rfl | rfl | rfl | rfl <;> rfl

theorem place_sign {t : ByteArray} {bs pre : List UInt8} (hbs : t.data.toList = bs) (g : List UInt8) (nz : Nat) (hg : g = [43, 45, 71, 85] ∧ nz = 4 ∨ g = [43, 45] ∧ nz = 2) (s : Stp) (h : Run bs pre s.at_ s.stop) (hz : s.zone = 0) (hp : s.at_ = pre.length) (hb : pre.length < bs.length) (sg : UInt8) (hc : nb bs pre.length = sg) (hsg : sg = 43 ∨ sg = 45) : PlaceR bs pre nz s (placeS t g s) := by
  have hst : s.stop = 0 := by rw [h.st_, if_pos hp]
  have hlc : lowB sg = sg := by rcases hsg with rfl | rfl <;> decide
  have h1 := h.hit hp (by omega) sg (by rw [hp]; rcases hsg with rfl | rfl <;> exact decide_eq_true hc)
  obtain ⟨sgn, hsgn⟩ : ∃ z : Nat, z < 2 ∧ sg = (if z = 0 then 43 else 45) := by
    rcases hsg with rfl | rfl
    · exact ⟨0, by omega, rfl⟩
    · exact ⟨1, by omega, rfl⟩
  have hone : oneR t g s.at_ s.stop = ([sg], pre.length + 1, 0) := by
    rw [hst]
    have hi : Lib.indexByte (low g) (lowB (nb bs s.at_)) = (sgn : Int) ∧ (g.drop sgn).take 1 = [sg] := by
      rw [hp, hc]
      rcases hg with ⟨rfl, _⟩ | ⟨rfl, _⟩ <;> rcases hsg with rfl | rfl <;> rcases (show sgn = 0 ∨ sgn = 1 by omega) with rfl | rfl <;> first | exact ⟨by decide +kernel, by decide +kernel⟩ | exact absurd hsgn.2 (by decide)
    rw [one_hit hbs g (by omega) sgn hi.1, hi.2, hp]
  have e1 : oneS t g s = s.up (pre.length + 1) 0 := by unfold oneS; rw [hone]
  have e2 : oneV t g s = [sg] := by unfold oneV; rw [hone]
  rw [hp] at h1
  have H := h1.b24 hbs
  have K := H.1.b60 hbs
  obtain ⟨B, hB⟩ : ∃ B, b24R t (pre.length + 1) 0 = B := ⟨_, rfl⟩
  rw [hB] at H K
  obtain ⟨C, hC⟩ : ∃ C, b60R t B.2.1 B.2.2 = C := ⟨_, rfl⟩
  rw [hC] at K
  have hfork : s.at_ = pre.length → pre.length < bs.length → ∀ z', z' < nz → z' ≠ sgn → fitB bs pre.length (nb (zoneP z') 0) = false := by
    intro _ _ z' hz' hne
    rw [fit_zone _ _ _ (by rcases hg with ⟨_, rfl⟩ | ⟨_, rfl⟩ <;> omega), hc]
    rcases (show z' = 0 ∨ z' = 1 ∨ z' = 2 ∨ z' = 3 by rcases hg with ⟨_, rfl⟩ | ⟨_, rfl⟩ <;> omega) with rfl | rfl | rfl | rfl <;> rcases (show sgn = 0 ∨ sgn = 1 by omega) with rfl | rfl <;> simp at hne <;> (rw [hsgn.2]; decide)
  have hsplit : pre ++ zoneP sgn = pre ++ [sg] ++ [50, 51] ++ [53, 57] := by
    rcases (show sgn = 0 ∨ sgn = 1 by omega) with rfl | rfl <;> (rw [hsgn.2]; simp [zoneP])
  have hzl : (zoneP sgn).length = 5 := by rcases (show sgn = 0 ∨ sgn = 1 by omega) with rfl | rfl <;> rfl
  have hl1 : (pre ++ [sg]).length = pre.length + 1 := by simp
  have hl2 : (pre ++ [sg] ++ [50, 51]).length = pre.length + 3 := by simp
  have hfull : C.2.1 = pre.length + (zoneP sgn).length → s.at_ = pre.length ∧ ZoneR bs pre.length sgn (if sg = 43 then 60 * B.1 + C.1 else -60 * B.1 - C.1) := by
    intro e
    obtain ⟨a1, a2, a3, a4, a5⟩ := K.2 (by omega)
    rw [hl2] at a1
    obtain ⟨b1, b2, b3, b4, b5⟩ := H.2 (by omega)
    rw [a1] at a2 a3 a4 a5
    refine ⟨hp, hb, Or.inl ⟨by rw [hc]; exact hsg, b2, a2⟩, ?_, ?_, ?_⟩
    · rw [hc, a3, b3]
      unfold offR
      rcases hsg with rfl | rfl
      · rw [if_pos rfl, if_pos rfl]
      · rw [if_neg (by decide), if_pos rfl, if_neg (by decide)]; omega
    · split <;> omega
    · split <;> omega
  refine ⟨⟨sgn, by rcases hg with ⟨_, rfl⟩ | ⟨_, rfl⟩ <;> omega, ?_, hfork, ?_⟩, ?_, ?_, ?_, ?_, ?_, ?_⟩
  all_goals
    unfold placeS
    simp only [e1, e2]
    rcases hsg with rfl | rfl
    · rw [if_pos rfl]
      unfold plus2 b60S b60V b24S b24V Stp.up
      simp only [hB, hC] <;> first | rfl | (rw [hsplit]; exact K.1) | exact hfull
    · rw [if_neg (by decide), if_pos rfl]
      unfold minus2 b60S b60V b24S b24V Stp.up
      simp only [hB, hC] <;> first | rfl | (rw [hsplit]; exact K.1) | exact hfull

theorem tab4 (c : UInt8) : Lib.indexByte (low [43, 45, 71, 85]) (lowB c) = if c = 43 then 0 else if c = 45 then 1 else if lowB c = 103 then 2 else if lowB c = 117 then 3 else -1 := by
  have h := zone_tab4 c.toNat c.toNat_lt
  rwa [UInt8.ofNat_toNat] at h
theorem tab2 (c : UInt8) : Lib.indexByte (low [43, 45]) (lowB c) = if c = 43 then 0 else if c = 45 then 1 else -1 := by
  have h := zone_tab2 c.toNat c.toNat_lt
  rwa [UInt8.ofNat_toNat] at h
theorem low_gu (c : UInt8) : (lowB c = 103 → c = 71 ∨ c = 103) ∧ (lowB c = 117 → c = 85 ∨ c = 117) := by
  have h := low_g c.toNat c.toNat_lt
  rwa [UInt8.ofNat_toNat] at h
theorem place_G {t : ByteArray} {bs pre : List UInt8} (hbs : t.data.toList = bs) (s : Stp) (h : Run bs pre s.at_ s.stop) (hz : s.zone = 0) (hp : s.at_ = pre.length) (hb : pre.length < bs.length) (hc : lowB (nb bs pre.length) = 103) : PlaceR bs pre 4 s (placeS t [43, 45, 71, 85] s) := by
  have hst : s.stop = 0 := by rw [h.st_, if_pos hp]
  have hcc := (low_gu _).1 hc
  have n43 : nb bs pre.length ≠ 43 := by rcases hcc with e | e <;> rw [e] <;> decide
  have n45 : nb bs pre.length ≠ 45 := by rcases hcc with e | e <;> rw [e] <;> decide
  have hone : oneR t [43, 45, 71, 85] s.at_ s.stop = ([71], pre.length + 1, 0) := by
    rw [hst, one_hit hbs _ (by omega) 2 (by rw [hp, tab4, if_neg n43, if_neg n45, if_pos hc]; rfl), hp]; rfl
  have h1 := h.hit hp (by omega) 71 (by rw [hp]; exact decide_eq_true hc)
  rw [hp] at h1
  have e1 : oneS t [43, 45, 71, 85] s = s.up (pre.length + 1) 0 := by unfold oneS; rw [hone]
  have e2 : oneV t [43, 45, 71, 85] s = [71] := by unfold oneV; rw [hone]
  have H := h1.low77 hbs
  have K := H.1.low84 hbs
  obtain ⟨B, hB⟩ : ∃ B, oneR t [77] (pre.length + 1) 0 = B := ⟨_, rfl⟩
  rw [hB] at H K
  obtain ⟨C, hC⟩ : ∃ C, oneR t [84] B.2.1 B.2.2 = C := ⟨_, rfl⟩
  rw [hC] at K
  have hsplit : pre ++ zoneP 2 = pre ++ [71] ++ [109] ++ [84] := by simp [zoneP]
  have hres : placeS t [43, 45, 71, 85] s = s.up C.2.1 C.2.2 := by
    unfold placeS
    simp only [e1, e2]
    rw [if_neg (by decide), if_neg (by decide), if_pos (by decide)]
    unfold oneS Stp.up
    simp only [hB, hC]
  rw [hres]
  refine ⟨⟨2, by omega, by rw [hsplit]; exact K.1, fun _ _ z' hz' hne => ?_, fun e => ⟨hp, hb, Or.inr ?_, ?_, ?_, ?_⟩⟩, rfl, rfl, rfl, rfl, rfl, rfl⟩
  · rw [fit_zone _ _ _ hz']
    rcases (show z' = 0 ∨ z' = 1 ∨ z' = 3 by omega) with rfl | rfl | rfl
    · exact decide_eq_false n43
    · exact decide_eq_false n45
    · rw [hc]; rfl
  · rcases hcc with e | e
    · exact Or.inl e
    · exact Or.inr (Or.inl e)
  · unfold offR; rw [if_neg n43, if_neg n45]; exact hz.symm
  · show -1439 ≤ s.zone; omega
  · show s.zone ≤ 1439; omega
theorem place_U {t : ByteArray} {bs pre : List UInt8} (hbs : t.data.toList = bs) (s : Stp) (h : Run bs pre s.at_ s.stop) (hz : s.zone = 0) (hp : s.at_ = pre.length) (hb : pre.length < bs.length) (hc : lowB (nb bs pre.length) = 117) : PlaceR bs pre 4 s (placeS t [43, 45, 71, 85] s) := by
  have hst : s.stop = 0 := by rw [h.st_, if_pos hp]
  have hcc := (low_gu _).2 hc
  have n43 : nb bs pre.length ≠ 43 := by rcases hcc with e | e <;> rw [e] <;> decide
  have n45 : nb bs pre.length ≠ 45 := by rcases hcc with e | e <;> rw [e] <;> decide
  have n71 : lowB (nb bs pre.length) ≠ 103 := by rw [hc]; decide
  have hone : oneR t [43, 45, 71, 85] s.at_ s.stop = ([85], pre.length + 1, 0) := by
    rw [hst, one_hit hbs _ (by omega) 3 (by rw [hp, tab4, if_neg n43, if_neg n45, if_neg n71, if_pos hc]; rfl), hp]; rfl
  have h1 := h.hit hp (by omega) 85 (by rw [hp]; exact decide_eq_true hc)
  rw [hp] at h1
  have e1 : oneS t [43, 45, 71, 85] s = s.up (pre.length + 1) 0 := by unfold oneS; rw [hone]
  have e2 : oneV t [43, 45, 71, 85] s = [85] := by unfold oneV; rw [hone]
  have H := h1.low84 hbs
  obtain ⟨B, hB⟩ : ∃ B, oneR t [84] (pre.length + 1) 0 = B := ⟨_, rfl⟩
  rw [hB] at H
  have hsplit : pre ++ zoneP 3 = pre ++ [85] ++ [84] := by simp [zoneP]
  have hres : placeS t [43, 45, 71, 85] s = s.up B.2.1 B.2.2 := by
    unfold placeS
    simp only [e1, e2]
    rw [if_neg (by decide), if_neg (by decide), if_neg (by decide), if_pos (by decide)]
    unfold oneS Stp.up
    simp only [hB]
  rw [hres]
  refine ⟨⟨3, by omega, by rw [hsplit]; exact H.1, fun _ _ z' hz' hne => ?_, fun e => ⟨hp, hb, Or.inr ?_, ?_, ?_, ?_⟩⟩, rfl, rfl, rfl, rfl, rfl, rfl⟩
  · rw [fit_zone _ _ _ hz']
    rcases (show z' = 0 ∨ z' = 1 ∨ z' = 2 by omega) with rfl | rfl | rfl
    · exact decide_eq_false n43
    · exact decide_eq_false n45
    · exact decide_eq_false n71
  · rcases hcc with e | e
    · exact Or.inr (Or.inr (Or.inl e))
    · exact Or.inr (Or.inr (Or.inr e))
  · unfold offR; rw [if_neg n43, if_neg n45]; exact hz.symm
  · show -1439 ≤ s.zone; omega
  · show s.zone ≤ 1439; omega
/-- A zone, whatever stands there. -/
theorem Run.place {t : ByteArray} {bs pre : List UInt8} (hbs : t.data.toList = bs) (g : List UInt8) (nz : Nat) (hg : g = [43, 45, 71, 85] ∧ nz = 4 ∨ g = [43, 45] ∧ nz = 2) (s : Stp) (h : Run bs pre s.at_ s.stop) (hz : s.zone = 0) : PlaceR bs pre nz s (placeS t g s) := by
  by_cases hok : s.at_ = pre.length ∧ pre.length < bs.length
  · obtain ⟨hp, hb⟩ := hok
    have hst : s.stop = 0 := by rw [h.st_, if_pos hp]
    by_cases c43 : nb bs pre.length = 43
    · exact place_sign hbs g nz hg s h hz hp hb 43 c43 (Or.inl rfl)
    · by_cases c45 : nb bs pre.length = 45
      · exact place_sign hbs g nz hg s h hz hp hb 45 c45 (Or.inr rfl)
      · have hno : ∀ g', (¬ 0 ≤ Lib.indexByte (low g') (lowB (nb bs s.at_))) → (∀ z', z' < nz → fitB bs pre.length (nb (zoneP z') 0) = false) → g = g' → PlaceR bs pre nz s (placeS t g s) := by
          intro g' hi hf hgg
          subst hgg
          have hone : oneR t g s.at_ s.stop = ([], s.at_, 4) := by rw [hst]; exact one_no hbs g (by omega) hi
          have e1 : oneS t g s = s.up s.at_ 4 := by unfold oneS; rw [hone]
          have e2 : oneV t g s = [] := by unfold oneV; rw [hone]
          have hres : placeS t g s = s.up s.at_ 4 := by
            unfold placeS
            simp only [e1, e2]
            rw [if_neg (by decide), if_neg (by decide), if_neg (by decide), if_neg (by decide)]
          have h1 : Run bs (pre ++ [43]) s.at_ 4 := ⟨h.miss 43 fun a b => by rw [hp]; exact decide_eq_false c43, by rw [if_neg (by simp; omega), if_pos (by omega)]⟩
          have h2 := h1.part (by simp; omega) [50, 51, 53, 57]
          rw [List.append_assoc] at h2
          rw [hres]
          refine ⟨⟨0, by rcases hg with ⟨_, rfl⟩ | ⟨_, rfl⟩ <;> omega, h2, fun _ _ z' hz' _ => hf z' hz', fun e => ?_⟩, rfl, rfl, rfl, rfl, rfl, rfl⟩
          have e' : s.at_ = pre.length + 5 := e
          omega
        rcases hg with ⟨hg, rfl⟩ | ⟨hg, rfl⟩
        · by_cases c71 : lowB (nb bs pre.length) = 103
          · rw [hg]; exact place_G hbs s h hz hp hb c71
          · by_cases c85 : lowB (nb bs pre.length) = 117
            · rw [hg]; exact place_U hbs s h hz hp hb c85
            · refine hno _ (by rw [hp, tab4, if_neg c43, if_neg c45, if_neg c71, if_neg c85]; decide) (fun z' hz' => ?_) hg
              rw [fit_zone _ _ _ hz']
              rcases (show z' = 0 ∨ z' = 1 ∨ z' = 2 ∨ z' = 3 by omega) with rfl | rfl | rfl | rfl
              · exact decide_eq_false c43
              · exact decide_eq_false c45
              · exact decide_eq_false c71
              · exact decide_eq_false c85
        · refine hno _ (by rw [hp, tab2, if_neg c43, if_neg c45]; decide) (fun z' hz' => ?_) hg
          rw [fit_zone _ _ _ (by omega)]
          rcases (show z' = 0 ∨ z' = 1 by omega) with rfl | rfl
          · exact decide_eq_false c43
          · exact decide_eq_false c45
  · have H := h.one hbs g 43 (fun a b => absurd ⟨a, by omega⟩ hok)
    have hpast : ¬ s.at_ < bs.length ∨ s.stop ≠ 0 := by
      by_cases hb : s.at_ < bs.length
      · right
        rw [h.st_, if_neg (fun e => hok ⟨e, by omega⟩), if_pos hb]
        decide
      · exact Or.inl hb
    have e2 : oneV t g s = [] := one_past hbs g hpast
    have hres : placeS t g s = oneS t g s := by
      unfold placeS
      simp only [e2]
      rw [if_neg (by decide), if_neg (by decide), if_neg (by decide), if_neg (by decide)]
    have hne : (oneR t g s.at_ s.stop).2.1 ≠ pre.length + 1 := fun e => hok ⟨(H.2 e).1, by have := (H.2 e).2.1; have := (H.2 e).1; omega⟩
    have h2 := H.1.part (by simpa using hne) [50, 51, 53, 57]
    rw [List.append_assoc] at h2
    rw [hres]
    refine ⟨⟨0, by rcases hg with ⟨_, rfl⟩ | ⟨_, rfl⟩ <;> omega, h2, fun a b => absurd ⟨a, b⟩ hok, fun e => ?_⟩, rfl, rfl, rfl, rfl, rfl, rfl⟩
    have e' : (oneR t g s.at_ s.stop).2.1 = pre.length + 5 := e
    have hpl := H.1.at_.pl
    simp at hpl
    omega
/-- What a month and a year that were read tell. -/
structure MyR (bs pre : List UInt8) (sep : UInt8) (s s' : Stp) : Prop where
  run : Run bs (pre ++ [sep, 77, 77, 77, sep, 57, 57, 57, 57]) s'.at_ s'.stop
  full : s'.at_ = pre.length + 9 → s.at_ = pre.length ∧ pre.length + 9 ≤ bs.length ∧ idxF monthsL (low [nb bs (pre.length + 1), nb bs (pre.length + 2), nb bs (pre.length + 3)]) 0 12 + 1 = s'.month ∧ Dig bs (pre.length + 5) 4 ∧ s'.year = valR bs (pre.length + 5) 4
  day : s'.day = s.day
  weekly : s'.weekly = s.weekly
  week : s'.week = s.week
  clock : s'.clock = s.clock
  zone : s'.zone = s.zone
theorem Run.my {t : ByteArray} {bs pre : List UInt8} (hbs : t.data.toList = bs) (sep : Nat) (hsep : sep = 32 ∨ sep = 45) (s : Stp) (h : Run bs pre s.at_ s.stop) : MyR bs pre (UInt8.ofNat sep) s (monthYearS t [UInt8.ofNat sep] s) := by
  have hs4 : sep = 32 ∨ sep = 44 ∨ sep = 45 ∨ sep = 58 := by omega
  have hnA : ¬ isA (UInt8.ofNat sep) := by rcases hsep with rfl | rfl <;> decide
  have H1 := h.sign hbs sep hs4
  obtain ⟨g, hg⟩ : ∃ g, UInt8.ofNat sep = g := ⟨_, rfl⟩
  rw [hg] at H1 hnA ⊢
  obtain ⟨A, hA⟩ : ∃ A, oneR t [g] s.at_ s.stop = A := ⟨_, rfl⟩
  rw [hA] at H1
  have l1 : (pre ++ [g]).length = pre.length + 1 := by simp
  have H2 := H1.1.word hbs mon_words (fun e => Or.inr (by
    rw [l1] at e
    have := H1.2 e
    rw [l1, show pre.length + 1 - 1 = s.at_ by omega, this.2.2]
    exact hnA))
  obtain ⟨B, hB⟩ : ∃ B, wordR t 12 monthsL 3 [] A.2.1 A.2.2 = B := ⟨_, rfl⟩
  rw [hB, l1] at H2
  have H3 := H2.1.sign hbs sep hs4
  rw [hg] at H3
  obtain ⟨C, hC⟩ : ∃ C, oneR t [g] B.2.1 B.2.2 = C := ⟨_, rfl⟩
  have l2 : (pre ++ [g] ++ [77, 77, 77]).length = pre.length + 4 := by simp
  rw [hC, l2] at H3
  have H4 := H3.1.num hbs 4 0
  obtain ⟨D, hD⟩ : ∃ D, numR t 4 0 C.2.1 C.2.2 = D := ⟨_, rfl⟩
  have l3 : (pre ++ [g] ++ [77, 77, 77] ++ [g]).length = pre.length + 5 := by simp
  rw [hD, l3] at H4
  have hres : monthYearS t [g] s = ⟨D.2.1, D.2.2, D.1, 1 + (Lib.index monthsL B.1).tdiv 3, s.day, s.weekly, s.week, s.clock, s.zone⟩ := by
    unfold monthYearS myS2 myS1 numS numV wordS wordV oneS Stp.up
    simp only [hA, hB, hC, hD]
  rw [hres]
  refine ⟨?_, fun e => ?_, rfl, rfl, rfl, rfl, rfl⟩
  · have := H4.1
    rw [show pre ++ [g] ++ [77, 77, 77] ++ [g] ++ List.replicate 4 57 = pre ++ [g, 77, 77, 77, g, 57, 57, 57, 57] by simp [List.replicate]] at this
    exact this
  · have e' : D.2.1 = pre.length + 9 := e
    obtain ⟨a1, a2, a3⟩ := H4.2 (by omega)
    obtain ⟨b1, b2, b3⟩ := H3.2 (by omega)
    obtain ⟨c1, c2, c3, c4, c5⟩ := H2.2 (by omega)
    obtain ⟨d1, d2, d3⟩ := H1.2 (by omega)
    have hx := a2.1
    rw [a1] at a2 a3 hx
    refine ⟨d1, by omega, ?_, a2, a3⟩
    show idxF _ _ 0 12 + 1 = 1 + (Lib.index monthsL B.1).tdiv 3
    rw [show pre.length + 1 = A.2.1 by omega, show pre.length + 2 = A.2.1 + 1 by omega, show pre.length + 3 = A.2.1 + 2 by omega, c3]
    omega

structure HmR (bs pre : List UInt8) (s s' : Stp) : Prop where
  run : Run bs (pre ++ [50, 51, 58, 53, 57]) s'.at_ s'.stop
  full : s'.at_ = pre.length + 5 → s.at_ = pre.length ∧ Dig bs pre.length 2 ∧ Dig bs (pre.length + 3) 2 ∧ s'.clock = 3600 * valR bs pre.length 2 + 60 * valR bs (pre.length + 3) 2 ∧ 0 ≤ valR bs pre.length 2 ∧ valR bs pre.length 2 ≤ 23 ∧ 0 ≤ valR bs (pre.length + 3) 2 ∧ valR bs (pre.length + 3) 2 ≤ 59
  year : s'.year = s.year
  month : s'.month = s.month
  day : s'.day = s.day
  weekly : s'.weekly = s.weekly
  week : s'.week = s.week
  zone : s'.zone = s.zone
theorem Run.hm {t : ByteArray} {bs pre : List UInt8} (hbs : t.data.toList = bs) (s : Stp) (h : Run bs pre s.at_ s.stop) : HmR bs pre s (hourMinuteS t s) := by
  have H1 := h.b24 hbs
  obtain ⟨A, hA⟩ : ∃ A, b24R t s.at_ s.stop = A := ⟨_, rfl⟩
  rw [hA] at H1
  have H2 := H1.1.sign hbs 58 (by omega)
  rw [show UInt8.ofNat 58 = 58 from rfl] at H2
  obtain ⟨B, hB⟩ : ∃ B, oneR t [58] A.2.1 A.2.2 = B := ⟨_, rfl⟩
  have l1 : (pre ++ [50, 51]).length = pre.length + 2 := by simp
  rw [hB, l1] at H2
  have H3 := H2.1.b60 hbs
  obtain ⟨C, hC⟩ : ∃ C, b60R t B.2.1 B.2.2 = C := ⟨_, rfl⟩
  have l2 : (pre ++ [50, 51] ++ [58]).length = pre.length + 3 := by simp
  rw [hC, l2] at H3
  have hres : hourMinuteS t s = ⟨C.2.1, C.2.2, s.year, s.month, s.day, s.weekly, s.week, 3600 * A.1 + 60 * C.1, s.zone⟩ := by
    unfold hourMinuteS hmS2 hmS1 b60S b60V b24S b24V oneS Stp.up
    simp only [hA, hB, hC]
  rw [hres]
  refine ⟨?_, fun e => ?_, rfl, rfl, rfl, rfl, rfl, rfl⟩
  · have := H3.1
    rw [show pre ++ [50, 51] ++ [58] ++ [53, 57] = pre ++ [50, 51, 58, 53, 57] by simp] at this
    exact this
  · have e' : C.2.1 = pre.length + 5 := e
    obtain ⟨a1, a2, a3, a4, a5⟩ := H3.2 (by omega)
    obtain ⟨b1, b2, b3⟩ := H2.2 (by omega)
    obtain ⟨c1, c2, c3, c4, c5⟩ := H1.2 (by omega)
    rw [a1] at a2 a3 a4 a5
    rw [c1] at c2 c3 c4 c5
    refine ⟨c1, c2, a2, ?_, c4, c5, a4, a5⟩
    show 3600 * A.1 + 60 * C.1 = _
    rw [c3, a3]

structure ScR (bs pre : List UInt8) (s s' : Stp) : Prop where
  run : Run bs (pre ++ [58, 53, 57]) s'.at_ s'.stop
  full : s'.at_ = pre.length + 3 → s.at_ = pre.length ∧ nb bs pre.length = 58 ∧ Dig bs (pre.length + 1) 2 ∧ s'.clock = s.clock + valR bs (pre.length + 1) 2 ∧ 0 ≤ valR bs (pre.length + 1) 2 ∧ valR bs (pre.length + 1) 2 ≤ 59
  year : s'.year = s.year
  month : s'.month = s.month
  day : s'.day = s.day
  weekly : s'.weekly = s.weekly
  week : s'.week = s.week
  zone : s'.zone = s.zone
theorem Run.sec {t : ByteArray} {bs pre : List UInt8} (hbs : t.data.toList = bs) (s : Stp) (h : Run bs pre s.at_ s.stop) : ScR bs pre s (secondS t s) := by
  have H2 := h.sign hbs 58 (by omega)
  rw [show UInt8.ofNat 58 = 58 from rfl] at H2
  obtain ⟨B, hB⟩ : ∃ B, oneR t [58] s.at_ s.stop = B := ⟨_, rfl⟩
  rw [hB] at H2
  have H3 := H2.1.b60 hbs
  obtain ⟨C, hC⟩ : ∃ C, b60R t B.2.1 B.2.2 = C := ⟨_, rfl⟩
  have l2 : (pre ++ [58]).length = pre.length + 1 := by simp
  rw [hC, l2] at H3
  have hres : secondS t s = ⟨C.2.1, C.2.2, s.year, s.month, s.day, s.weekly, s.week, s.clock + C.1, s.zone⟩ := by
    unfold secondS b60S b60V oneS Stp.up
    simp only [hB, hC]
  rw [hres]
  refine ⟨?_, fun e => ?_, rfl, rfl, rfl, rfl, rfl, rfl⟩
  · have := H3.1
    rw [show pre ++ [58] ++ [53, 57] = pre ++ [58, 53, 57] by simp] at this
    exact this
  · have e' : C.2.1 = pre.length + 3 := e
    obtain ⟨a1, a2, a3, a4, a5⟩ := H3.2 (by omega)
    obtain ⟨b1, b2, b3⟩ := H2.2 (by omega)
    rw [a1] at a2 a3 a4 a5
    rw [b1] at b3
    refine ⟨b1, b3, a2, ?_, a4, a5⟩
    show s.clock + C.1 = _
    rw [a3]

/-- A day of one or two digits. -/
structure SdR (bs pre : List UInt8) (s s' : Stp) (d : Nat) : Prop where
  d2 : d < 2
  run : Run bs (pre ++ List.replicate (d + 1) 57) s'.at_ s'.stop
  fork : (∀ i, i < pre.length → fitB bs i (nb pre i) = true) → pre.length < bs.length → fitB bs pre.length 57 = true → pre.length + 1 < bs.length → fitB bs (pre.length + 1) 57 = decide (d = 1)
  full : s'.at_ = pre.length + (d + 1) → s.at_ = pre.length ∧ Dig bs pre.length (d + 1) ∧ s'.day = valR bs pre.length (d + 1)
  year : s'.year = s.year
  month : s'.month = s.month
  weekly : s'.weekly = s.weekly
  week : s'.week = s.week
  clock : s'.clock = s.clock
  zone : s'.zone = s.zone
theorem At.of_all {bs pat : List UInt8} (h : ∀ i, i < pat.length → fitB bs i (nb pat i) = true) (hl : pat.length ≤ bs.length) : At bs pat pat.length := ⟨Nat.le_refl _, hl, h, fun a => absurd a (Nat.lt_irrefl _)⟩
theorem Run.sd {t : ByteArray} {bs pre : List UInt8} (hbs : t.data.toList = bs) (s : Stp) (h : Run bs pre s.at_ s.stop) : ∃ d, SdR bs pre s (shortDayS t s) d := by
  have H1 := h.num hbs 1 0
  obtain ⟨A, hA⟩ : ∃ A, numR t 1 0 s.at_ s.stop = A := ⟨_, rfl⟩
  rw [hA] at H1
  have l1 : (pre ++ List.replicate 1 57).length = pre.length + 1 := by simp
  have hat : (∀ i, i < pre.length → fitB bs i (nb pre i) = true) → pre.length < bs.length → fitB bs pre.length 57 = true → A.2.1 = pre.length + 1 := by
    intro a b c
    have h1 : At bs (pre ++ List.replicate 1 57) (pre.length + 1) := by
      have := At.of_all (bs := bs) (pat := pre ++ List.replicate 1 57) (fun i hi => by
        by_cases e : i < pre.length
        · rw [nb_left _ _ _ e]; exact a i e
        · rw [l1] at hi
          rw [show i = pre.length by omega, show List.replicate 1 (57 : UInt8) = [57] from rfl, nb_at]; exact c) (by rw [l1]; omega)
      rwa [l1] at this
    exact H1.1.at_.uniq h1
  cases hR : isR t figL A.2.1 with
  | true =>
    have H2 := H1.1.num hbs 1 0
    obtain ⟨B, hB⟩ : ∃ B, numR t 1 0 A.2.1 A.2.2 = B := ⟨_, rfl⟩
    rw [hB, l1] at H2
    have hres : shortDayS t s = ⟨B.2.1, B.2.2, s.year, s.month, 10 * A.1 + B.1, s.weekly, s.week, s.clock, s.zone⟩ := by
      unfold shortDayS
      simp only [hA, hR, hB, if_true]
      rfl
    rw [hres]
    refine ⟨1, by omega, ?_, fun a b c hb => ?_, fun e => ?_, rfl, rfl, rfl, rfl, rfl, rfl⟩
    · have := H2.1
      rw [List.append_assoc, show List.replicate 1 (57 : UInt8) ++ List.replicate 1 57 = List.replicate (1 + 1) 57 from rfl] at this
      exact this
    · have e := hat a b c
      rw [e, isR_fig hbs hb] at hR
      rw [hR]; rfl
    · have e' : B.2.1 = pre.length + 2 := e
      obtain ⟨a1, a2, a3⟩ := H2.2 (by omega)
      obtain ⟨b1, b2, b3⟩ := H1.2 (by omega)
      have x1 := a2.1
      rw [a1] at a2 a3
      rw [b1] at b2 b3
      refine ⟨b1, ⟨by omega, fun j hj p q => ?_⟩, ?_⟩
      · by_cases ej : j < pre.length + 1
        · exact b2.2 j hj (by omega) (by omega)
        · exact a2.2 j hj (by omega) (by omega)
      · show 10 * A.1 + B.1 = _
        rw [a3, b3]
        unfold valR
        rw [take_one (by omega), take_one (by omega), List.take_zero, take_one (by omega), List.take_zero, take_one (by omega), List.take_zero]
        simp only [valF, List.foldl]
        omega
  | false =>
    have hres : shortDayS t s = ⟨A.2.1, A.2.2, s.year, s.month, A.1, s.weekly, s.week, s.clock, s.zone⟩ := by
      unfold shortDayS
      simp only [hA, hR]
      rfl
    rw [hres]
    refine ⟨0, by omega, H1.1, fun a b c hb => ?_, fun e => ?_, rfl, rfl, rfl, rfl, rfl, rfl⟩
    · have e := hat a b c
      rw [e, isR_fig hbs hb] at hR
      rw [hR]; rfl
    · have e' : A.2.1 = pre.length + 1 := e
      obtain ⟨b1, b2, b3⟩ := H1.2 (by omega)
      rw [b1] at b2 b3
      exact ⟨b1, b2, b3⟩
theorem At.fork2 {bs A X Y : List UInt8} {p q : Nat} (hP : At bs (A ++ X) p) (hQ : At bs (A ++ Y) q) (hY : 0 < Y.length) (hne : (∀ i, i < A.length → fitB bs i (nb A i) = true) → A.length < bs.length → fitB bs A.length (nb Y 0) = false) : q ≤ p ∧ q < (A ++ Y).length := by
  have h := hP.fork hQ A.length (by rw [List.length_append]; omega) (fun i hi => by rw [nb_left _ _ _ hi, nb_left _ _ _ hi]) (fun a b => by
    have e : nb (A ++ Y) A.length = nb Y 0 := by
      cases Y with
      | nil => exact absurd hY (Nat.lt_irrefl _)
      | cons c r => rw [nb_at]; rfl
    rw [e]
    exact hne (fun i hi => by have := a i hi; rwa [nb_left _ _ _ hi] at this) b)
  rw [List.length_append]
  omega
theorem Run.all {bs pre : List UInt8} {p : Nat} {st : Int} (h : Run bs pre p st) (a : ∀ i, i < pre.length → fitB bs i (nb pre i) = true) (hb : pre.length ≤ bs.length) : p = pre.length := h.at_.uniq (At.of_all a hb)

def preW (w : Nat) : List UInt8 := if w = 1 then [87, 87, 87, 44, 32] else []
def preD (d : Nat) : List UInt8 := List.replicate (d + 1) 57
def preS (c : Nat) : List UInt8 := if c = 1 then [58, 53, 57] else []
def midL : List UInt8 := [32, 77, 77, 77, 32, 57, 57, 57, 57] ++ [32] ++ [50, 51, 58, 53, 57]
def patQ (w d c z : Nat) : List UInt8 := preW w ++ preD d ++ midL ++ preS c ++ [32] ++ zoneP z

/-- What stands ahead of the day. -/
structure HdR (bs : List UInt8) (s : Stp) (w : Nat) : Prop where
  w2 : w < 2
  run : Run bs (preW w) s.at_ s.stop
  fork : 0 < bs.length → fitB bs 0 (if w = 1 then 57 else 87) = false
  full : s.at_ = (preW w).length → w = 1 → 5 ≤ bs.length ∧ idxF weeksL (low [nb bs 0, nb bs 1, nb bs 2]) 0 7 = s.week ∧ 0 ≤ s.week ∧ s.week < 7
  weekly : s.weekly = decide (w = 1)
  clock : s.clock = 0
  zone : s.zone = 0
theorem dig_week : ∀ c, c < 256 → digB (UInt8.ofNat c) 10 = true → hitR weeksL 7 (low [UInt8.ofNat c]) = false := by decide +kernel
def hdS (t : ByteArray) : Stp := if isR t figL 0 then s00 else oneS t [32] (oneS t [44] (wk0 t s00))
theorem hd_run {t : ByteArray} {bs : List UInt8} (hbs : t.data.toList = bs) : ∃ w, HdR bs (hdS t) w := by
  unfold hdS
  cases hR : isR t figL 0 with
  | true =>
    rw [if_pos rfl]
    have hb : 0 < bs.length := by
      rw [isR_run hbs] at hR
      by_cases h : 0 < bs.length
      · exact h
      · rw [if_neg h] at hR; exact Bool.noConfusion hR
    rw [isR_fig hbs hb] at hR
    refine ⟨0, by omega, Run.nil bs, fun _ => ?_, fun _ e => absurd e (by decide), rfl, rfl, rfl⟩
    rw [if_neg (by decide)]
    have h1 : fitB bs 0 87 = hitR weeksL 7 (low ((bs.drop (bckF bs 0)).take (0 + 1 - bckF bs 0))) := rfl
    have h2 : bckF bs 0 = 0 := by unfold bckF; rw [if_neg]; rintro ⟨a, _⟩; omega
    rw [h1, h2, show 0 + 1 - 0 = 0 + 1 from rfl, take_one hb, List.take_zero]
    have h3 := dig_week (nb bs 0).toNat (nb bs 0).toNat_lt
    rw [UInt8.ofNat_toNat] at h3
    exact h3 hR
  | false =>
    rw [if_neg (by decide)]
    have H1 := (Run.nil bs).word hbs wee_words (fun _ => Or.inl rfl)
    obtain ⟨A, hA⟩ : ∃ A, wordR t 7 weeksL 3 [] 0 0 = A := ⟨_, rfl⟩
    rw [hA] at H1
    have H2 := H1.1.sign hbs 44 (by omega)
    rw [show UInt8.ofNat 44 = 44 from rfl] at H2
    obtain ⟨B, hB⟩ : ∃ B, oneR t [44] A.2.1 A.2.2 = B := ⟨_, rfl⟩
    rw [hB] at H2
    have H3 := H2.1.sign hbs 32 (by omega)
    rw [show UInt8.ofNat 32 = 32 from rfl] at H3
    obtain ⟨C, hC⟩ : ∃ C, oneR t [32] B.2.1 B.2.2 = C := ⟨_, rfl⟩
    rw [hC] at H3
    have hres : oneS t [32] (oneS t [44] (wk0 t s00)) = ⟨C.2.1, C.2.2, 0, 0, 0, true, (Lib.index weeksL A.1).tdiv 3, 0, 0⟩ := by
      unfold wk0 wordS wordV oneS s00 Stp.up
      simp only [hA, hB, hC]
    rw [hres]
    refine ⟨1, by omega, H3.1, fun hb => ?_, fun e _ => ?_, rfl, rfl, rfl⟩
    · rw [if_pos rfl, ← isR_fig hbs hb]; exact hR
    · have e' : C.2.1 = 5 := e
      obtain ⟨a1, a2, a3⟩ := H3.2 (by simp; omega)
      simp at a1
      obtain ⟨b1, b2, b3⟩ := H2.2 (by simp; omega)
      simp at b1
      obtain ⟨c1, c2, c3, c4, c5⟩ := H1.2 (by simp; omega)
      exact ⟨by omega, c3, c4, c5⟩

/-- What a moment that was read whole tells. -/
structure FullR (bs : List UInt8) (s : Stp) (w d c z : Nat) : Prop where
  day : Dig bs (5 * w) (d + 1) ∧ s.day = valR bs (5 * w) (d + 1)
  month : 5 * w + d + 5 ≤ bs.length ∧ idxF monthsL (low [nb bs (5 * w + d + 2), nb bs (5 * w + d + 3), nb bs (5 * w + d + 4)]) 0 12 + 1 = s.month
  year : Dig bs (5 * w + d + 6) 4 ∧ s.year = valR bs (5 * w + d + 6) 4
  hour : Dig bs (5 * w + d + 11) 2
  min : Dig bs (5 * w + d + 14) 2
  sec : nb bs (5 * w + d + 16) = (if c = 1 then 58 else 32) ∧ (c = 1 → Dig bs (5 * w + d + 17) 2)
  clock : s.clock = 3600 * valR bs (5 * w + d + 11) 2 + 60 * valR bs (5 * w + d + 14) 2 + (if c = 1 then valR bs (5 * w + d + 17) 2 else 0)
  clo : 0 ≤ s.clock
  chi : s.clock < 86400
  zone : ZoneR bs (5 * w + d + 17 + 3 * c) z s.zone
  week : w = 1 → 5 ≤ bs.length ∧ idxF weeksL (low [nb bs 0, nb bs 1, nb bs 2]) 0 7 = s.week ∧ 0 ≤ s.week ∧ s.week < 7
structure ParseP (bs : List UInt8) (s : Stp) (w d c z : Nat) : Prop where
  w2 : w < 2
  d2 : d < 2
  c2 : c < 2
  z4 : z < 4
  run : Run bs (patQ w d c z) s.at_ s.stop
  weekly : s.weekly = decide (w = 1)
  other : ∀ w' d' c' z', w' < 2 → d' < 2 → c' < 2 → z' < 4 → ¬ (w' = w ∧ d' = d ∧ c' = c ∧ z' = z) → mF bs (patQ w' d' c' z') ≤ s.at_ ∧ mF bs (patQ w' d' c' z') < (patQ w' d' c' z').length
  full : s.at_ = (patQ w d c z).length → FullR bs s w d c z
def endS (t : ByteArray) : Stp := placeS t [43, 45, 71, 85] (oneS t [32] (if isR t [58] (parseA t).at_ then secondS t (parseA t) else parseA t))
theorem patQ_z (w d c z : Nat) : patQ w d c z = (preW w ++ preD d ++ midL ++ preS c ++ [32]) ++ zoneP z := rfl
theorem patQ_c (w d c z : Nat) : patQ w d c z = (preW w ++ preD d ++ midL) ++ (preS c ++ [32] ++ zoneP z) := by simp [patQ]
theorem patQ_d (w d c z : Nat) : patQ w d c z = (preW w ++ [57]) ++ (List.replicate d 57 ++ midL ++ preS c ++ [32] ++ zoneP z) := by
  simp [patQ, preD, List.replicate_succ]
theorem patQ_w (w d c z : Nat) : patQ w d c z = [] ++ (preW w ++ preD d ++ midL ++ preS c ++ [32] ++ zoneP z) := rfl
theorem lenW {w : Nat} (h : w < 2) : (preW w).length = 5 * w := by rcases (show w = 0 ∨ w = 1 by omega) with rfl | rfl <;> rfl
theorem lenD (d : Nat) : (preD d).length = d + 1 := by simp [preD]
theorem lenS {c : Nat} (h : c < 2) : (preS c).length = 3 * c := by rcases (show c = 0 ∨ c = 1 by omega) with rfl | rfl <;> rfl
theorem lenM : midL.length = 15 := rfl
theorem parse_run {t : ByteArray} {bs : List UInt8} (hbs : t.data.toList = bs) : ∃ w d c z, ParseP bs (endS t) w d c z := by
  obtain ⟨w, H0⟩ := hd_run hbs
  obtain ⟨s0, hs0⟩ : ∃ s, hdS t = s := ⟨_, rfl⟩
  rw [hs0] at H0
  obtain ⟨d, H1⟩ := H0.run.sd hbs s0
  obtain ⟨s1, hs1⟩ : ∃ s, shortDayS t s0 = s := ⟨_, rfl⟩
  rw [hs1] at H1
  have H2 := H1.run.my hbs 32 (Or.inl rfl) s1
  rw [show UInt8.ofNat 32 = 32 from rfl] at H2
  obtain ⟨s2, hs2⟩ : ∃ s, monthYearS t [32] s1 = s := ⟨_, rfl⟩
  rw [hs2] at H2
  have H3 := H2.run.sign hbs 32 (by omega)
  rw [show UInt8.ofNat 32 = 32 from rfl] at H3
  obtain ⟨s3, hs3⟩ : ∃ s, oneS t [32] s2 = s := ⟨_, rfl⟩
  have e3a : (oneR t [32] s2.at_ s2.stop).2.1 = s3.at_ := by rw [← hs3]; rfl
  have e3s : (oneR t [32] s2.at_ s2.stop).2.2 = s3.stop := by rw [← hs3]; rfl
  rw [e3a, e3s] at H3
  have f3 : s3 = { s2 with at_ := s3.at_, stop := s3.stop } := by rw [← hs3]; rfl
  have H4 := H3.1.hm hbs s3
  obtain ⟨s4, hs4⟩ : ∃ s, hourMinuteS t s3 = s := ⟨_, rfl⟩
  rw [hs4] at H4
  have hpa : parseA t = s4 := by rw [← hs4, ← hs3, ← hs2, ← hs1, ← hs0]; rfl
  have hw := H0.w2
  have hd := H1.d2
  have lA : (preW w ++ preD d).length = 5 * w + d + 1 := by rw [List.length_append, lenW hw, lenD]; omega
  have hmid : preW w ++ List.replicate (d + 1) 57 ++ [32, 77, 77, 77, 32, 57, 57, 57, 57] ++ [32] ++ [50, 51, 58, 53, 57] = preW w ++ preD d ++ midL := by simp [preD, midL]
  have R4 := H4.run
  rw [hmid] at R4
  have lB : (preW w ++ preD d ++ midL).length = 5 * w + d + 16 := by rw [List.length_append, lA, lenM]
  -- a second or none
  have HC : ∃ c s5, c < 2 ∧ (if isR t [58] s4.at_ then secondS t s4 else s4) = s5 ∧ Run bs (preW w ++ preD d ++ midL ++ preS c) s5.at_ s5.stop ∧
      ((∀ i, i < (preW w ++ preD d ++ midL).length → fitB bs i (nb (preW w ++ preD d ++ midL) i) = true) → (preW w ++ preD d ++ midL).length < bs.length → fitB bs (preW w ++ preD d ++ midL).length (if c = 1 then 32 else 58) = false) ∧
      (s5.at_ = (preW w ++ preD d ++ midL ++ preS c).length → s4.at_ = (preW w ++ preD d ++ midL).length ∧ (c = 1 → nb bs (5 * w + d + 16) = 58 ∧ Dig bs (5 * w + d + 17) 2 ∧ 0 ≤ valR bs (5 * w + d + 17) 2 ∧ valR bs (5 * w + d + 17) 2 ≤ 59) ∧ s5.clock = s4.clock + (if c = 1 then valR bs (5 * w + d + 17) 2 else 0)) ∧
      s5.year = s4.year ∧ s5.month = s4.month ∧ s5.day = s4.day ∧ s5.weekly = s4.weekly ∧ s5.week = s4.week ∧ s5.zone = s4.zone := by
    cases hR : isR t [58] s4.at_ with
    | true =>
      have H5 := R4.sec hbs s4
      refine ⟨1, secondS t s4, by omega, by rw [if_pos rfl], H5.run, fun a b => ?_, fun e => ?_, H5.year, H5.month, H5.day, H5.weekly, H5.week, H5.zone⟩
      · have e := R4.all a (by omega)
        have h58 := isR_sign hbs (p := s4.at_) (by omega) 58 (Or.inr rfl)
        rw [show UInt8.ofNat 58 = 58 from rfl, hR, e] at h58
        rw [if_pos rfl]
        have k : nb bs (preW w ++ preD d ++ midL).length = 58 := of_decide_eq_true (show decide (nb bs _ = 58) = true from h58.symm)
        show decide (nb bs _ = 32) = false
        rw [k]; decide
      · obtain ⟨a1, a2, a3, a4, a5, a6⟩ := H5.full (by rw [e, List.length_append, show (preS 1).length = 3 from rfl])
        rw [lB] at a2 a3 a4 a5 a6
        exact ⟨a1, fun _ => ⟨a2, a3, a5, a6⟩, by rw [if_pos rfl]; exact a4⟩
    | false =>
      refine ⟨0, s4, by omega, by rw [if_neg (by decide)], by rw [show preS 0 = [] from rfl, List.append_nil]; exact R4, fun a b => ?_, fun e => ?_, rfl, rfl, rfl, rfl, rfl, rfl⟩
      · have e := R4.all a (by omega)
        have h58 := isR_sign hbs (p := s4.at_) (by omega) 58 (Or.inr rfl)
        rw [show UInt8.ofNat 58 = 58 from rfl, hR, e] at h58
        rw [if_neg (by decide)]
        exact h58.symm
      · rw [show preS 0 = [] from rfl, List.append_nil] at e
        exact ⟨e, fun x => absurd x (by decide), by rw [if_neg (by decide)]; omega⟩
  obtain ⟨c, s5, hc, hs5, R5, F5, U5, y5, m5, d5, wy5, wk5, z5⟩ := HC
  have H6 := R5.sign hbs 32 (by omega)
  rw [show UInt8.ofNat 32 = 32 from rfl] at H6
  obtain ⟨s6, hs6⟩ : ∃ s, oneS t [32] s5 = s := ⟨_, rfl⟩
  have e6a : (oneR t [32] s5.at_ s5.stop).2.1 = s6.at_ := by rw [← hs6]; rfl
  have e6s : (oneR t [32] s5.at_ s5.stop).2.2 = s6.stop := by rw [← hs6]; rfl
  rw [e6a, e6s] at H6
  have f6 : s6 = { s5 with at_ := s6.at_, stop := s6.stop } := by rw [← hs6]; rfl
  have hz6 : s6.zone = 0 := by rw [f6]; show s5.zone = 0; rw [z5, H4.zone, f3]; show s2.zone = 0; rw [H2.zone, H1.zone, H0.zone]
  have H7 := H6.1.place hbs [43, 45, 71, 85] 4 (Or.inl ⟨rfl, rfl⟩) s6 hz6
  have hend : endS t = placeS t [43, 45, 71, 85] s6 := by unfold endS; rw [hpa, hs5, hs6]
  rw [hend]
  obtain ⟨s7, hs7⟩ : ∃ s, placeS t [43, 45, 71, 85] s6 = s := ⟨_, rfl⟩
  rw [hs7] at H7 ⊢
  obtain ⟨z, hz, R7, F7, U7⟩ := H7.ex
  have lC : (preW w ++ preD d ++ midL ++ preS c).length = 5 * w + d + 16 + 3 * c := by rw [List.length_append, lB, lenS hc]
  have lD : (preW w ++ preD d ++ midL ++ preS c ++ [32]).length = 5 * w + d + 17 + 3 * c := by rw [List.length_append, lC]; simp; omega
  refine ⟨w, d, c, z, hw, hd, hc, hz, R7, ?_, ?_, ?_⟩
  · rw [H7.weekly, f6]; show s5.weekly = _; rw [wy5, H4.weekly, f3]; show s2.weekly = _; rw [H2.weekly, H1.weekly, H0.weekly]
  · intro w' d' c' z' hw' hd' hc' hz' hne
    have hQ := mF_at bs (patQ w' d' c' z')
    have hP := R7.at_
    by_cases ew : w' = w
    · subst ew
      by_cases ed : d' = d
      · subst ed
        by_cases ec : c' = c
        · subst ec
          have ez : z' ≠ z := fun e => hne ⟨rfl, rfl, rfl, e⟩
          refine At.fork2 (X := zoneP z) hP hQ ?_ (fun a b => ?_)
          · rcases (show z' = 0 ∨ z' = 1 ∨ z' = 2 ∨ z' = 3 by omega) with rfl | rfl | rfl | rfl <;> decide
          · exact F7 (H6.1.all a (by omega)) b z' hz' ez
        · have k := At.fork2 (X := preS c ++ [32] ++ zoneP z) (Y := preS c' ++ [32] ++ zoneP z') (by rw [← patQ_c]; exact hP) (by rw [← patQ_c]; exact hQ) (by simp only [List.length_append, List.length_singleton]; omega) (fun a b => by
            have := F5 a b
            rcases (show c = 0 ∧ c' = 1 ∨ c = 1 ∧ c' = 0 by omega) with ⟨rfl, rfl⟩ | ⟨rfl, rfl⟩
            · exact this
            · exact this)
          rw [← patQ_c] at k
          exact k
      · have hkey : ∀ i, (∀ j, j < (preW w' ++ [57]).length → fitB bs j (nb (preW w' ++ [57]) j) = true) → i < (preW w').length → fitB bs i (nb (preW w') i) = true := fun i a hi => by
          have := a i (by simp; omega)
          rwa [nb_left _ _ _ hi] at this
        have k := At.fork2 (X := List.replicate d 57 ++ midL ++ preS c ++ [32] ++ zoneP z) (Y := List.replicate d' 57 ++ midL ++ preS c' ++ [32] ++ zoneP z') (by rw [← patQ_d]; exact hP) (by rw [← patQ_d]; exact hQ) (by simp only [List.length_append, List.length_singleton]; omega) (fun a b => by
          have l1 : (preW w' ++ [57]).length = (preW w').length + 1 := by simp
          have h57 : fitB bs (preW w').length 57 = true := by
            have := a (preW w').length (by omega)
            rwa [nb_at] at this
          have := H1.fork (fun i hi => hkey i a hi) (by omega) h57 (by omega)
          rw [l1]
          rcases (show d = 0 ∧ d' = 1 ∨ d = 1 ∧ d' = 0 by omega) with ⟨rfl, rfl⟩ | ⟨rfl, rfl⟩
          · exact this
          · exact (digit_no this).1)
        rw [← patQ_d] at k
        exact k
    · have k := At.fork2 (A := []) (X := preW w ++ preD d ++ midL ++ preS c ++ [32] ++ zoneP z) (Y := preW w' ++ preD d' ++ midL ++ preS c' ++ [32] ++ zoneP z') hP hQ (by simp only [List.length_append, List.length_singleton]; omega) (fun _ b => by
        have := H0.fork b
        rcases (show w = 0 ∧ w' = 1 ∨ w = 1 ∧ w' = 0 by omega) with ⟨rfl, rfl⟩ | ⟨rfl, rfl⟩
        · exact this
        · exact this)
      exact k
  · intro e
    rw [patQ_z, List.length_append] at e
    obtain ⟨a1, a2⟩ := U7 (by rw [lD] at *; omega)
    obtain ⟨b1, b2, b3⟩ := H6.2 (by rw [lD, lC] at *; omega)
    obtain ⟨c1, c2, c3⟩ := U5 b1
    obtain ⟨d1, d2, d3, d4, d5', d6, d7, d8⟩ := H4.full (by rw [c1, ← hmid, List.length_append]; rfl)
    obtain ⟨e1, e2, e3⟩ := H3.2 (by rw [d1, List.length_append]; rfl)
    have l8 : (preW w ++ List.replicate (d + 1) 57).length = 5 * w + d + 1 := lA
    obtain ⟨g1, g2, g3, g4, g5⟩ := H2.full (by rw [e1, List.length_append]; rfl)
    obtain ⟨i1, i2, i3⟩ := H1.full (by rw [g1, List.length_append]; simp)
    have l9 : (preW w ++ List.replicate (d + 1) 57 ++ [32, 77, 77, 77, 32, 57, 57, 57, 57] ++ [32]).length = 5 * w + d + 11 := by rw [List.length_append, List.length_append, l8]; rfl
    rw [l9] at d2 d3 d4 d5' d6 d7 d8
    rw [l8] at g2 g3 g4 g5
    rw [lenW hw] at i2 i3
    rw [lD] at a2
    have hclk : s7.clock = 3600 * valR bs (5 * w + d + 11) 2 + 60 * valR bs (5 * w + d + 11 + 3) 2 + (if c = 1 then valR bs (5 * w + d + 17) 2 else 0) := by
      rw [H7.clock, f6]; show s5.clock = _; rw [c3, d4]
    have hcb : 0 ≤ (if c = 1 then valR bs (5 * w + d + 17) 2 else 0) ∧ (if c = 1 then valR bs (5 * w + d + 17) 2 else 0) ≤ 59 := by
      split
      · next h => exact (c2 h).2.2
      · omega
    have hb5 : s5.at_ = 5 * w + d + 16 + 3 * c := by rw [b1, lC]
    refine ⟨⟨i2, ?_⟩, ⟨by omega, ?_⟩, ⟨g4, ?_⟩, d2, d3, ⟨?_, fun h => (c2 h).2.1⟩, hclk, by rw [hclk]; omega, by rw [hclk]; omega, a2, fun h => ?_⟩
    · rw [H7.day, f6]; show s5.day = _; rw [d5, H4.day, f3]; show s2.day = _; rw [H2.day]; exact i3
    · rw [H7.month, f6]; show _ = s5.month; rw [m5, H4.month, f3]; show _ = s2.month; exact g3
    · rw [H7.year, f6]; show s5.year = _; rw [y5, H4.year, f3]; show s2.year = _; exact g5
    · by_cases h : c = 1
      · rw [if_pos h]; exact (c2 h).1
      · rw [if_neg h, show 5 * w + d + 16 = s5.at_ by omega]; exact b3
    · have hk := H0.full (by rw [i1]) h
      have ew : s7.week = s0.week := by rw [H7.week, f6]; show s5.week = _; rw [wk5, H4.week, f3]; show s2.week = _; rw [H2.week, H1.week]
      rw [ew]
      exact hk
def preB (b : Nat) : List UInt8 := if b = 1 then [32, 57] else [57, 57]
def midS : List UInt8 := [45, 77, 77, 77, 45, 57, 57, 57, 57] ++ [32] ++ [50, 51, 58, 53, 57] ++ [58, 53, 57] ++ [32]
def patR (b z : Nat) : List UInt8 := preB b ++ midS ++ zoneP z
structure FullS (bs : List UInt8) (s : Stp) (b z : Nat) : Prop where
  day1 : Dig bs 1 1
  day : if b = 1 then s.day = valR bs 1 1 else Dig bs 0 2 ∧ s.day = valR bs 0 2
  month : 6 ≤ bs.length ∧ idxF monthsL (low [nb bs 3, nb bs 4, nb bs 5]) 0 12 + 1 = s.month
  year : Dig bs 7 4 ∧ s.year = valR bs 7 4
  hour : Dig bs 12 2
  min : Dig bs 15 2
  sec : Dig bs 18 2
  clock : s.clock = 3600 * valR bs 12 2 + 60 * valR bs 15 2 + valR bs 18 2
  clo : 0 ≤ s.clock
  chi : s.clock < 86400
  zone : ZoneR bs 21 z s.zone
structure ShortP (bs : List UInt8) (s : Stp) (b z : Nat) : Prop where
  b2 : b < 2
  z2 : z < 2
  run : Run bs (patR b z) s.at_ s.stop
  weekly : s.weekly = false
  other : ∀ b' z', b' < 2 → z' < 2 → ¬ (b' = b ∧ z' = z) → mF bs (patR b' z') ≤ s.at_ ∧ mF bs (patR b' z') < (patR b' z').length
  full : s.at_ = (patR b z).length → FullS bs s b z
structure BdR (bs : List UInt8) (s : Stp) (b : Nat) : Prop where
  b2 : b < 2
  run : Run bs (preB b) s.at_ s.stop
  fork : 0 < bs.length → fitB bs 0 (if b = 1 then 57 else 32) = false
  full : s.at_ = (preB b).length → Dig bs 1 1 ∧ (if b = 1 then s.day = valR bs 1 1 else Dig bs 0 2 ∧ s.day = valR bs 0 2)
  weekly : s.weekly = false
  clock : s.clock = 0
  zone : s.zone = 0
theorem Dig.tail {bs : List UInt8} {p k : Nat} (h : Dig bs p (k + 1)) : Dig bs (p + 1) k := ⟨by have := h.1; omega, fun j hj a b => h.2 j hj (by omega) (by omega)⟩
theorem bd_run {t : ByteArray} {bs : List UInt8} (hbs : t.data.toList = bs) : ∃ b, BdR bs (shortS t) b := by
  unfold shortS
  cases hR : isR t [32] 0 with
  | true =>
    rw [if_pos rfl]
    have hb : 0 < bs.length := by
      rw [isR_run hbs] at hR
      by_cases h : 0 < bs.length
      · exact h
      · rw [if_neg h] at hR; exact Bool.noConfusion hR
    have h32 := isR_sign hbs hb 32 (Or.inl rfl)
    rw [show UInt8.ofNat 32 = 32 from rfl, hR] at h32
    have H1 := (Run.nil bs).sign hbs 32 (by omega)
    rw [show UInt8.ofNat 32 = 32 from rfl] at H1
    obtain ⟨A, hA⟩ : ∃ A, oneR t [32] 0 0 = A := ⟨_, rfl⟩
    rw [hA] at H1
    have H2 := H1.1.num hbs 1 0
    obtain ⟨B, hB⟩ : ∃ B, numR t 1 0 A.2.1 A.2.2 = B := ⟨_, rfl⟩
    rw [hB] at H2
    have hres : dayN t 1 (oneS t [32] s00) = ⟨B.2.1, B.2.2, 0, 0, B.1, false, 0, 0, 0⟩ := by
      unfold dayN numS numV oneS s00 Stp.up
      simp only [hA, hB]
    rw [hres]
    refine ⟨1, by omega, H2.1, fun _ => ?_, fun e => ?_, rfl, rfl, rfl⟩
    · rw [if_pos rfl]
      have k : nb bs 0 = 32 := of_decide_eq_true (show decide (nb bs 0 = 32) = true from h32.symm)
      show digB (nb bs 0) 10 = false
      rw [k]; decide
    · have e' : B.2.1 = 2 := e
      obtain ⟨a1, a2, a3⟩ := H2.2 (by simp; omega)
      simp at a1
      rw [a1] at a2 a3
      exact ⟨a2, by rw [if_pos rfl]; exact a3⟩
  | false =>
    rw [if_neg (by decide)]
    have H2 := (Run.nil bs).num hbs 2 0
    obtain ⟨B, hB⟩ : ∃ B, numR t 2 0 0 0 = B := ⟨_, rfl⟩
    rw [hB] at H2
    have hres : dayN t 2 s00 = ⟨B.2.1, B.2.2, 0, 0, B.1, false, 0, 0, 0⟩ := by
      unfold dayN numS numV s00 Stp.up
      simp only [hB]
    rw [hres]
    refine ⟨0, by omega, H2.1, fun hb => ?_, fun e => ?_, rfl, rfl, rfl⟩
    · rw [if_neg (by decide)]
      have h32 := isR_sign hbs hb 32 (Or.inl rfl)
      rw [show UInt8.ofNat 32 = 32 from rfl, hR] at h32
      exact h32.symm
    · have e' : B.2.1 = 2 := e
      obtain ⟨a1, a2, a3⟩ := H2.2 (by simp; omega)
      exact ⟨a2.tail, by rw [if_neg (by decide)]; exact ⟨a2, a3⟩⟩
def endT (t : ByteArray) : Stp := placeS t [43, 45] (oneS t [32] (secondS t (hourMinuteS t (oneS t [32] (monthYearS t [45] (shortS t))))))
theorem patR_z (b z : Nat) : patR b z = (preB b ++ midS) ++ zoneP z := rfl
theorem patR_b (b z : Nat) : patR b z = [] ++ (preB b ++ midS ++ zoneP z) := rfl
theorem lenB (b : Nat) : (preB b).length = 2 := by unfold preB; split <;> rfl
theorem short_run {t : ByteArray} {bs : List UInt8} (hbs : t.data.toList = bs) : ∃ b z, ShortP bs (endT t) b z := by
  obtain ⟨b, H1⟩ := bd_run hbs
  obtain ⟨s1, hs1⟩ : ∃ s, shortS t = s := ⟨_, rfl⟩
  rw [hs1] at H1
  have H2 := H1.run.my hbs 45 (Or.inr rfl) s1
  rw [show UInt8.ofNat 45 = 45 from rfl] at H2
  obtain ⟨s2, hs2⟩ : ∃ s, monthYearS t [45] s1 = s := ⟨_, rfl⟩
  rw [hs2] at H2
  have H3 := H2.run.sign hbs 32 (by omega)
  rw [show UInt8.ofNat 32 = 32 from rfl] at H3
  obtain ⟨s3, hs3⟩ : ∃ s, oneS t [32] s2 = s := ⟨_, rfl⟩
  have e3a : (oneR t [32] s2.at_ s2.stop).2.1 = s3.at_ := by rw [← hs3]; rfl
  have e3s : (oneR t [32] s2.at_ s2.stop).2.2 = s3.stop := by rw [← hs3]; rfl
  rw [e3a, e3s] at H3
  have f3 : s3 = { s2 with at_ := s3.at_, stop := s3.stop } := by rw [← hs3]; rfl
  have H4 := H3.1.hm hbs s3
  obtain ⟨s4, hs4⟩ : ∃ s, hourMinuteS t s3 = s := ⟨_, rfl⟩
  rw [hs4] at H4
  have H5 := H4.run.sec hbs s4
  obtain ⟨s5, hs5⟩ : ∃ s, secondS t s4 = s := ⟨_, rfl⟩
  rw [hs5] at H5
  have H6 := H5.run.sign hbs 32 (by omega)
  rw [show UInt8.ofNat 32 = 32 from rfl] at H6
  obtain ⟨s6, hs6⟩ : ∃ s, oneS t [32] s5 = s := ⟨_, rfl⟩
  have e6a : (oneR t [32] s5.at_ s5.stop).2.1 = s6.at_ := by rw [← hs6]; rfl
  have e6s : (oneR t [32] s5.at_ s5.stop).2.2 = s6.stop := by rw [← hs6]; rfl
  rw [e6a, e6s] at H6
  have f6 : s6 = { s5 with at_ := s6.at_, stop := s6.stop } := by rw [← hs6]; rfl
  have hz6 : s6.zone = 0 := by rw [f6]; show s5.zone = 0; rw [H5.zone, H4.zone, f3]; show s2.zone = 0; rw [H2.zone, H1.zone]
  have R6 := H6.1
  rw [show preB b ++ [45, 77, 77, 77, 45, 57, 57, 57, 57] ++ [32] ++ [50, 51, 58, 53, 57] ++ [58, 53, 57] ++ [32] = preB b ++ midS by simp [midS]] at R6
  have H7 := R6.place hbs [43, 45] 2 (Or.inr ⟨rfl, rfl⟩) s6 hz6
  have hend : endT t = placeS t [43, 45] s6 := by unfold endT; rw [hs1, hs2, hs3, hs4, hs5, hs6]
  rw [hend]
  obtain ⟨s7, hs7⟩ : ∃ s, placeS t [43, 45] s6 = s := ⟨_, rfl⟩
  rw [hs7] at H7 ⊢
  obtain ⟨z, hz, R7, F7, U7⟩ := H7.ex
  have hb := H1.b2
  have lB : (preB b).length = 2 := lenB b
  have lD : (preB b ++ midS).length = 21 := by rw [List.length_append, lB]; rfl
  refine ⟨b, z, hb, hz, R7, ?_, ?_, ?_⟩
  · rw [H7.weekly, f6]; show s5.weekly = _; rw [H5.weekly, H4.weekly, f3]; show s2.weekly = _; rw [H2.weekly, H1.weekly]
  · intro b' z' hb' hz' hne
    have hQ := mF_at bs (patR b' z')
    have hP := R7.at_
    by_cases eb : b' = b
    · subst eb
      have ez : z' ≠ z := fun e => hne ⟨rfl, e⟩
      refine At.fork2 (X := zoneP z) hP hQ ?_ (fun a c => ?_)
      · rcases (show z' = 0 ∨ z' = 1 by omega) with rfl | rfl <;> decide
      · exact F7 (R6.all a (by omega)) c z' hz' ez
    · have k := At.fork2 (A := []) (X := preB b ++ midS ++ zoneP z) (Y := preB b' ++ midS ++ zoneP z') hP hQ (by rw [List.length_append, List.length_append, lenB]; omega) (fun _ c => by
        have := H1.fork c
        rcases (show b = 0 ∧ b' = 1 ∨ b = 1 ∧ b' = 0 by omega) with ⟨rfl, rfl⟩ | ⟨rfl, rfl⟩
        · exact this
        · exact this)
      exact k
  · intro e
    rw [patR_z, List.length_append] at e
    obtain ⟨a1, a2⟩ := U7 (by omega)
    obtain ⟨b1, b2, b3⟩ := H6.2 (by rw [a1, List.length_append, lB]; simp [List.length_append, lB, midS])
    obtain ⟨c1, c2, c3, c4, c5, c6⟩ := H5.full (by rw [b1, List.length_append]; rfl)
    obtain ⟨d1, d2, d3, d4, d5, d6, d7, d8⟩ := H4.full (by rw [c1, List.length_append]; rfl)
    obtain ⟨e1, e2, e3⟩ := H3.2 (by rw [d1, List.length_append]; rfl)
    obtain ⟨g1, g2, g3, g4, g5⟩ := H2.full (by rw [e1, List.length_append]; rfl)
    obtain ⟨i1, i2⟩ := H1.full g1
    have l9 : (preB b ++ [45, 77, 77, 77, 45, 57, 57, 57, 57] ++ [32]).length = 12 := by rw [List.length_append, List.length_append, lB]; rfl
    have l10 : (preB b ++ [45, 77, 77, 77, 45, 57, 57, 57, 57] ++ [32] ++ [50, 51, 58, 53, 57]).length = 17 := by rw [List.length_append, l9]; rfl
    rw [l9] at d2 d3 d4 d5 d6 d7 d8
    rw [l10] at c2 c3 c4 c5 c6
    rw [lB] at g2 g3 g4 g5
    rw [lD] at a2
    rw [show (12 : Nat) + 3 = 15 from rfl] at d3 d4 d7 d8
    rw [show (17 : Nat) + 1 = 18 from rfl] at c3 c4 c5 c6
    have hclk : s7.clock = 3600 * valR bs 12 2 + 60 * valR bs 15 2 + valR bs 18 2 := by
      rw [H7.clock, f6]; show s5.clock = _; rw [c4, d4]
    refine ⟨i1, ?_, ⟨by omega, ?_⟩, ⟨g4, ?_⟩, d2, d3, c3, hclk, by rw [hclk]; omega, by rw [hclk]; omega, a2⟩
    · have ed : s7.day = s1.day := by rw [H7.day, f6]; show s5.day = _; rw [H5.day, H4.day, f3]; show s2.day = _; rw [H2.day]
      rw [ed]; exact i2
    · rw [H7.month, f6]; show _ = s5.month; rw [H5.month, H4.month, f3]; show _ = s2.month; exact g3
    · rw [H7.year, f6]; show s5.year = _; rw [H5.year, H4.year, f3]; show s2.year = _; exact g5

def patD (d : Nat) : List UInt8 := preD d ++ [45, 77, 77, 77, 45, 57, 57, 57, 57]
structure FullD (bs : List UInt8) (s : Stp) (d : Nat) : Prop where
  day : Dig bs 0 (d + 1) ∧ s.day = valR bs 0 (d + 1)
  month : d + 5 ≤ bs.length ∧ idxF monthsL (low [nb bs (d + 2), nb bs (d + 3), nb bs (d + 4)]) 0 12 + 1 = s.month
  year : Dig bs (d + 6) 4 ∧ s.year = valR bs (d + 6) 4
structure DayP (bs : List UInt8) (s : Stp) (d : Nat) : Prop where
  d2 : d < 2
  run : Run bs (patD d) s.at_ s.stop
  other : ∀ d', d' < 2 → d' ≠ d → mF bs (patD d') ≤ s.at_ ∧ mF bs (patD d') < (patD d').length
  full : s.at_ = (patD d).length → FullD bs s d
theorem patD_d (d : Nat) : patD d = [57] ++ (List.replicate d 57 ++ [45, 77, 77, 77, 45, 57, 57, 57, 57]) := by simp [patD, preD, List.replicate_succ]
theorem day_run {t : ByteArray} {bs : List UInt8} (hbs : t.data.toList = bs) : ∃ d, DayP bs (monthYearS t [45] (shortDayS t s00)) d := by
  obtain ⟨d, H1⟩ := (show Run bs [] s00.at_ s00.stop from Run.nil bs).sd hbs s00
  obtain ⟨s1, hs1⟩ : ∃ s, shortDayS t s00 = s := ⟨_, rfl⟩
  rw [hs1] at H1 ⊢
  have H2 := H1.run.my hbs 45 (Or.inr rfl) s1
  rw [show UInt8.ofNat 45 = 45 from rfl] at H2
  obtain ⟨s2, hs2⟩ : ∃ s, monthYearS t [45] s1 = s := ⟨_, rfl⟩
  rw [hs2] at H2 ⊢
  have lA : (([] : List UInt8) ++ List.replicate (d + 1) 57).length = d + 1 := by simp
  refine ⟨d, H1.d2, H2.run, fun d' hd' hne => ?_, fun e => ?_⟩
  · have hd := H1.d2
    have hQ := mF_at bs (patD d')
    have hP : At bs (patD d) s2.at_ := H2.run.at_
    have k := At.fork2 (X := List.replicate d 57 ++ [45, 77, 77, 77, 45, 57, 57, 57, 57]) (Y := List.replicate d' 57 ++ [45, 77, 77, 77, 45, 57, 57, 57, 57]) (by rw [← patD_d]; exact hP) (by rw [← patD_d]; exact hQ) (by rw [List.length_append]; simp) (fun a b => by
      have h57 : fitB bs 0 57 = true := a 0 (by decide)
      have := H1.fork (fun i hi => absurd hi (Nat.not_lt_zero i)) (by have b' : 1 < bs.length := b; show 0 < _; omega) h57 b
      rcases (show d = 0 ∧ d' = 1 ∨ d = 1 ∧ d' = 0 by omega) with ⟨rfl, rfl⟩ | ⟨rfl, rfl⟩
      · exact this
      · exact (digit_no this).2.1)
    rw [← patD_d] at k
    exact k
  · have e' : s2.at_ = d + 1 + 9 := by rw [e]; simp [patD, preD]
    obtain ⟨g1, g2, g3, g4, g5⟩ := H2.full (by rw [lA]; exact e')
    rw [lA] at g1 g2 g3 g4 g5
    obtain ⟨i1, i2, i3⟩ := H1.full (by rw [g1]; simp)
    refine ⟨⟨i2, ?_⟩, ⟨by omega, g3⟩, ⟨g4, g5⟩⟩
    rw [H2.day]; exact i3
end Go.Proofs.YtkkmjadkagpihaaDoor
