/- Deed: what is laid is what is read, and what is read was laid so: plain facts. -/
import Derived.Test.YtjljbnilckkjnaaDoorG24
namespace Go.Proofs.YtjljbnilckkjnaaDoor
open Go Go.RowKit

theorem valN_lay (k n v : Nat) : valN v (numL k n) = v * 256 ^ k + n % 256 ^ k := by
  induction k generalizing v with
  | zero => simp [numL, valN, Nat.mod_one]
  | succ k ih =>
    have e : valN v (numL (k + 1) n) = valN (256 * v + (UInt8.ofNat (n / 256 ^ k)).toNat) (numL k n) := rfl
    have hc : (UInt8.ofNat (n / 256 ^ k)).toNat = n / 256 ^ k % 256 := by simp
    rw [e, ih, hc, Nat.pow_succ, Nat.mod_mul, Nat.add_mul]
    have h1 : 256 * v * 256 ^ k = v * (256 ^ k * 256) := by rw [Nat.mul_comm 256 v, Nat.mul_assoc, Nat.mul_comm 256]
    have h2 : n / 256 ^ k % 256 * 256 ^ k = 256 ^ k * (n / 256 ^ k % 256) := Nat.mul_comm _ _
    omega
theorem numP_lay (k n : Nat) (r : List UInt8) (h : n < 256 ^ k) : numP k (numL k n ++ r) = some (n, r) := by
  unfold numP
  rw [if_pos (by rw [List.length_append, numL_len]; omega), List.take_left' (numL_len k n), List.drop_left' (numL_len k n), valN_lay, Nat.zero_mul, Nat.zero_add, Nat.mod_eq_of_lt h]
theorem cutP_lay (p r : List UInt8) : cutP p.length (p ++ r) = some (p, r) := by
  unfold cutP
  rw [if_pos (by rw [List.length_append]; omega), List.take_left, List.drop_left]
theorem textP_lay (s : ByteArray) (r : List UInt8) (h : s.size < 256) : textP (textL s ++ r) = some (s.data.toList, r) := by
  unfold textP textL
  rw [List.append_assoc, numP_lay 1 _ _ (by omega), Option.bind_some]
  exact cutP_lay s.data.toList r
theorem bodyP_lay (p r : List UInt8) (h : p.length < 65536) : bodyP (bodyL p ++ r) = some (p, r) := by
  unfold bodyP bodyL
  rw [List.append_assoc, numP_lay 2 _ _ (by omega), Option.bind_some]
  exact cutP_lay p r
theorem bytes_back (s : ByteArray) : (⟨s.data.toList.toArray⟩ : ByteArray) = s := by cases s; rfl
/-- A deed that comes back. -/
structure Dd.Small (d : Dd) : Prop where
  act : d.act < 256
  user : d.user.size < 256
  box : d.box.size < 256
  dest : d.dest.size < 256
  uid : d.uid < 4294967296
  how : d.how < 256
  shard : d.shard < 256
  epoch : d.epoch < 4294967296
  bytes : d.bytes.length < 65536
theorem deedP_lay (d : Dd) (r : List UInt8) (h : d.Small) : deedP (ddL d ++ r) = some (d, r) := by
  obtain ⟨h0, h1, h2, h3, h4, h5, h7, h8, h9⟩ := h
  have h6 := d.flags.toNat_lt
  unfold deedP ddL
  simp only [List.append_assoc]
  rw [numP_lay 1 _ _ (by omega)]
  simp only [Option.bind_some]
  rw [textP_lay _ _ h1]
  simp only [Option.bind_some]
  rw [textP_lay _ _ h2]
  simp only [Option.bind_some]
  rw [textP_lay _ _ h3]
  simp only [Option.bind_some]
  rw [numP_lay 4 _ _ (by omega)]
  simp only [Option.bind_some]
  rw [numP_lay 1 _ _ (by omega)]
  simp only [Option.bind_some]
  rw [numP_lay 1 _ _ (by omega)]
  simp only [Option.bind_some]
  rw [numP_lay 1 _ _ (by omega)]
  simp only [Option.bind_some]
  rw [numP_lay 4 _ _ (by omega)]
  simp only [Option.bind_some]
  rw [bodyP_lay _ _ h9]
  simp only [Option.bind_some, bytes_back, UInt8.ofNat_toNat]
theorem deedsP_lay : ∀ (ds acc : List Dd) (r : List UInt8), (∀ d ∈ ds, d.Small) → deedsP ds.length (ds.flatMap ddL ++ r) acc = some (acc ++ ds, r)
  | [], acc, r, _ => by simp [deedsP]
  | d :: t, acc, r, h => by
    rw [List.length_cons, deedsP, List.flatMap_cons, List.append_assoc, deedP_lay d _ (h d (List.mem_cons_self ..)), Option.bind_some]
    dsimp only
    rw [deedsP_lay t (acc ++ [d]) r (fun x hx => h x (List.mem_cons_of_mem _ hx)), List.append_assoc]
    rfl
/-- What deeds lie as. -/
def dsL (ds : List Dd) : List UInt8 := numL 1 ds.length ++ ds.flatMap ddL
theorem takeE_lay (ds : List Dd) (h : ∀ d ∈ ds, d.Small) (h1 : 1 ≤ ds.length) (h2 : ds.length ≤ 12) : takeE (dsL ds) = .ok ds := by
  unfold takeE dsL
  rw [numP_lay 1 _ _ (by omega)]
  dsimp only
  rw [if_neg (by omega)]
  have := deedsP_lay ds [] [] h
  rw [List.append_nil, List.nil_append] at this
  rw [this]
  rfl
theorem valN_shift (l : List UInt8) (v : Nat) : valN v l = v * 256 ^ l.length + valN 0 l := by
  induction l generalizing v with
  | nil => simp [valN]
  | cons c t ih =>
    have e : ∀ x, valN x (c :: t) = valN (256 * x + c.toNat) t := fun _ => rfl
    rw [e, e, ih, ih (256 * 0 + c.toNat), List.length_cons, Nat.pow_succ, Nat.add_mul, Nat.add_mul]
    have h1 : 256 * v * 256 ^ t.length = v * (256 ^ t.length * 256) := by rw [Nat.mul_comm 256 v, Nat.mul_assoc, Nat.mul_comm 256]
    omega
theorem byte_back (v : Nat) (c : UInt8) : UInt8.ofNat (256 * v + c.toNat) = c := by
  apply UInt8.toNat_inj.1
  have := c.toNat_lt
  simp only [UInt8.toNat_ofNat']
  omega
theorem numL_val (l : List UInt8) (v : Nat) : numL l.length (valN v l) = l := by
  induction l generalizing v with
  | nil => rfl
  | cons c t ih =>
    have e : valN v (c :: t) = valN (256 * v + c.toNat) t := rfl
    rw [e, List.length_cons, numL, ih]
    have h1 : valN (256 * v + c.toNat) t / 256 ^ t.length = 256 * v + c.toNat := by
      rw [valN_shift, Nat.mul_comm, Nat.mul_add_div (Nat.pow_pos (by omega)), Nat.div_eq_of_lt (by have := valN_bd t 0; omega)]
      rfl
    rw [h1, byte_back]
theorem numP_back {k n : Nat} {l r : List UInt8} (h : numP k l = some (n, r)) : l = numL k n ++ r ∧ n < 256 ^ k := by
  refine ⟨?_, (numP_len h).2⟩
  unfold numP at h
  split at h
  · rename_i hk
    simp only [Option.some.injEq, Prod.mk.injEq] at h
    obtain ⟨rfl, rfl⟩ := h
    have h1 := numL_val (l.take k) 0
    rw [List.length_take, Nat.min_eq_left hk] at h1
    rw [h1, List.take_append_drop]
  · cases h
theorem cutP_back {n : Nat} {l p r : List UInt8} (h : cutP n l = some (p, r)) : l = p ++ r ∧ p.length = n := by
  refine ⟨?_, (cut_len h).2⟩
  unfold cutP at h
  split at h
  · simp only [Option.some.injEq, Prod.mk.injEq] at h
    obtain ⟨rfl, rfl⟩ := h
    rw [List.take_append_drop]
  · cases h
theorem size_arr (l : List UInt8) : (⟨l.toArray⟩ : ByteArray).size = l.length := by simp [ByteArray.size]
theorem textP_back {l x r : List UInt8} (h : textP l = some (x, r)) : l = textL ⟨x.toArray⟩ ++ r ∧ (⟨x.toArray⟩ : ByteArray).size < 256 := by
  unfold textP at h
  obtain ⟨⟨n, l1⟩, h1, h2⟩ := Option.bind_eq_some_iff.1 h
  obtain ⟨e1, h3⟩ := numP_back h1
  obtain ⟨e2, h4⟩ := cutP_back h2
  simp only at e2 h4
  subst h4
  refine ⟨?_, by rw [size_arr]; omega⟩
  unfold textL
  rw [size_arr, e1, e2, List.append_assoc]
theorem bodyP_back {l x r : List UInt8} (h : bodyP l = some (x, r)) : l = bodyL x ++ r ∧ x.length < 65536 := by
  unfold bodyP at h
  obtain ⟨⟨n, l1⟩, h1, h2⟩ := Option.bind_eq_some_iff.1 h
  obtain ⟨e1, h3⟩ := numP_back h1
  obtain ⟨e2, h4⟩ := cutP_back h2
  simp only at e2 h4
  subst h4
  refine ⟨?_, by omega⟩
  unfold bodyL
  rw [e1, e2, List.append_assoc]
theorem flags_back {n : Nat} (h : n < 256 ^ 1) : (UInt8.ofNat n).toNat = n := by
  simp only [UInt8.toNat_ofNat']
  omega
theorem deedP_back {l r : List UInt8} {d : Dd} (h : deedP l = some (d, r)) : l = ddL d ++ r ∧ d.Small := by
  unfold deedP at h
  simp only [Option.bind_eq_some_iff] at h
  obtain ⟨⟨a0, b0⟩, h0, ⟨a1, b1⟩, h1, ⟨a2, b2⟩, h2, ⟨a3, b3⟩, h3, ⟨a4, b4⟩, h4, ⟨a5, b5⟩, h5, ⟨a6, b6⟩, h6, ⟨a7, b7⟩, h7, ⟨a8, b8⟩, h8, ⟨a9, b9⟩, h9, h10⟩ := h
  simp only [Option.some.injEq, Prod.mk.injEq] at h10
  obtain ⟨h10, h11⟩ := h10
  subst h11
  obtain ⟨e0, g0⟩ := numP_back h0
  obtain ⟨e1, g1⟩ := textP_back h1
  obtain ⟨e2, g2⟩ := textP_back h2
  obtain ⟨e3, g3⟩ := textP_back h3
  obtain ⟨e4, g4⟩ := numP_back h4
  obtain ⟨e5, g5⟩ := numP_back h5
  obtain ⟨e6, g6⟩ := numP_back h6
  obtain ⟨e7, g7⟩ := numP_back h7
  obtain ⟨e8, g8⟩ := numP_back h8
  obtain ⟨e9, g9⟩ := bodyP_back h9
  simp only at e0 e1 e2 e3 e4 e5 e6 e7 e8 e9
  subst h10
  refine ⟨?_, ⟨by simpa using g0, g1, g2, g3, by simpa using g4, by simpa using g5, by simpa using g7, by simpa using g8, g9⟩⟩
  unfold ddL
  dsimp only
  rw [flags_back g6]
  simp only [List.append_assoc]
  rw [← e9, ← e8, ← e7, ← e6, ← e5, ← e4, ← e3, ← e2, ← e1]
  exact e0
theorem deedsP_back : ∀ (n : Nat) {l r : List UInt8} {acc ds : List Dd}, deedsP n l acc = some (ds, r) → ∃ t, ds = acc ++ t ∧ t.length = n ∧ l = t.flatMap ddL ++ r ∧ ∀ d ∈ t, d.Small
  | 0, l, r, acc, ds, h => by
    unfold deedsP at h
    simp only [Option.some.injEq, Prod.mk.injEq] at h
    obtain ⟨rfl, rfl⟩ := h
    exact ⟨[], by simp, rfl, rfl, fun d hd => by cases hd⟩
  | n + 1, l, r, acc, ds, h => by
    unfold deedsP at h
    obtain ⟨⟨y, l1⟩, h1, h2⟩ := Option.bind_eq_some_iff.1 h
    obtain ⟨e1, g1⟩ := deedP_back h1
    obtain ⟨t, e2, e3, e4, g2⟩ := deedsP_back n h2
    simp only at e2 e4
    refine ⟨y :: t, by rw [e2, List.append_assoc]; rfl, by rw [List.length_cons, e3], by rw [e1, e4, List.flatMap_cons, List.append_assoc], fun d hd => ?_⟩
    rcases List.mem_cons.1 hd with rfl | hd
    · exact g1
    · exact g2 d hd
theorem takeE_back {l : List UInt8} {ds : List Dd} (h : takeE l = .ok ds) : l = dsL ds ∧ (1 ≤ ds.length ∧ ds.length ≤ 12) ∧ ∀ d ∈ ds, d.Small := by
  unfold takeE at h
  cases hn : numP 1 l with
  | none => rw [hn] at h; cases h
  | some x =>
    obtain ⟨n, l1⟩ := x
    rw [hn] at h
    dsimp only at h
    by_cases hb : n = 0 ∨ 12 < n
    · rw [if_pos hb] at h; cases h
    rw [if_neg hb] at h
    cases hd : deedsP n l1 [] with
    | none => rw [hd] at h; cases h
    | some y =>
      obtain ⟨ds', rest⟩ := y
      rw [hd] at h
      dsimp only at h
      by_cases hr : rest = []
      · rw [if_pos hr] at h
        injection h with h
        subst h
        subst hr
        obtain ⟨e1, g1⟩ := numP_back hn
        obtain ⟨t, e2, e3, e4, g2⟩ := deedsP_back n hd
        rw [List.nil_append] at e2
        subst e2
        rw [List.append_nil] at e4
        exact ⟨by unfold dsL; rw [e3, ← e4]; exact e1, by omega, g2⟩
      · rw [if_neg hr] at h; cases h
/-- A letter, box, user that comes back. -/
structure Letr.Small (x : Letr) : Prop where
  uid : 0 ≤ x.uid ∧ x.uid < 4294967296
  bytes : x.bytes.length < 65536
theorem letP_lay (x : Letr) (r : List UInt8) (h : x.Small) : letP (letL x ++ r) = some (x, r) := by
  obtain ⟨⟨h0, h1⟩, h2⟩ := h
  have h6 := x.flags.toNat_lt
  unfold letP letL
  simp only [List.append_assoc]
  rw [numP_lay 4 _ _ (by omega)]
  simp only [Option.bind_some]
  rw [numP_lay 1 _ _ (by omega)]
  simp only [Option.bind_some]
  rw [bodyP_lay _ _ h2]
  simp only [Option.bind_some, UInt8.ofNat_toNat, Int.toNat_of_nonneg h0]
theorem letP_back {l r : List UInt8} {x : Letr} (h : letP l = some (x, r)) : l = letL x ++ r ∧ x.Small := by
  unfold letP at h
  simp only [Option.bind_eq_some_iff] at h
  obtain ⟨⟨a0, b0⟩, h0, ⟨a1, b1⟩, h1, ⟨a2, b2⟩, h2, h10⟩ := h
  simp only [Option.some.injEq, Prod.mk.injEq] at h10
  obtain ⟨h10, h11⟩ := h10
  subst h11
  obtain ⟨e0, g0⟩ := numP_back h0
  obtain ⟨e1, g1⟩ := numP_back h1
  obtain ⟨e2, g2⟩ := bodyP_back h2
  simp only at e0 e1 e2
  subst h10
  refine ⟨?_, ⟨⟨by dsimp only; omega, by dsimp only; omega⟩, g2⟩⟩
  unfold letL
  dsimp only
  rw [flags_back g1, Int.toNat_natCast]
  simp only [List.append_assoc]
  rw [← e2, ← e1]
  exact e0
theorem letsP_lay : ∀ (ds acc : List Letr) (r : List UInt8), (∀ d ∈ ds, d.Small) → letsP ds.length (ds.flatMap letL ++ r) acc = some (acc ++ ds, r)
  | [], acc, r, _ => by simp [letsP]
  | d :: t, acc, r, h => by
    rw [List.length_cons, letsP, List.flatMap_cons, List.append_assoc, letP_lay d _ (h d (List.mem_cons_self ..)), Option.bind_some]
    dsimp only
    rw [letsP_lay t (acc ++ [d]) r (fun x hx => h x (List.mem_cons_of_mem _ hx)), List.append_assoc]
    rfl
theorem letsP_back : ∀ (n : Nat) {l r : List UInt8} {acc ds : List Letr}, letsP n l acc = some (ds, r) → ∃ t, ds = acc ++ t ∧ t.length = n ∧ l = t.flatMap letL ++ r ∧ ∀ d ∈ t, d.Small
  | 0, l, r, acc, ds, h => by
    unfold letsP at h
    simp only [Option.some.injEq, Prod.mk.injEq] at h
    obtain ⟨rfl, rfl⟩ := h
    exact ⟨[], by simp, rfl, rfl, fun d hd => by cases hd⟩
  | n + 1, l, r, acc, ds, h => by
    unfold letsP at h
    obtain ⟨⟨y, l1⟩, h1, h2⟩ := Option.bind_eq_some_iff.1 h
    obtain ⟨e1, g1⟩ := letP_back h1
    obtain ⟨t, e2, e3, e4, g2⟩ := letsP_back n h2
    simp only at e2 e4
    refine ⟨y :: t, by rw [e2, List.append_assoc]; rfl, by rw [List.length_cons, e3], by rw [e1, e4, List.flatMap_cons, List.append_assoc], fun d hd => ?_⟩
    rcases List.mem_cons.1 hd with rfl | hd
    · exact g1
    · exact g2 d hd
structure BxD.Small (x : BxD) : Prop where
  name : x.name.size < 256
  valid : 0 ≤ x.valid ∧ x.valid < 4294967296
  next : 0 ≤ x.next ∧ x.next < 4294967296
  few : x.ls.length < 256
  lets : ∀ d ∈ x.ls, d.Small
theorem boxP_lay (x : BxD) (r : List UInt8) (h : x.Small) : boxP (bxL x ++ r) = some (x, r) := by
  obtain ⟨h0, ⟨h1, h2⟩, ⟨h3, h4⟩, h5, h6⟩ := h
  unfold boxP bxL boxL
  simp only [List.append_assoc]
  rw [textP_lay _ _ h0]
  simp only [Option.bind_some]
  rw [numP_lay 4 _ _ (by omega)]
  simp only [Option.bind_some]
  rw [numP_lay 4 _ _ (by omega)]
  simp only [Option.bind_some]
  rw [numP_lay 1 _ _ (by omega)]
  simp only [Option.bind_some]
  rw [letsP_lay _ _ _ h6]
  simp only [Option.bind_some, bytes_back, List.nil_append, Int.toNat_of_nonneg h1, Int.toNat_of_nonneg h3]
theorem boxP_back {l r : List UInt8} {x : BxD} (h : boxP l = some (x, r)) : l = bxL x ++ r ∧ x.Small := by
  unfold boxP at h
  simp only [Option.bind_eq_some_iff] at h
  obtain ⟨⟨a0, b0⟩, h0, ⟨a1, b1⟩, h1, ⟨a2, b2⟩, h2, ⟨a3, b3⟩, h3, ⟨a4, b4⟩, h4, h10⟩ := h
  simp only [Option.some.injEq, Prod.mk.injEq] at h10
  obtain ⟨h10, h11⟩ := h10
  subst h11
  obtain ⟨e0, g0⟩ := textP_back h0
  obtain ⟨e1, g1⟩ := numP_back h1
  obtain ⟨e2, g2⟩ := numP_back h2
  obtain ⟨e3, g3⟩ := numP_back h3
  obtain ⟨t, e4, e5, e6, g4⟩ := letsP_back _ h4
  simp only at e0 e1 e2 e3 e4 e5 e6
  rw [List.nil_append] at e4
  subst e4
  subst e5
  subst h10
  refine ⟨?_, ⟨g0, ⟨by dsimp only; omega, by dsimp only; omega⟩, ⟨by dsimp only; omega, by dsimp only; omega⟩, by simpa using g3, g4⟩⟩
  unfold bxL boxL
  dsimp only
  rw [Int.toNat_natCast, Int.toNat_natCast]
  simp only [List.append_assoc]
  rw [← e6, ← e3, ← e2, ← e1]
  exact e0
theorem boxsP_lay : ∀ (ds acc : List BxD) (r : List UInt8), (∀ d ∈ ds, d.Small) → boxsP ds.length (ds.flatMap bxL ++ r) acc = some (acc ++ ds, r)
  | [], acc, r, _ => by simp [boxsP]
  | d :: t, acc, r, h => by
    rw [List.length_cons, boxsP, List.flatMap_cons, List.append_assoc, boxP_lay d _ (h d (List.mem_cons_self ..)), Option.bind_some]
    dsimp only
    rw [boxsP_lay t (acc ++ [d]) r (fun x hx => h x (List.mem_cons_of_mem _ hx)), List.append_assoc]
    rfl
theorem boxsP_back : ∀ (n : Nat) {l r : List UInt8} {acc ds : List BxD}, boxsP n l acc = some (ds, r) → ∃ t, ds = acc ++ t ∧ t.length = n ∧ l = t.flatMap bxL ++ r ∧ ∀ d ∈ t, d.Small
  | 0, l, r, acc, ds, h => by
    unfold boxsP at h
    simp only [Option.some.injEq, Prod.mk.injEq] at h
    obtain ⟨rfl, rfl⟩ := h
    exact ⟨[], by simp, rfl, rfl, fun d hd => by cases hd⟩
  | n + 1, l, r, acc, ds, h => by
    unfold boxsP at h
    obtain ⟨⟨y, l1⟩, h1, h2⟩ := Option.bind_eq_some_iff.1 h
    obtain ⟨e1, g1⟩ := boxP_back h1
    obtain ⟨t, e2, e3, e4, g2⟩ := boxsP_back n h2
    simp only at e2 e4
    refine ⟨y :: t, by rw [e2, List.append_assoc]; rfl, by rw [List.length_cons, e3], by rw [e1, e4, List.flatMap_cons, List.append_assoc], fun d hd => ?_⟩
    rcases List.mem_cons.1 hd with rfl | hd
    · exact g1
    · exact g2 d hd
structure UsD.Small (u : UsD) : Prop where
  name : u.name.size < 256
  valid : 0 ≤ u.valid ∧ u.valid < 4294967296
  few : u.bs.length < 256
  boxes : ∀ b ∈ u.bs, b.Small
theorem takeU_lay (u : UsD) (h : u.Small) : takeU (userL u) = .ok u := by
  obtain ⟨h0, ⟨h1, h2⟩, h3, h4⟩ := h
  have e : userP (userL u) = some (u, []) := by
    unfold userP userL
    simp only [List.append_assoc]
    rw [textP_lay _ _ h0]
    simp only [Option.bind_some]
    rw [numP_lay 4 _ _ (by omega)]
    simp only [Option.bind_some]
    rw [numP_lay 1 _ _ (by omega)]
    simp only [Option.bind_some]
    have := boxsP_lay u.bs [] [] h4
    rw [List.append_nil] at this
    rw [this]
    simp only [Option.bind_some, bytes_back, List.nil_append, Int.toNat_of_nonneg h1]
  unfold takeU
  rw [e]
  rfl
theorem takeU_back {l : List UInt8} {u : UsD} (h : takeU l = .ok u) : l = userL u ∧ u.Small := by
  unfold takeU at h
  cases hu : userP l with
  | none => rw [hu] at h; cases h
  | some x =>
    obtain ⟨v, r⟩ := x
    rw [hu] at h
    dsimp only at h
    by_cases hr : r = []
    · rw [if_pos hr] at h
      injection h with h
      subst h
      subst hr
      unfold userP at hu
      simp only [Option.bind_eq_some_iff] at hu
      obtain ⟨⟨a0, b0⟩, h0, ⟨a1, b1⟩, h1, ⟨a2, b2⟩, h2, ⟨a3, b3⟩, h3, h10⟩ := hu
      simp only [Option.some.injEq, Prod.mk.injEq] at h10
      obtain ⟨h10, h11⟩ := h10
      subst h11
      obtain ⟨e0, g0⟩ := textP_back h0
      obtain ⟨e1, g1⟩ := numP_back h1
      obtain ⟨e2, g2⟩ := numP_back h2
      obtain ⟨t, e4, e5, e6, g4⟩ := boxsP_back _ h3
      simp only at e0 e1 e2 e4 e5 e6
      rw [List.nil_append] at e4
      rw [List.append_nil] at e6
      subst e4
      subst e5
      subst h10
      refine ⟨?_, ⟨g0, ⟨by dsimp only; omega, by dsimp only; omega⟩, by simpa using g2, g4⟩⟩
      unfold userL
      dsimp only
      rw [Int.toNat_natCast]
      simp only [List.append_assoc]
      rw [← e6, ← e2, ← e1]
      exact e0
    · rw [if_neg hr] at h; cases h
end Go.Proofs.YtjljbnilckkjnaaDoor
