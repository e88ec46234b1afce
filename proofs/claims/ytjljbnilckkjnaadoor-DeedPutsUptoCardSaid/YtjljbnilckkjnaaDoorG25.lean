/- Deed: Check. -/
import Derived.Test.YtjljbnilckkjnaaDoorG24
import Derived.Deep.RegionHeld3
import Derived.Deep.DeepCutAuto
namespace Go.Proofs.YtjljbnilckkjnaaDoor
open Go Go.RowKit

def isA (d : Di) (l : List Int) : Bool := l.any (fun x => d.act == x)
/-- What is wrong with a deed. -/
def ckDeed (d : Di) : Int :=
  if d.act < 1 then 14 else if 9 < d.act then 14 else if rightU d.user = false then 4
  else if nmB d.box (isA d [2, 3, 4, 5, 6, 7]) = false then 4
  else if nmB d.dest (isA d [7]) = false then 4
  else if cntB d.uid (isA d [5, 6]) 1 4294967295 = false then 2
  else if cntB d.how (isA d [5]) 0 2 = false then 2
  else if cntB (d.flags.toNat : Int) (isA d [4, 5]) 0 31 = false then 2
  else if cntB d.shard (isA d [9]) 0 3 = false then 2
  else if cntB d.epoch (isA d [8, 9]) 1 4294967295 = false then 2
  else if (isA d [4] && decide (600 < (d.bytes.length : Int))) = true then 6
  else if (!isA d [4, 8] && decide (0 < (d.bytes.length : Int))) = true then 2
  else if isA d [8] = true then ckEntry d.user d.bytes else 0
theorem bel_alloc {w wx : World} (h : Below w.heap.size w wx) (o : Obj) : Below w.heap.size w (wx.alloc o) := h.alloc h.size o
theorem bel_bring {w wx : World} {f : Nat} {args : Array Value} {v : Value} (hb : Below w.heap.size w wx) (h : Calls Tryd.prog f args wx fun e w' => e = .returned v ∧ Below wx.heap.size wx w') : Calls Tryd.prog f args wx fun e w' => e = .returned v ∧ Below w.heap.size w w' :=
  h.mono fun _ _ ⟨h1, h2⟩ => ⟨h1, hb.trans (h2.mono hb.size)⟩
theorem bel_same {w wx : World} {f : Nat} {args : Array Value} {v : Value} (hb : Below w.heap.size w wx) (h : Calls Tryd.prog f args wx fun e w' => e = .returned v ∧ wx = w') : Calls Tryd.prog f args wx fun e w' => e = .returned v ∧ Below w.heap.size w w' :=
  h.mono fun _ _ ⟨h1, h2⟩ => ⟨h1, h2 ▸ hb⟩
theorem nums_lit (w : World) (l : List Int) (t : TypeId) : Nums (w.alloc (.cells (l.map (fun x => Value.int .i64 x)).toArray t)) w.heap.size l := fun i x hx => by
  rw [cell_of_row _ _ _ _ _ _ (heap_alloc_new w _)]
  simp [hx]
/-- What the walk of Check leans on. -/
structure ChkK (w wb : World) (d : Di) (pv : Value) (A5 A6 A8 A9 A10 A11 A12 A14 A16 A18 BU B5 B6 B8 B9 B10 B11 B12 : Bool) (CE E : Int) : Prop where
  hd5 : ∀ wx g, Nums wx g [2, 3, 4, 5, 6, 7] → Below wb.heap.size wb wx → Calls Tryd.prog 36 #[.slice (some ⟨g, 0, none⟩) 6 6, .pointer (some ⟨w.heap.size, 0, none⟩)] wx fun e w' => e = .returned (.bool A5) ∧ Below wb.heap.size wb w'
  hd6 : ∀ wx g, Nums wx g [7] → Below wb.heap.size wb wx → Calls Tryd.prog 36 #[.slice (some ⟨g, 0, none⟩) 1 1, .pointer (some ⟨w.heap.size, 0, none⟩)] wx fun e w' => e = .returned (.bool A6) ∧ Below wb.heap.size wb w'
  hd8 : ∀ wx g, Nums wx g [5, 6] → Below wb.heap.size wb wx → Calls Tryd.prog 36 #[.slice (some ⟨g, 0, none⟩) 2 2, .pointer (some ⟨w.heap.size, 0, none⟩)] wx fun e w' => e = .returned (.bool A8) ∧ Below wb.heap.size wb w'
  hd9 : ∀ wx g, Nums wx g [5] → Below wb.heap.size wb wx → Calls Tryd.prog 36 #[.slice (some ⟨g, 0, none⟩) 1 1, .pointer (some ⟨w.heap.size, 0, none⟩)] wx fun e w' => e = .returned (.bool A9) ∧ Below wb.heap.size wb w'
  hd10 : ∀ wx g, Nums wx g [4, 5] → Below wb.heap.size wb wx → Calls Tryd.prog 36 #[.slice (some ⟨g, 0, none⟩) 2 2, .pointer (some ⟨w.heap.size, 0, none⟩)] wx fun e w' => e = .returned (.bool A10) ∧ Below wb.heap.size wb w'
  hd11 : ∀ wx g, Nums wx g [9] → Below wb.heap.size wb wx → Calls Tryd.prog 36 #[.slice (some ⟨g, 0, none⟩) 1 1, .pointer (some ⟨w.heap.size, 0, none⟩)] wx fun e w' => e = .returned (.bool A11) ∧ Below wb.heap.size wb w'
  hd12 : ∀ wx g, Nums wx g [8, 9] → Below wb.heap.size wb wx → Calls Tryd.prog 36 #[.slice (some ⟨g, 0, none⟩) 2 2, .pointer (some ⟨w.heap.size, 0, none⟩)] wx fun e w' => e = .returned (.bool A12) ∧ Below wb.heap.size wb w'
  hd14 : ∀ wx g, Nums wx g [4] → Below wb.heap.size wb wx → Calls Tryd.prog 36 #[.slice (some ⟨g, 0, none⟩) 1 1, .pointer (some ⟨w.heap.size, 0, none⟩)] wx fun e w' => e = .returned (.bool A14) ∧ Below wb.heap.size wb w'
  hd16 : ∀ wx g, Nums wx g [4, 8] → Below wb.heap.size wb wx → Calls Tryd.prog 36 #[.slice (some ⟨g, 0, none⟩) 2 2, .pointer (some ⟨w.heap.size, 0, none⟩)] wx fun e w' => e = .returned (.bool A16) ∧ Below wb.heap.size wb w'
  hd18 : ∀ wx g, Nums wx g [8] → Below wb.heap.size wb wx → Calls Tryd.prog 36 #[.slice (some ⟨g, 0, none⟩) 1 1, .pointer (some ⟨w.heap.size, 0, none⟩)] wx fun e w' => e = .returned (.bool A18) ∧ Below wb.heap.size wb w'
  hn5 : ∀ wx, Below wb.heap.size wb wx → Calls Tryd.prog 38 #[.string d.box, .bool A5] wx fun e w' => e = .returned (.bool B5) ∧ Below wb.heap.size wb w'
  hk5 : ∀ wx, Below wb.heap.size wb wx → wx.cell? ⟨w.heap.size, 2, none⟩ = some (.string d.box)
  hn6 : ∀ wx, Below wb.heap.size wb wx → Calls Tryd.prog 38 #[.string d.dest, .bool A6] wx fun e w' => e = .returned (.bool B6) ∧ Below wb.heap.size wb w'
  hk6 : ∀ wx, Below wb.heap.size wb wx → wx.cell? ⟨w.heap.size, 3, none⟩ = some (.string d.dest)
  hn8 : ∀ wx, Below wb.heap.size wb wx → Calls Tryd.prog 39 #[.int .i64 d.uid, .bool A8, .int .i64 1, .int .i64 4294967295] wx fun e w' => e = .returned (.bool B8) ∧ Below wb.heap.size wb w'
  hk8 : ∀ wx, Below wb.heap.size wb wx → wx.cell? ⟨w.heap.size, 4, none⟩ = some (.int .i64 d.uid)
  hn9 : ∀ wx, Below wb.heap.size wb wx → Calls Tryd.prog 39 #[.int .i64 d.how, .bool A9, .int .i64 0, .int .i64 2] wx fun e w' => e = .returned (.bool B9) ∧ Below wb.heap.size wb w'
  hk9 : ∀ wx, Below wb.heap.size wb wx → wx.cell? ⟨w.heap.size, 5, none⟩ = some (.int .i64 d.how)
  hn10 : ∀ wx, Below wb.heap.size wb wx → Calls Tryd.prog 39 #[.int .i64 (IntKind.i64.wrap (d.flags.toNat : Int)), .bool A10, .int .i64 0, .int .i64 31] wx fun e w' => e = .returned (.bool B10) ∧ Below wb.heap.size wb w'
  hk10 : ∀ wx, Below wb.heap.size wb wx → wx.cell? ⟨w.heap.size, 6, none⟩ = some (.int .u8 (d.flags.toNat : Int))
  hn11 : ∀ wx, Below wb.heap.size wb wx → Calls Tryd.prog 39 #[.int .i64 d.shard, .bool A11, .int .i64 0, .int .i64 3] wx fun e w' => e = .returned (.bool B11) ∧ Below wb.heap.size wb w'
  hk11 : ∀ wx, Below wb.heap.size wb wx → wx.cell? ⟨w.heap.size, 7, none⟩ = some (.int .i64 d.shard)
  hn12 : ∀ wx, Below wb.heap.size wb wx → Calls Tryd.prog 39 #[.int .i64 d.epoch, .bool A12, .int .i64 1, .int .i64 4294967295] wx fun e w' => e = .returned (.bool B12) ∧ Below wb.heap.size wb w'
  hk12 : ∀ wx, Below wb.heap.size wb wx → wx.cell? ⟨w.heap.size, 8, none⟩ = some (.int .i64 d.epoch)
  hu : Calls Tryd.prog 12 #[.string d.user] wb fun e w' => e = .returned (.bool BU) ∧ Below wb.heap.size wb w'
  hkl : ∀ wx, Below wb.heap.size wb wx → wx.cell? ⟨w.heap.size, 9, none⟩ = some pv
  hrow : ∀ wx, Below wb.heap.size wb wx → wx.heap[w.heap.size]? = some (.cells (diC d pv) 28 (0, 0))
  hce : ∀ wx, Below wb.heap.size wb wx → Calls Tryd.prog 40 #[.agg (diC d pv)] wx fun e w' => e = .returned (.int .i64 CE) ∧ Below wb.heap.size wb w'
  fin : ∀ wx, Below wb.heap.size wb wx → Below w.heap.size w wx
  xu : BU = false → (4 : Int) = E
  x5 : BU = true → B5 = false → (4 : Int) = E
  x6 : BU = true → B5 = true → B6 = false → (4 : Int) = E
  x8 : BU = true → B5 = true → B6 = true → B8 = false → (2 : Int) = E
  x9 : BU = true → B5 = true → B6 = true → B8 = true → B9 = false → (2 : Int) = E
  x10 : BU = true → B5 = true → B6 = true → B8 = true → B9 = true → B10 = false → (2 : Int) = E
  x11 : BU = true → B5 = true → B6 = true → B8 = true → B9 = true → B10 = true → B11 = false → (2 : Int) = E
  x12 : BU = true → B5 = true → B6 = true → B8 = true → B9 = true → B10 = true → B11 = true → B12 = false → (2 : Int) = E
  x14 : BU = true → B5 = true → B6 = true → B8 = true → B9 = true → B10 = true → B11 = true → B12 = true → (A14 && decide (600 < (d.bytes.length : Int))) = true → (6 : Int) = E
  x16 : BU = true → B5 = true → B6 = true → B8 = true → B9 = true → B10 = true → B11 = true → B12 = true → ¬ (A14 && decide (600 < (d.bytes.length : Int))) = true → (!A16 && decide (0 < (d.bytes.length : Int))) = true → (2 : Int) = E
  x18 : BU = true → B5 = true → B6 = true → B8 = true → B9 = true → B10 = true → B11 = true → B12 = true → ¬ (A14 && decide (600 < (d.bytes.length : Int))) = true → ¬ (!A16 && decide (0 < (d.bytes.length : Int))) = true → A18 = true → CE = E
  x19 : BU = true → B5 = true → B6 = true → B8 = true → B9 = true → B10 = true → B11 = true → B12 = true → ¬ (A14 && decide (600 < (d.bytes.length : Int))) = true → ¬ (!A16 && decide (0 < (d.bytes.length : Int))) = true → A18 = false → (0 : Int) = E
theorem chk_k (d : Di) (pv : Value) (w wb : World) (hwb : wb = w.alloc (.cells (diC d pv) 28)) (hp : Byz w pv d.bytes) (hl : d.bytes.length ≤ 9223372036854775807) (hs : d.user.size ≤ 9223372036854775807) (hT : Tabs w) (ha1 : ¬ d.act < 1) (ha9 : ¬ 9 < d.act) :
    ∃ A5 A6 A8 A9 A10 A11 A12 A14 A16 A18 BU B5 B6 B8 B9 B10 B11 B12 CE, ChkK w wb d pv A5 A6 A8 A9 A10 A11 A12 A14 A16 A18 BU B5 B6 B8 B9 B10 B11 B12 CE (ckDeed d) := by
  have hb0 : Below w.heap.size w wb := by rw [hwb]; exact (Below.refl _ w).alloc (Nat.le_refl _) _
  have hrow : wb.heap[w.heap.size]? = some (.cells (diC d pv) 28 (0, 0)) := by rw [hwb]; exact heap_alloc_new w _
  have hNlt : w.heap.size < wb.heap.size := (Array.getElem?_eq_some_iff.1 hrow).1
  have hT0 : Tabs wb := hT.below hb0 (Nat.le_refl _)
  have hz0 : Byz wb pv d.bytes := hp.below hb0
  have KR : ∀ wx, Below wb.heap.size wb wx → wx.heap[w.heap.size]? = some (.cells (diC d pv) 28 (0, 0)) := fun wx hb => below_row hrow hb hNlt
  have KC : ∀ wx, Below wb.heap.size wb wx → ∀ j, wx.cell? ⟨w.heap.size, j, none⟩ = (diC d pv)[j]? := fun wx hb j => cell_of_row _ _ _ _ _ _ (KR wx hb)
  obtain ⟨E, hE⟩ : ∃ E, ckDeed d = E := ⟨_, rfl⟩
  rw [hE]
  unfold ckDeed at hE
  rw [if_neg ha1, if_neg ha9] at hE
  refine ⟨isA d [2, 3, 4, 5, 6, 7], isA d [7], isA d [5, 6], isA d [5], isA d [4, 5], isA d [9], isA d [8, 9], isA d [4], isA d [4, 8], isA d [8], rightU d.user, nmB d.box (isA d [2, 3, 4, 5, 6, 7]), nmB d.dest (isA d [7]), cntB d.uid (isA d [5, 6]) 1 4294967295, cntB d.how (isA d [5]) 0 2, cntB (d.flags.toNat : Int) (isA d [4, 5]) 0 31, cntB d.shard (isA d [9]) 0 3, cntB d.epoch (isA d [8, 9]) 1 4294967295, ckEntry d.user d.bytes, ?_⟩
  constructor
  · exact fun wx g hn hb => (doesDo wx g 6 w.heap.size [2, 3, 4, 5, 6, 7] d.act hn (by decide) (KC wx hb 0)).mono fun e w' ⟨h1, h2⟩ => ⟨h1, h2 ▸ hb⟩
  · exact fun wx g hn hb => (doesDo wx g 1 w.heap.size [7] d.act hn (by decide) (KC wx hb 0)).mono fun e w' ⟨h1, h2⟩ => ⟨h1, h2 ▸ hb⟩
  · exact fun wx g hn hb => (doesDo wx g 2 w.heap.size [5, 6] d.act hn (by decide) (KC wx hb 0)).mono fun e w' ⟨h1, h2⟩ => ⟨h1, h2 ▸ hb⟩
  · exact fun wx g hn hb => (doesDo wx g 1 w.heap.size [5] d.act hn (by decide) (KC wx hb 0)).mono fun e w' ⟨h1, h2⟩ => ⟨h1, h2 ▸ hb⟩
  · exact fun wx g hn hb => (doesDo wx g 2 w.heap.size [4, 5] d.act hn (by decide) (KC wx hb 0)).mono fun e w' ⟨h1, h2⟩ => ⟨h1, h2 ▸ hb⟩
  · exact fun wx g hn hb => (doesDo wx g 1 w.heap.size [9] d.act hn (by decide) (KC wx hb 0)).mono fun e w' ⟨h1, h2⟩ => ⟨h1, h2 ▸ hb⟩
  · exact fun wx g hn hb => (doesDo wx g 2 w.heap.size [8, 9] d.act hn (by decide) (KC wx hb 0)).mono fun e w' ⟨h1, h2⟩ => ⟨h1, h2 ▸ hb⟩
  · exact fun wx g hn hb => (doesDo wx g 1 w.heap.size [4] d.act hn (by decide) (KC wx hb 0)).mono fun e w' ⟨h1, h2⟩ => ⟨h1, h2 ▸ hb⟩
  · exact fun wx g hn hb => (doesDo wx g 2 w.heap.size [4, 8] d.act hn (by decide) (KC wx hb 0)).mono fun e w' ⟨h1, h2⟩ => ⟨h1, h2 ▸ hb⟩
  · exact fun wx g hn hb => (doesDo wx g 1 w.heap.size [8] d.act hn (by decide) (KC wx hb 0)).mono fun e w' ⟨h1, h2⟩ => ⟨h1, h2 ▸ hb⟩
  · exact fun wx hb => bel_bring hb (names_any _ _ wx (hT0.below hb (Nat.le_refl _)))
  · exact fun wx hb => KC wx hb 2
  · exact fun wx hb => bel_bring hb (names_any _ _ wx (hT0.below hb (Nat.le_refl _)))
  · exact fun wx hb => KC wx hb 3
  · exact fun wx hb => bel_same hb (counts_any _ _ _ _ wx)
  · exact fun wx hb => KC wx hb 4
  · exact fun wx hb => bel_same hb (counts_any _ _ _ _ wx)
  · exact fun wx hb => KC wx hb 5
  · exact fun wx hb => by rw [IntWalk.i64_in _ (by have := d.flags.toNat_lt; omega)]; exact bel_same hb (counts_any _ _ _ _ wx)
  · exact fun wx hb => KC wx hb 6
  · exact fun wx hb => bel_same hb (counts_any _ _ _ _ wx)
  · exact fun wx hb => KC wx hb 7
  · exact fun wx hb => bel_same hb (counts_any _ _ _ _ wx)
  · exact fun wx hb => KC wx hb 8
  · exact bel_bring (Below.refl _ wb) (rightUser_any d.user wb hs)
  · exact fun wx hb => KC wx hb 9
  · exact KR
  · exact fun wx hb => bel_bring hb (checkEntry_any d _ wx (hz0.below hb) hl (hT0.below hb (Nat.le_refl _)))
  · exact fun wx hb => hb0.trans (hb.mono hb0.size)
  · intro h; rw [if_pos h] at hE; exact hE
  · intro hu h; rw [if_neg (by rw [hu]; simp), if_pos h] at hE; exact hE
  · intro hu h5 h; rw [if_neg (by rw [hu]; simp), if_neg (by rw [h5]; simp), if_pos h] at hE; exact hE
  · intro hu h5 h6 h; rw [if_neg (by rw [hu]; simp), if_neg (by rw [h5]; simp), if_neg (by rw [h6]; simp), if_pos h] at hE; exact hE
  · intro hu h5 h6 h8 h; rw [if_neg (by rw [hu]; simp), if_neg (by rw [h5]; simp), if_neg (by rw [h6]; simp), if_neg (by rw [h8]; simp), if_pos h] at hE; exact hE
  · intro hu h5 h6 h8 h9 h; rw [if_neg (by rw [hu]; simp), if_neg (by rw [h5]; simp), if_neg (by rw [h6]; simp), if_neg (by rw [h8]; simp), if_neg (by rw [h9]; simp), if_pos h] at hE; exact hE
  · intro hu h5 h6 h8 h9 h10 h; rw [if_neg (by rw [hu]; simp), if_neg (by rw [h5]; simp), if_neg (by rw [h6]; simp), if_neg (by rw [h8]; simp), if_neg (by rw [h9]; simp), if_neg (by rw [h10]; simp), if_pos h] at hE; exact hE
  · intro hu h5 h6 h8 h9 h10 h11 h; rw [if_neg (by rw [hu]; simp), if_neg (by rw [h5]; simp), if_neg (by rw [h6]; simp), if_neg (by rw [h8]; simp), if_neg (by rw [h9]; simp), if_neg (by rw [h10]; simp), if_neg (by rw [h11]; simp), if_pos h] at hE; exact hE
  · intro hu h5 h6 h8 h9 h10 h11 h12 h; rw [if_neg (by rw [hu]; simp), if_neg (by rw [h5]; simp), if_neg (by rw [h6]; simp), if_neg (by rw [h8]; simp), if_neg (by rw [h9]; simp), if_neg (by rw [h10]; simp), if_neg (by rw [h11]; simp), if_neg (by rw [h12]; simp), if_pos h] at hE; exact hE
  · intro hu h5 h6 h8 h9 h10 h11 h12 g1 h; rw [if_neg (by rw [hu]; simp), if_neg (by rw [h5]; simp), if_neg (by rw [h6]; simp), if_neg (by rw [h8]; simp), if_neg (by rw [h9]; simp), if_neg (by rw [h10]; simp), if_neg (by rw [h11]; simp), if_neg (by rw [h12]; simp), if_neg g1, if_pos h] at hE; exact hE
  · intro hu h5 h6 h8 h9 h10 h11 h12 g1 g2 h; rw [if_neg (by rw [hu]; simp), if_neg (by rw [h5]; simp), if_neg (by rw [h6]; simp), if_neg (by rw [h8]; simp), if_neg (by rw [h9]; simp), if_neg (by rw [h10]; simp), if_neg (by rw [h11]; simp), if_neg (by rw [h12]; simp), if_neg g1, if_neg g2, if_pos h] at hE; exact hE
  · intro hu h5 h6 h8 h9 h10 h11 h12 g1 g2 h; rw [if_neg (by rw [hu]; simp), if_neg (by rw [h5]; simp), if_neg (by rw [h6]; simp), if_neg (by rw [h8]; simp), if_neg (by rw [h9]; simp), if_neg (by rw [h10]; simp), if_neg (by rw [h11]; simp), if_neg (by rw [h12]; simp), if_neg g1, if_neg g2, if_neg (by rw [h]; simp)] at hE; exact hE
set_option maxHeartbeats 8000000 in
set_option maxRecDepth 100000 in
theorem check_deed (d : Di) (pv : Value) (w : World) (hp : Byz w pv d.bytes) (hl : d.bytes.length ≤ 9223372036854775807) (hs : d.user.size ≤ 9223372036854775807) (hT : Tabs w) :
    Calls Tryd.prog 18 #[diV d pv] w fun e w' => e = .returned (.int .i64 (ckDeed d)) ∧ Below w.heap.size w w' := by
  obtain ⟨pa, pc, rfl⟩ := hp.1
  obtain ⟨wb, hwb⟩ : ∃ wb, wb = w.alloc (.cells (diC d (.slice pa d.bytes.length pc)) 28) := ⟨_, rfl⟩
  have hb0 : Below w.heap.size w wb := by rw [hwb]; exact (Below.refl _ w).alloc (Nat.le_refl _) _
  have hrow : wb.heap[w.heap.size]? = some (.cells (diC d (.slice pa d.bytes.length pc)) 28 (0, 0)) := by rw [hwb]; exact heap_alloc_new w _
  have c0 : wb.cell? ⟨w.heap.size, 0, none⟩ = some (.int .i64 d.act) := cell_of_row _ _ _ _ _ _ hrow
  have c1 : wb.cell? ⟨w.heap.size, 1, none⟩ = some (.string d.user) := cell_of_row _ _ _ _ _ _ hrow
  have HWB := Lib.hid (show w.alloc (.cells (diC d (.slice pa d.bytes.length pc)) 28) = wb from hwb.symm)
  by_cases ha1 : d.act < 1
  · have HX : Hid (14 = ckDeed d) := Lib.hid (by unfold ckDeed; rw [if_pos ha1])
    have HB := Lib.hid hb0
    generalize ckDeed d = E at *
    clear hwb hb0 hrow hp hl hs hT
    unfold diV diC at *
    go_enter Tryd.func18, Tryd.ntmps18
    go_wp2_with (first | rw [HWB.out])
    go_ret
    exact ⟨ret_int1 HX.out, HB.out⟩
  by_cases ha9 : 9 < d.act
  · have HX : Hid (14 = ckDeed d) := Lib.hid (by unfold ckDeed; rw [if_neg ha1, if_pos ha9])
    have HB := Lib.hid hb0
    generalize ckDeed d = E at *
    clear hwb hb0 hrow hp hl hs hT
    unfold diV diC at *
    go_enter Tryd.func18, Tryd.ntmps18
    go_wp2_with (first | rw [HWB.out])
    go_ret
    exact ⟨ret_int1 HX.out, HB.out⟩
  obtain ⟨A5, A6, A8, A9, A10, A11, A12, A14, A16, A18, BU, B5, B6, B8, B9, B10, B11, B12, CE, K⟩ := chk_k d _ w wb hwb hp hl hs hT ha1 ha9
  generalize ckDeed d = E at *
  clear hwb hb0 hrow hp hl hs hT
  have HU := Lib.hid K.hu
  have HA1 := ha1
  have HA9 := ha9
  unfold diV
  rw [show diC d (.slice pa d.bytes.length pc) = #[.int .i64 d.act, .string d.user, .string d.box, .string d.dest, .int .i64 d.uid, .int .i64 d.how, .int .u8 (d.flags.toNat : Int), .int .i64 d.shard, .int .i64 d.epoch, .slice pa d.bytes.length pc] from rfl] at HWB ⊢
  go_enter Tryd.func18, Tryd.ntmps18
  go_wp2_with (first | rw [HWB.out])
  refine HU.out.mono ?_
  rintro e w1 ⟨rfl, hb⟩
  have HB1 := Lib.hid hb
  clear hb HU c0 c1 HWB ha1 ha9 HA1 HA9
  cases BU with
  | false =>
    go_wp2
    go_ret
    exact ⟨ret_int1 (K.xu rfl), K.fin _ HB1.out⟩
  | true =>
  go_upto_region 5 with (fail)
  go_cut [13] (fun s wx => s = .bool (!B5) ∧ Below wb.heap.size wb wx)
  case first =>
    have hbw := HB1.out
    go_region_held3 (fun wx => Below wb.heap.size wb wx ∧ wx.cell? ⟨w.heap.size, 2, none⟩ = some (.string d.box)) (first | exact ⟨hbw, K.hk5 _ hbw⟩ | exact ⟨hbw.drew, K.hk5 _ hbw.drew⟩ | exact ⟨by assumption, by assumption⟩ | exact ⟨by assumption, K.hk5 _ (by assumption)⟩ | exact ⟨bel_alloc (by assumption) _, K.hk5 _ (bel_alloc (by assumption) _)⟩ | exact ⟨bel_alloc hbw.drew _, K.hk5 _ (bel_alloc hbw.drew _)⟩)
      (first
        | (go_at_call 36; (with_reducible refine (K.hd5 _ _ ?_ ?_).mono ?_); (first | exact nums_lit _ [2, 3, 4, 5, 6, 7] _); (first | assumption | exact (bel_alloc hbw _).drew | exact bel_alloc hbw.drew _ | exact bel_alloc (by assumption) _); rintro e wn ⟨rfl, hBn⟩)
        | (go_at_call 38; ((with_reducible refine (K.hn5 _ (by first | assumption | exact hbw.drew)).mono ?_); rintro e wn ⟨rfl, hBn⟩)))
    all_goals (go_wp2_with fail; go_meet; exact ⟨rfl, by assumption⟩)
  obtain ⟨rfl, hb⟩ := hcut
  have HB2 := Lib.hid hb
  clear hb HB1
  cases B5 with
  | false =>
    go_wp2
    go_ret
    exact ⟨ret_int1 (K.x5 rfl rfl), K.fin _ HB2.out⟩
  | true =>
  go_upto_region 6 with (fail)
  go_cut [13] (fun s wx => s = .bool (!B6) ∧ Below wb.heap.size wb wx)
  case first =>
    have hbw := HB2.out
    go_region_held3 (fun wx => Below wb.heap.size wb wx ∧ wx.cell? ⟨w.heap.size, 3, none⟩ = some (.string d.dest)) (first | exact ⟨hbw, K.hk6 _ hbw⟩ | exact ⟨hbw.drew, K.hk6 _ hbw.drew⟩ | exact ⟨by assumption, by assumption⟩ | exact ⟨by assumption, K.hk6 _ (by assumption)⟩ | exact ⟨bel_alloc (by assumption) _, K.hk6 _ (bel_alloc (by assumption) _)⟩ | exact ⟨bel_alloc hbw.drew _, K.hk6 _ (bel_alloc hbw.drew _)⟩)
      (first
        | (go_at_call 36; (with_reducible refine (K.hd6 _ _ ?_ ?_).mono ?_); (first | exact nums_lit _ [7] _); (first | assumption | exact (bel_alloc hbw _).drew | exact bel_alloc hbw.drew _ | exact bel_alloc (by assumption) _); rintro e wn ⟨rfl, hBn⟩)
        | (go_at_call 38; ((with_reducible refine (K.hn6 _ (by first | assumption | exact hbw.drew)).mono ?_); rintro e wn ⟨rfl, hBn⟩)))
    all_goals (go_wp2_with fail; go_meet; exact ⟨rfl, by assumption⟩)
  obtain ⟨rfl, hb⟩ := hcut
  have HB3 := Lib.hid hb
  clear hb HB2
  cases B6 with
  | false =>
    go_wp2
    go_ret
    exact ⟨ret_int1 (K.x6 rfl rfl rfl), K.fin _ HB3.out⟩
  | true =>
  go_upto_region 8 with (fail)
  go_cut [32] (fun s wx => s = .bool (!B8) ∧ Below wb.heap.size wb wx)
  case first =>
    have hbw := HB3.out
    go_region_held3 (fun wx => Below wb.heap.size wb wx ∧ wx.cell? ⟨w.heap.size, 4, none⟩ = some (.int .i64 d.uid)) (first | exact ⟨hbw, K.hk8 _ hbw⟩ | exact ⟨hbw.drew, K.hk8 _ hbw.drew⟩ | exact ⟨by assumption, by assumption⟩ | exact ⟨by assumption, K.hk8 _ (by assumption)⟩ | exact ⟨bel_alloc (by assumption) _, K.hk8 _ (bel_alloc (by assumption) _)⟩ | exact ⟨bel_alloc hbw.drew _, K.hk8 _ (bel_alloc hbw.drew _)⟩)
      (first
        | (go_at_call 36; (with_reducible refine (K.hd8 _ _ ?_ ?_).mono ?_); (first | exact nums_lit _ [5, 6] _); (first | assumption | exact (bel_alloc hbw _).drew | exact bel_alloc hbw.drew _ | exact bel_alloc (by assumption) _); rintro e wn ⟨rfl, hBn⟩)
        | (go_at_call 39; ((with_reducible refine (K.hn8 _ (by first | assumption | exact hbw.drew)).mono ?_); rintro e wn ⟨rfl, hBn⟩)))
    all_goals (go_wp2_with fail; go_meet; exact ⟨rfl, by assumption⟩)
  obtain ⟨rfl, hb⟩ := hcut
  have HB4 := Lib.hid hb
  clear hb HB3
  cases B8 with
  | false =>
    go_wp2
    go_ret
    exact ⟨ret_int1 (K.x8 rfl rfl rfl rfl), K.fin _ HB4.out⟩
  | true =>
  go_upto_region 9 with (fail)
  go_cut [32] (fun s wx => s = .bool (!B9) ∧ Below wb.heap.size wb wx)
  case first =>
    have hbw := HB4.out
    go_region_held3 (fun wx => Below wb.heap.size wb wx ∧ wx.cell? ⟨w.heap.size, 5, none⟩ = some (.int .i64 d.how)) (first | exact ⟨hbw, K.hk9 _ hbw⟩ | exact ⟨hbw.drew, K.hk9 _ hbw.drew⟩ | exact ⟨by assumption, by assumption⟩ | exact ⟨by assumption, K.hk9 _ (by assumption)⟩ | exact ⟨bel_alloc (by assumption) _, K.hk9 _ (bel_alloc (by assumption) _)⟩ | exact ⟨bel_alloc hbw.drew _, K.hk9 _ (bel_alloc hbw.drew _)⟩)
      (first
        | (go_at_call 36; (with_reducible refine (K.hd9 _ _ ?_ ?_).mono ?_); (first | exact nums_lit _ [5] _); (first | assumption | exact (bel_alloc hbw _).drew | exact bel_alloc hbw.drew _ | exact bel_alloc (by assumption) _); rintro e wn ⟨rfl, hBn⟩)
        | (go_at_call 39; ((with_reducible refine (K.hn9 _ (by first | assumption | exact hbw.drew)).mono ?_); rintro e wn ⟨rfl, hBn⟩)))
    all_goals (go_wp2_with fail; go_meet; exact ⟨rfl, by assumption⟩)
  obtain ⟨rfl, hb⟩ := hcut
  have HB5 := Lib.hid hb
  clear hb HB4
  cases B9 with
  | false =>
    go_wp2
    go_ret
    exact ⟨ret_int1 (K.x9 rfl rfl rfl rfl rfl), K.fin _ HB5.out⟩
  | true =>
  go_upto_region 10 with (fail)
  go_cut [32] (fun s wx => s = .bool (!B10) ∧ Below wb.heap.size wb wx)
  case first =>
    have hbw := HB5.out
    go_region_held3 (fun wx => Below wb.heap.size wb wx ∧ wx.cell? ⟨w.heap.size, 6, none⟩ = some (.int .u8 (d.flags.toNat : Int))) (first | exact ⟨hbw, K.hk10 _ hbw⟩ | exact ⟨hbw.drew, K.hk10 _ hbw.drew⟩ | exact ⟨by assumption, by assumption⟩ | exact ⟨by assumption, K.hk10 _ (by assumption)⟩ | exact ⟨bel_alloc (by assumption) _, K.hk10 _ (bel_alloc (by assumption) _)⟩ | exact ⟨bel_alloc hbw.drew _, K.hk10 _ (bel_alloc hbw.drew _)⟩)
      (first
        | (go_at_call 36; (with_reducible refine (K.hd10 _ _ ?_ ?_).mono ?_); (first | exact nums_lit _ [4, 5] _); (first | assumption | exact (bel_alloc hbw _).drew | exact bel_alloc hbw.drew _ | exact bel_alloc (by assumption) _); rintro e wn ⟨rfl, hBn⟩)
        | (go_at_call 39; ((with_reducible refine (K.hn10 _ (by first | assumption | exact hbw.drew)).mono ?_); rintro e wn ⟨rfl, hBn⟩)))
    all_goals (go_wp2_with fail; go_meet; exact ⟨rfl, by assumption⟩)
  obtain ⟨rfl, hb⟩ := hcut
  have HB6 := Lib.hid hb
  clear hb HB5
  cases B10 with
  | false =>
    go_wp2
    go_ret
    exact ⟨ret_int1 (K.x10 rfl rfl rfl rfl rfl rfl), K.fin _ HB6.out⟩
  | true =>
  go_upto_region 11 with (fail)
  go_cut [32] (fun s wx => s = .bool (!B11) ∧ Below wb.heap.size wb wx)
  case first =>
    have hbw := HB6.out
    go_region_held3 (fun wx => Below wb.heap.size wb wx ∧ wx.cell? ⟨w.heap.size, 7, none⟩ = some (.int .i64 d.shard)) (first | exact ⟨hbw, K.hk11 _ hbw⟩ | exact ⟨hbw.drew, K.hk11 _ hbw.drew⟩ | exact ⟨by assumption, by assumption⟩ | exact ⟨by assumption, K.hk11 _ (by assumption)⟩ | exact ⟨bel_alloc (by assumption) _, K.hk11 _ (bel_alloc (by assumption) _)⟩ | exact ⟨bel_alloc hbw.drew _, K.hk11 _ (bel_alloc hbw.drew _)⟩)
      (first
        | (go_at_call 36; (with_reducible refine (K.hd11 _ _ ?_ ?_).mono ?_); (first | exact nums_lit _ [9] _); (first | assumption | exact (bel_alloc hbw _).drew | exact bel_alloc hbw.drew _ | exact bel_alloc (by assumption) _); rintro e wn ⟨rfl, hBn⟩)
        | (go_at_call 39; ((with_reducible refine (K.hn11 _ (by first | assumption | exact hbw.drew)).mono ?_); rintro e wn ⟨rfl, hBn⟩)))
    all_goals (go_wp2_with fail; go_meet; exact ⟨rfl, by assumption⟩)
  obtain ⟨rfl, hb⟩ := hcut
  have HB7 := Lib.hid hb
  clear hb HB6
  cases B11 with
  | false =>
    go_wp2
    go_ret
    exact ⟨ret_int1 (K.x11 rfl rfl rfl rfl rfl rfl rfl), K.fin _ HB7.out⟩
  | true =>
  go_upto_region 12 with (fail)
  go_cut [32] (fun s wx => s = .bool (!B12) ∧ Below wb.heap.size wb wx)
  case first =>
    have hbw := HB7.out
    go_region_held3 (fun wx => Below wb.heap.size wb wx ∧ wx.cell? ⟨w.heap.size, 8, none⟩ = some (.int .i64 d.epoch)) (first | exact ⟨hbw, K.hk12 _ hbw⟩ | exact ⟨hbw.drew, K.hk12 _ hbw.drew⟩ | exact ⟨by assumption, by assumption⟩ | exact ⟨by assumption, K.hk12 _ (by assumption)⟩ | exact ⟨bel_alloc (by assumption) _, K.hk12 _ (bel_alloc (by assumption) _)⟩ | exact ⟨bel_alloc hbw.drew _, K.hk12 _ (bel_alloc hbw.drew _)⟩)
      (first
        | (go_at_call 36; (with_reducible refine (K.hd12 _ _ ?_ ?_).mono ?_); (first | exact nums_lit _ [8, 9] _); (first | assumption | exact (bel_alloc hbw _).drew | exact bel_alloc hbw.drew _ | exact bel_alloc (by assumption) _); rintro e wn ⟨rfl, hBn⟩)
        | (go_at_call 39; ((with_reducible refine (K.hn12 _ (by first | assumption | exact hbw.drew)).mono ?_); rintro e wn ⟨rfl, hBn⟩)))
    all_goals (go_wp2_with fail; go_meet; exact ⟨rfl, by assumption⟩)
  obtain ⟨rfl, hb⟩ := hcut
  have HB8 := Lib.hid hb
  clear hb HB7
  cases B12 with
  | false =>
    go_wp2
    go_ret
    exact ⟨ret_int1 (K.x12 rfl rfl rfl rfl rfl rfl rfl rfl), K.fin _ HB8.out⟩
  | true =>
  have hbw := HB8.out
  go_wp2_with fail
  refine (K.hd14 _ _ (nums_lit _ [4] _) (bel_alloc hbw _)).mono ?_
  rintro e w2 ⟨rfl, hb⟩
  have HB20 := Lib.hid hb
  clear hb hbw HB8
  have c9 := K.hkl w2 HB20.out
  by_cases h14 : (A14 && decide (600 < (d.bytes.length : Int))) = true
  · have HX := Lib.hid (K.x14 rfl rfl rfl rfl rfl rfl rfl rfl h14)
    simp only [Bool.and_eq_true, decide_eq_true_eq] at h14
    obtain ⟨rfl, h6⟩ := h14
    go_wp2
    go_ret
    exact ⟨ret_int1 HX.out, K.fin _ HB20.out⟩
  have H14 := Lib.hid h14
  have hgo : A14 = false ∨ (A14 = true ∧ ¬ (600 : Int) < (d.bytes.length : Int)) := by
    cases A14 with
    | false => exact Or.inl rfl
    | true => exact Or.inr ⟨rfl, by simpa using h14⟩
  clear h14
  rcases hgo with rfl | ⟨rfl, h6⟩
  all_goals
    go_wp2_with fail
    refine (K.hd16 _ _ (nums_lit _ [4, 8] _) (bel_alloc HB20.out _)).mono ?_
    rintro e w3 ⟨rfl, hb⟩
    have HB21 := Lib.hid hb
    clear hb c9
    have c9 := K.hkl w3 HB21.out
    by_cases h16 : (!A16 && decide (0 < (d.bytes.length : Int))) = true
    · have HX := Lib.hid (K.x16 rfl rfl rfl rfl rfl rfl rfl rfl H14.out h16)
      simp only [Bool.and_eq_true, decide_eq_true_eq, Bool.not_eq_true'] at h16
      obtain ⟨rfl, h7⟩ := h16
      go_wp2
      go_ret
      exact ⟨ret_int1 HX.out, K.fin _ HB21.out⟩
    have H16 := Lib.hid h16
    have hgo : A16 = true ∨ (A16 = false ∧ ¬ (0 : Int) < (d.bytes.length : Int)) := by
      cases A16 with
      | true => exact Or.inl rfl
      | false => exact Or.inr ⟨rfl, by simpa using h16⟩
    clear h16
    rcases hgo with rfl | ⟨rfl, h7⟩
    all_goals
      go_wp2_with fail
      refine (K.hd18 _ _ (nums_lit _ [8] _) (bel_alloc HB21.out _)).mono ?_
      rintro e w4 ⟨rfl, hb⟩
      have HB22 := Lib.hid hb
      have HR22 := Lib.hid (K.hrow w4 hb)
      clear hb c9
      cases A18 with
      | true =>
        have HX := Lib.hid (K.x18 rfl rfl rfl rfl rfl rfl rfl rfl H14.out H16.out rfl)
        go_wp2_with (refine wpList_load_row rfl 28 _ rfl w.heap.size rfl 28 _ (0, 0) _ HR22.out Tryd.underlying28 rfl (by kernel_rfl) ?_)
        refine (K.hce _ HB22.out).mono ?_
        rintro e w5 ⟨rfl, hb⟩
        have HB23 := Lib.hid hb
        clear hb
        go_wp2
        go_ret
        exact ⟨ret_int1 HX.out, K.fin _ HB23.out⟩
      | false =>
        have HX := Lib.hid (K.x19 rfl rfl rfl rfl rfl rfl rfl rfl H14.out H16.out rfl)
        go_wp2
        go_ret
        exact ⟨ret_int1 HX.out, K.fin _ HB22.out⟩
end Go.Proofs.YtjljbnilckkjnaaDoor
