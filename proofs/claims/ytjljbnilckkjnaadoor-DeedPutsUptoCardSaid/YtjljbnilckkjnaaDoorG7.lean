/- Deed: bytes laid; a reader's number, text, body. -/
import Derived.Test.YtjljbnilckkjnaaDoorG2
import Derived.Test.YtjljbnilckkjnaaDoorBZ
import Derived.IntWalk
import Derived.StillTailTactics
namespace Go.Proofs.YtjljbnilckkjnaaDoor
open Go Go.RowKit

/-- What the call owns grows; all else stands. -/
structure Gr (w w' : World) (v v' : Value) : Prop where
  os : w'.os = w.os
  tape : w'.tape = w.tape
  output : w'.output = w.output
  size : w.heap.size ≤ w'.heap.size
  blk : ∀ b, b < w.heap.size → v.ownBlock ≠ some b → w'.heap[b]? = w.heap[b]? ∧ v'.ownBlock ≠ some b
theorem Gr.refl (w : World) (v : Value) : Gr w w v v := ⟨rfl, rfl, rfl, Nat.le_refl _, fun _ _ h => ⟨rfl, h⟩⟩
theorem Gr.trans {w w1 w2 : World} {v v1 v2 : Value} (h : Gr w w1 v v1) (h2 : Gr w1 w2 v1 v2) : Gr w w2 v v2 :=
  ⟨h2.os.trans h.os, h2.tape.trans h.tape, h2.output.trans h.output, Nat.le_trans h.size h2.size, fun b hb hv => by
    obtain ⟨a1, a2⟩ := h.blk b hb hv
    obtain ⟨c1, c2⟩ := h2.blk b (Nat.lt_of_lt_of_le hb h.size) a2
    exact ⟨c1.trans a1, c2⟩⟩
theorem Gr.of {w w' : World} {v v' : Value} (hg : w.grownBy w' v.ownBlock) (hn : v'.ownBlock = v.ownBlock ∨ ∀ g, v'.ownBlock = some g → w.heap.size ≤ g) : Gr w w' v v' :=
  ⟨hg.os, hg.tape, hg.output, hg.size, fun b hb hv => ⟨hg.block b hb (fun e => hv e.symm), fun e => by
    rcases hn with h | h
    · rw [h] at e; exact hv e
    · have := h b e; omega⟩⟩
theorem Gr.ofBelow {w w' : World} {v : Value} (hb : Below w.heap.size w w') : Gr w w' v v := ⟨hb.os, hb.tape, hb.output, hb.size, fun b h hv => ⟨hb.block b h, hv⟩⟩
theorem Gr.below {B : Nat} {w w' : World} {v v' : Value} {l : List UInt8} (h : Gr w w' v v') (hr : Row B w v l) (hB : B ≤ w.heap.size) : Below B w w' :=
  ⟨h.os, h.tape, h.output, h.size, fun b hb => (h.blk b (Nat.lt_of_lt_of_le hb hB) (fun e => by
    obtain ⟨a, c, rfl, _⟩ := hr.1.shape
    cases a with
    | none => simp [Value.ownBlock] at e
    | some ad =>
      have := (hr.2 ad _ _ rfl).1
      simp [Value.ownBlock] at e
      omega)).1⟩
/-- What an append-like function tells. -/
def PutR (B : Nat) (w : World) (v : Value) (l : List UInt8) (e : Ending) (w' : World) : Prop := ∃ v', e = .returned v' ∧ Row B w' v' l ∧ Gr w w' v v'

theorem info5g : (Tryd.prog.info? 5).map (fun i => (i.zero, i.size, i.bytes)) = some (some (.int .u8 0), 1, 1) := by kernel_rfl
/-- append(v, x) of one byte. -/
theorem app_byte (w : World) {B : Nat} {v : Value} {l : List UInt8} (c : UInt8) (x : Int) (hx : x = (c.toNat : Int)) (hv : Row B w v l) (hB : B ≤ w.heap.size) (hlen : l.length ≤ 140737488355000) :
    ∃ v' w', (∀ ty, (Builtin.append_ #[26, 26] ty #[v, .slice (some ⟨w.heap.size, 0, none⟩) 1 1]).run Tryd.prog (w.alloc (.cells #[.int .u8 x] 5)) = .ok v' w') ∧ Row B w' v' (l ++ [c]) ∧ Gr w w' v v' := by
  subst hx
  obtain ⟨i0, hi, hz0, hz1, hz2⟩ := info_parts info5g
  have hb : Below w.heap.size w (w.alloc (.cells #[.int .u8 (c.toNat : Int)] 5)) := (Below.refl _ w).alloc (Nat.le_refl _) _
  have hx : Byt (w.alloc (.cells #[.int .u8 (c.toNat : Int)] 5)) (.slice (some ⟨w.heap.size, 0, none⟩) 1 1) [c] :=
    (Row.made w 5 [c] #[.int .u8 (c.toNat : Int)] (by simp) (Nat.le_refl _) (by unfold maxLen; simp)).1
  obtain ⟨v', w', hr, ho, hg, hn⟩ := run_append_row (P := Tryd.prog) (w.alloc (.cells #[.int .u8 (c.toNat : Int)] 5)) 26 5 i0 Tryd.underlying26 hi hz0 hz1 hz2 (hv.below hb) hx (by simp; omega) (by simp; omega)
  exact ⟨v', w', hr, ho, (Gr.ofBelow hb).trans (Gr.of hg hn)⟩
/-- A number's bytes, the highest ahead. -/
def numL : Nat → Nat → List UInt8
  | 0, _ => []
  | k + 1, n => UInt8.ofNat (n / 256 ^ k) :: numL k n
theorem pow_eight (k : Nat) : 2 ^ (8 * k) = 256 ^ k := by rw [Nat.pow_mul]
theorem byte_ofg (n k : Nat) : (n : Int) / 2 ^ (8 * k) % 256 = ((UInt8.ofNat (n / 256 ^ k)).toNat : Int) := by
  have h1 : (UInt8.ofNat (n / 256 ^ k)).toNat = n / 256 ^ k % 256 := by simp
  rw [h1, ← pow_eight]
  rw [Int.natCast_emod, Int.natCast_ediv, Int.natCast_pow]
  rfl
theorem numL_len (k n : Nat) : (numL k n).length = k := by
  induction k with
  | zero => rfl
  | succ k ih => simp [numL, ih]

set_option maxHeartbeats 4000000 in
set_option maxRecDepth 100000 in
theorem putNumber_any (B : Nat) (w : World) (v : Value) (l : List UInt8) (size n : Nat) (hv : Row B w v l) (hB : B ≤ w.heap.size) (hs : size ≤ 4) (hn : n ≤ 4294967295) (hlen : l.length ≤ 140737488000000) :
    Calls Tryd.prog 42 #[v, .int .i64 (size : Int), .int .i64 (n : Int)] w (PutR B w v (l ++ numL size n)) := by
  go_enter Tryd.func42, Tryd.ntmps42
  go_wp2
  go_loopw [0, 9] (fun bv iv wr => ∃ (i : Nat) (l' : List UInt8), i ≤ size ∧ iv = .int .i64 (i : Int) ∧ l'.length = l.length + i ∧ Hid (l' ++ numL (size - i) n = l ++ numL size n ∧ Row B wr bv l' ∧ Gr w wr v bv)) (fun _ iv _ => size - (intOf iv).toNat)
  case atStart => exact ⟨0, l, Nat.zero_le _, rfl, rfl, Lib.hid ⟨by rw [Nat.sub_zero], hv, Gr.refl _ _⟩⟩
  case round =>
    rename_i bv _
    obtain ⟨i, l', hi, rfl, hll, hH⟩ := hrel
    by_cases hlt : i < size
    · have hsz := hH.out.2.2.size
      have hby := byte_ofg n (size - 1 - i)
      obtain ⟨k, hk⟩ : ∃ k, size - i = k + 1 := ⟨size - i - 1, by omega⟩
      have hk1 : size - 1 - i = k := by omega
      have hk2 : size - (i + 1) = k := by omega
      obtain ⟨he, hrow, hgr⟩ := hH.out
      rw [hk] at he
      obtain ⟨v', w', hr, hro, hg⟩ := app_byte wr (UInt8.ofNat (n / 256 ^ (size - 1 - i))) _ hby hrow (by omega) (by omega)
      have hl2 : (l' ++ [UInt8.ofNat (n / 256 ^ (size - 1 - i))]).length = l.length + (i + 1) := by rw [List.length_append, hll]; simp; omega
      have he2 : (l' ++ [UInt8.ofNat (n / 256 ^ (size - 1 - i))]) ++ numL (size - (i + 1)) n = l ++ numL size n := by
        rw [← he, hk2, numL, hk1, List.append_assoc]; rfl
      have HAP := Lib.hid hr
      have HN := Lib.hid (And.intro he2 (And.intro hro (hgr.trans hg)))
      have HL2 := Lib.hid hl2
      clear hr he2 hro hg hgr he hrow hH hby hk hk1 hk2 hl2
      go_wp2_with (at_builtin; refine wpList_append_run _ rfl _ _ 26 26 rfl _ _ rfl rfl _ w' HAP.out ?_)
      go_roundw
      case rel => exact ⟨i + 1, _, by omega, by go_num, HL2.out, Lib.hid HN.out⟩
      case measure => simp [intOf]; omega
    · have hii : i = size := by omega
      subst hii
      have HP := Lib.hid hH.out
      clear hH
      go_wp2
      go_ret
      refine ⟨_, rfl, ?_, HP.out.2.2⟩
      have := HP.out.1
      rw [Nat.sub_self] at this
      rw [← this]
      simpa [numL] using HP.out.2.1
end Go.Proofs.YtjljbnilckkjnaaDoor
namespace Go.Proofs.YtjljbnilckkjnaaDoor
open Go Go.RowKit

def textL (s : ByteArray) : List UInt8 := numL 1 s.size ++ s.data.toList
def bodyL (p : List UInt8) : List UInt8 := numL 2 p.length ++ p
theorem PutR.lift {B : Nat} {w w1 : World} {v v1 : Value} {l : List UInt8} {e : Ending} {w' : World} (hg : Gr w w1 v v1) (h : PutR B w1 v1 l e w') : PutR B w v l e w' := by
  obtain ⟨v', he, hr, hg2⟩ := h
  exact ⟨v', he, hr, hg.trans hg2⟩
set_option maxHeartbeats 1000000 in
set_option maxRecDepth 100000 in
theorem putText_any (B : Nat) (w : World) (v : Value) (l : List UInt8) (s : ByteArray) (hv : Row B w v l) (hB : B ≤ w.heap.size) (hs : s.size ≤ 4294967295) (hlen : l.length ≤ 140000000000000) :
    Calls Tryd.prog 52 #[v, .string s] w (PutR B w v (l ++ textL s)) := by
  obtain ⟨i0, hi, hz0, hz1, hz2⟩ := info_parts info5g
  have HN := Lib.hid (putNumber_any B w v l 1 s.size hv hB (by omega) hs (by omega))
  clear hv
  go_enter Tryd.func52, Tryd.ntmps52
  go_wp2_with fail
  refine HN.out.mono ?_
  rintro e w1 ⟨v1, rfl, hro, hg⟩
  have hsz := hg.size
  obtain ⟨v', w', hr, hro2, hgr, hn⟩ := run_append_string (P := Tryd.prog) w1 26 9 5 i0 Tryd.underlying26 Tryd.underlying9 hi hz0 hz1 hz2 s hro (by omega) (by rw [List.length_append, numL_len]; omega)
  have HAP := Lib.hid hr
  have HR := Lib.hid hro2
  have HG := Lib.hid (hg.trans (Gr.of hgr hn))
  clear hr hro2 hgr hn hro hg HN
  go_wp2_with (at_builtin; refine wpList_append_run _ rfl _ _ 26 9 rfl _ _ rfl rfl _ w' HAP.out ?_)
  go_ret
  exact ⟨_, rfl, by unfold textL; rw [← List.append_assoc]; exact HR.out, HG.out⟩
set_option maxHeartbeats 1000000 in
set_option maxRecDepth 100000 in
theorem putBody_any (B : Nat) (w : World) (v : Value) (l : List UInt8) (pv : Value) (p : List UInt8) (hv : Row B w v l) (hB : B ≤ w.heap.size) (hp : Byz w pv p) (hpb : ∀ g, v.ownBlock = some g → p ≠ [] → pv.ownBlock ≠ some g) (hs : p.length ≤ 4294967295) (hlen : l.length ≤ 140000000000000) :
    Calls Tryd.prog 70 #[v, pv] w (PutR B w v (l ++ bodyL p)) := by
  obtain ⟨i0, hi, hz0, hz1, hz2⟩ := info_parts info5g
  have HN := Lib.hid (putNumber_any B w v l 2 p.length hv hB (by omega) hs (by omega))
  have HP := Lib.hid hp
  have HPB := Lib.hid hpb
  obtain ⟨⟨pa, pc, rfl⟩, _⟩ := hp
  clear hv hpb
  go_enter Tryd.func70, Tryd.ntmps70
  go_wp2_with fail
  refine HN.out.mono ?_
  rintro e w1 ⟨v1, rfl, hro, hg⟩
  have hsz := hg.size
  have hp1 : Byz w1 (.slice pa p.length pc) p := HP.out.kept hg.size (fun g hg1 hn => (hg.blk g (HP.out.lt g hg1 hn) (fun e => HPB.out g e hn hg1)).1)
  obtain ⟨v', w', hr, hro2, hgr, hn⟩ := run_append_src (P := Tryd.prog) w1 26 26 5 i0 Tryd.underlying26 hi hz0 hz1 hz2 hro (hp1.src Tryd.underlying26) (by omega) (by rw [List.length_append, numL_len]; omega)
  have HAP := Lib.hid hr
  have HR := Lib.hid hro2
  have HG := Lib.hid (hg.trans (Gr.of hgr hn))
  clear hr hro2 hgr hn hro hg HN hp1
  go_wp2_with (at_builtin; refine wpList_append_run _ rfl _ _ 26 26 rfl _ _ rfl rfl _ w' HAP.out ?_)
  go_ret
  exact ⟨_, rfl, by unfold bodyL; rw [← List.append_assoc]; exact HR.out, HG.out⟩

/-- A deed, as it reads. -/
structure Dd where
  act : Nat
  user : ByteArray
  box : ByteArray
  dest : ByteArray
  uid : Nat
  how : Nat
  flags : UInt8
  shard : Nat
  epoch : Nat
  bytes : List UInt8
/-- A deed's cells; its bytes lie in pv. -/
def ddC (d : Dd) (pv : Value) : Array Value := #[.int .i64 (d.act : Int), .string d.user, .string d.box, .string d.dest, .int .i64 (d.uid : Int), .int .i64 (d.how : Int), .int .u8 (d.flags.toNat : Int), .int .i64 (d.shard : Int), .int .i64 (d.epoch : Int), pv]
def ddV (d : Dd) (pv : Value) : Value := .agg (ddC d pv)
/-- Its bytes. -/
def ddL (d : Dd) : List UInt8 := numL 1 d.act ++ textL d.user ++ textL d.box ++ textL d.dest ++ numL 4 d.uid ++ numL 1 d.how ++ numL 1 d.flags.toNat ++ numL 1 d.shard ++ numL 4 d.epoch ++ bodyL d.bytes
/-- A deed in a block that is not what is laid in. -/
structure DdAt (w : World) (b : Nat) (d : Dd) (pv v : Value) : Prop where
  blk : w.heap[b]? = some (.cells (ddC d pv) 28 (0, 0))
  ne : v.ownBlock ≠ some b
theorem DdAt.lt {w : World} {b : Nat} {d : Dd} {pv v : Value} (h : DdAt w b d pv v) : b < w.heap.size := (Array.getElem?_eq_some_iff.1 h.blk).1
theorem DdAt.step {w w' : World} {b : Nat} {d : Dd} {pv v v' : Value} (h : DdAt w b d pv v) (hg : Gr w w' v v') : DdAt w' b d pv v' := by
  obtain ⟨h1, h2⟩ := hg.blk b h.lt h.ne
  exact ⟨h1.trans h.blk, h2⟩
theorem DdAt.cell {w : World} {b : Nat} {d : Dd} {pv v : Value} (h : DdAt w b d pv v) (j : Nat) : w.cell? ⟨b, j, none⟩ = (ddC d pv)[j]? := cell_of_row _ _ _ _ _ _ h.blk
/-- A deed that may be laid. -/
structure Dd.Fit (d : Dd) : Prop where
  act : d.act ≤ 4294967295
  user : d.user.size ≤ 4294967295
  box : d.box.size ≤ 4294967295
  dest : d.dest.size ≤ 4294967295
  uid : d.uid ≤ 4294967295
  how : d.how ≤ 4294967295
  shard : d.shard ≤ 4294967295
  epoch : d.epoch ≤ 4294967295
  bytes : d.bytes.length ≤ 4294967295

theorem textL_len (s : ByteArray) : (textL s).length = 1 + s.size := by unfold textL; rw [List.length_append, numL_len, ← Lib.size_eq]
set_option maxHeartbeats 4000000 in
set_option maxRecDepth 100000 in
theorem putDeed_any (B : Nat) (w : World) (v : Value) (l : List UInt8) (d : Dd) (pv : Value) (hv : Row B w v l) (hB : B ≤ w.heap.size) (hp : Byz w pv d.bytes) (hpb : ∀ g, v.ownBlock = some g → d.bytes ≠ [] → pv.ownBlock ≠ some g) (hf : d.Fit) (hlen : l.length ≤ 100000000000000) :
    Calls Tryd.prog 43 #[v, ddV d pv] w (PutR B w v (l ++ ddL d)) := by
  have hfl : d.flags.toNat ≤ 4294967295 := by have := d.flags.toNat_lt; omega
  have hb0 : Below w.heap.size w (w.alloc (.cells (ddC d pv) 28)) := (Below.refl _ w).alloc (Nat.le_refl _) _
  have hvlt : ∀ g, v.ownBlock = some g → g < w.heap.size := hv.1.lt
  obtain ⟨w0, hw0⟩ : ∃ w0, w0 = w.alloc (.cells (ddC d pv) 28) := ⟨_, rfl⟩
  have hat : DdAt w0 w.heap.size d pv v := ⟨by rw [hw0]; exact heap_alloc_new w _, fun e => by have := hvlt _ e; omega⟩
  rw [← hw0] at hb0
  have r0 := hv.below hb0
  have g0 : Gr w w0 v v := Gr.ofBelow hb0
  have HP0 := Lib.hid (hp.below hb0)
  have HPB := Lib.hid hpb
  obtain ⟨pa, pc, rfl⟩ := hp.1
  have HW0 := Lib.hid hw0
  have AT0 := Lib.hid hat
  have R0 := Lib.hid r0
  have G0 := Lib.hid g0
  have HF := Lib.hid hf
  have u1 := hf.user
  have u2 := hf.box
  have u3 := hf.dest
  have ubb := hf.bytes
  have s0 := hb0.size
  clear hw0 hat r0 g0 hb0 hv hpb hp hvlt
  unfold ddV ddC at *
  go_enter Tryd.func43, Tryd.ntmps43
  have c0 : w0.cell? ⟨w.heap.size, 0, none⟩ = some (.int .i64 (d.act : Int)) := AT0.out.cell 0
  have HC0 := Lib.hid (putNumber_any B w0 v (l) 1 d.act R0.out (by omega) (by omega) hf.act (by first | omega | (simp only [List.length_append, numL_len, textL_len]; omega)))
  go_wp2_with (first | rw [← HW0.out])
  refine HC0.out.mono ?_
  rintro e w1 ⟨v1, rfl, hro, hg⟩
  have R1 := Lib.hid hro
  have G1 := Lib.hid (G0.out.trans hg)
  have s1 := hg.size
  have AT1 := Lib.hid (AT0.out.step hg)
  have HP1 := Lib.hid (HP0.out.kept hg.size (fun g hg1 hn => (hg.blk g (HP0.out.lt g hg1 hn) (fun e => HPB.out g e hn hg1)).1))
  have HPB1 : Hid (∀ g, v1.ownBlock = some g → d.bytes ≠ [] → (Value.slice pa d.bytes.length pc).ownBlock ≠ some g) := Lib.hid (fun g hg1 hn hg2 => (hg.blk g (HP0.out.lt g hg2 hn) (fun e => HPB.out g e hn hg2)).2 hg1)
  clear hro hg HC0 c0 AT0 R0 G0 HP0 HPB HW0
  have c1 : w1.cell? ⟨w.heap.size, 1, none⟩ = some (.string d.user) := AT1.out.cell 1
  have HC1 := Lib.hid (putText_any B w1 v1 (l ++ numL 1 d.act) d.user R1.out (by omega) hf.user (by first | omega | (simp only [List.length_append, numL_len, textL_len]; omega)))
  go_wp2_with fail
  refine HC1.out.mono ?_
  rintro e w2 ⟨v2, rfl, hro, hg⟩
  have R2 := Lib.hid hro
  have G2 := Lib.hid (G1.out.trans hg)
  have s2 := hg.size
  have AT2 := Lib.hid (AT1.out.step hg)
  have HP2 := Lib.hid (HP1.out.kept hg.size (fun g hg1 hn => (hg.blk g (HP1.out.lt g hg1 hn) (fun e => HPB1.out g e hn hg1)).1))
  have HPB2 : Hid (∀ g, v2.ownBlock = some g → d.bytes ≠ [] → (Value.slice pa d.bytes.length pc).ownBlock ≠ some g) := Lib.hid (fun g hg1 hn hg2 => (hg.blk g (HP1.out.lt g hg2 hn) (fun e => HPB1.out g e hn hg2)).2 hg1)
  clear hro hg HC1 c1 AT1 R1 G1 HP1 HPB1
  have c2 : w2.cell? ⟨w.heap.size, 2, none⟩ = some (.string d.box) := AT2.out.cell 2
  have HC2 := Lib.hid (putText_any B w2 v2 (l ++ numL 1 d.act ++ textL d.user) d.box R2.out (by omega) hf.box (by first | omega | (simp only [List.length_append, numL_len, textL_len]; omega)))
  go_wp2_with fail
  refine HC2.out.mono ?_
  rintro e w3 ⟨v3, rfl, hro, hg⟩
  have R3 := Lib.hid hro
  have G3 := Lib.hid (G2.out.trans hg)
  have s3 := hg.size
  have AT3 := Lib.hid (AT2.out.step hg)
  have HP3 := Lib.hid (HP2.out.kept hg.size (fun g hg1 hn => (hg.blk g (HP2.out.lt g hg1 hn) (fun e => HPB2.out g e hn hg1)).1))
  have HPB3 : Hid (∀ g, v3.ownBlock = some g → d.bytes ≠ [] → (Value.slice pa d.bytes.length pc).ownBlock ≠ some g) := Lib.hid (fun g hg1 hn hg2 => (hg.blk g (HP2.out.lt g hg2 hn) (fun e => HPB2.out g e hn hg2)).2 hg1)
  clear hro hg HC2 c2 AT2 R2 G2 HP2 HPB2
  have c3 : w3.cell? ⟨w.heap.size, 3, none⟩ = some (.string d.dest) := AT3.out.cell 3
  have HC3 := Lib.hid (putText_any B w3 v3 (l ++ numL 1 d.act ++ textL d.user ++ textL d.box) d.dest R3.out (by omega) hf.dest (by first | omega | (simp only [List.length_append, numL_len, textL_len]; omega)))
  go_wp2_with fail
  refine HC3.out.mono ?_
  rintro e w4 ⟨v4, rfl, hro, hg⟩
  have R4 := Lib.hid hro
  have G4 := Lib.hid (G3.out.trans hg)
  have s4 := hg.size
  have AT4 := Lib.hid (AT3.out.step hg)
  have HP4 := Lib.hid (HP3.out.kept hg.size (fun g hg1 hn => (hg.blk g (HP3.out.lt g hg1 hn) (fun e => HPB3.out g e hn hg1)).1))
  have HPB4 : Hid (∀ g, v4.ownBlock = some g → d.bytes ≠ [] → (Value.slice pa d.bytes.length pc).ownBlock ≠ some g) := Lib.hid (fun g hg1 hn hg2 => (hg.blk g (HP3.out.lt g hg2 hn) (fun e => HPB3.out g e hn hg2)).2 hg1)
  clear hro hg HC3 c3 AT3 R3 G3 HP3 HPB3
  have c4 : w4.cell? ⟨w.heap.size, 4, none⟩ = some (.int .i64 (d.uid : Int)) := AT4.out.cell 4
  have HC4 := Lib.hid (putNumber_any B w4 v4 (l ++ numL 1 d.act ++ textL d.user ++ textL d.box ++ textL d.dest) 4 d.uid R4.out (by omega) (by omega) hf.uid (by first | omega | (simp only [List.length_append, numL_len, textL_len]; omega)))
  go_wp2_with fail
  refine HC4.out.mono ?_
  rintro e w5 ⟨v5, rfl, hro, hg⟩
  have R5 := Lib.hid hro
  have G5 := Lib.hid (G4.out.trans hg)
  have s5 := hg.size
  have AT5 := Lib.hid (AT4.out.step hg)
  have HP5 := Lib.hid (HP4.out.kept hg.size (fun g hg1 hn => (hg.blk g (HP4.out.lt g hg1 hn) (fun e => HPB4.out g e hn hg1)).1))
  have HPB5 : Hid (∀ g, v5.ownBlock = some g → d.bytes ≠ [] → (Value.slice pa d.bytes.length pc).ownBlock ≠ some g) := Lib.hid (fun g hg1 hn hg2 => (hg.blk g (HP4.out.lt g hg2 hn) (fun e => HPB4.out g e hn hg2)).2 hg1)
  clear hro hg HC4 c4 AT4 R4 G4 HP4 HPB4
  have c5 : w5.cell? ⟨w.heap.size, 5, none⟩ = some (.int .i64 (d.how : Int)) := AT5.out.cell 5
  have HC5 := Lib.hid (putNumber_any B w5 v5 (l ++ numL 1 d.act ++ textL d.user ++ textL d.box ++ textL d.dest ++ numL 4 d.uid) 1 d.how R5.out (by omega) (by omega) hf.how (by first | omega | (simp only [List.length_append, numL_len, textL_len]; omega)))
  go_wp2_with fail
  refine HC5.out.mono ?_
  rintro e w6 ⟨v6, rfl, hro, hg⟩
  have R6 := Lib.hid hro
  have G6 := Lib.hid (G5.out.trans hg)
  have s6 := hg.size
  have AT6 := Lib.hid (AT5.out.step hg)
  have HP6 := Lib.hid (HP5.out.kept hg.size (fun g hg1 hn => (hg.blk g (HP5.out.lt g hg1 hn) (fun e => HPB5.out g e hn hg1)).1))
  have HPB6 : Hid (∀ g, v6.ownBlock = some g → d.bytes ≠ [] → (Value.slice pa d.bytes.length pc).ownBlock ≠ some g) := Lib.hid (fun g hg1 hn hg2 => (hg.blk g (HP5.out.lt g hg2 hn) (fun e => HPB5.out g e hn hg2)).2 hg1)
  clear hro hg HC5 c5 AT5 R5 G5 HP5 HPB5
  have c6 : w6.cell? ⟨w.heap.size, 6, none⟩ = some (.int .u8 (d.flags.toNat : Int)) := AT6.out.cell 6
  have HC6 := Lib.hid (putNumber_any B w6 v6 (l ++ numL 1 d.act ++ textL d.user ++ textL d.box ++ textL d.dest ++ numL 4 d.uid ++ numL 1 d.how) 1 d.flags.toNat R6.out (by omega) (by omega) hfl (by first | omega | (simp only [List.length_append, numL_len, textL_len]; omega)))
  go_wp2_with fail
  refine HC6.out.mono ?_
  rintro e w7 ⟨v7, rfl, hro, hg⟩
  have R7 := Lib.hid hro
  have G7 := Lib.hid (G6.out.trans hg)
  have s7 := hg.size
  have AT7 := Lib.hid (AT6.out.step hg)
  have HP7 := Lib.hid (HP6.out.kept hg.size (fun g hg1 hn => (hg.blk g (HP6.out.lt g hg1 hn) (fun e => HPB6.out g e hn hg1)).1))
  have HPB7 : Hid (∀ g, v7.ownBlock = some g → d.bytes ≠ [] → (Value.slice pa d.bytes.length pc).ownBlock ≠ some g) := Lib.hid (fun g hg1 hn hg2 => (hg.blk g (HP6.out.lt g hg2 hn) (fun e => HPB6.out g e hn hg2)).2 hg1)
  clear hro hg HC6 c6 AT6 R6 G6 HP6 HPB6
  have c7 : w7.cell? ⟨w.heap.size, 7, none⟩ = some (.int .i64 (d.shard : Int)) := AT7.out.cell 7
  have HC7 := Lib.hid (putNumber_any B w7 v7 (l ++ numL 1 d.act ++ textL d.user ++ textL d.box ++ textL d.dest ++ numL 4 d.uid ++ numL 1 d.how ++ numL 1 d.flags.toNat) 1 d.shard R7.out (by omega) (by omega) hf.shard (by first | omega | (simp only [List.length_append, numL_len, textL_len]; omega)))
  go_wp2_with fail
  refine HC7.out.mono ?_
  rintro e w8 ⟨v8, rfl, hro, hg⟩
  have R8 := Lib.hid hro
  have G8 := Lib.hid (G7.out.trans hg)
  have s8 := hg.size
  have AT8 := Lib.hid (AT7.out.step hg)
  have HP8 := Lib.hid (HP7.out.kept hg.size (fun g hg1 hn => (hg.blk g (HP7.out.lt g hg1 hn) (fun e => HPB7.out g e hn hg1)).1))
  have HPB8 : Hid (∀ g, v8.ownBlock = some g → d.bytes ≠ [] → (Value.slice pa d.bytes.length pc).ownBlock ≠ some g) := Lib.hid (fun g hg1 hn hg2 => (hg.blk g (HP7.out.lt g hg2 hn) (fun e => HPB7.out g e hn hg2)).2 hg1)
  clear hro hg HC7 c7 AT7 R7 G7 HP7 HPB7
  have c8 : w8.cell? ⟨w.heap.size, 8, none⟩ = some (.int .i64 (d.epoch : Int)) := AT8.out.cell 8
  have HC8 := Lib.hid (putNumber_any B w8 v8 (l ++ numL 1 d.act ++ textL d.user ++ textL d.box ++ textL d.dest ++ numL 4 d.uid ++ numL 1 d.how ++ numL 1 d.flags.toNat ++ numL 1 d.shard) 4 d.epoch R8.out (by omega) (by omega) hf.epoch (by first | omega | (simp only [List.length_append, numL_len, textL_len]; omega)))
  go_wp2_with fail
  refine HC8.out.mono ?_
  rintro e w9 ⟨v9, rfl, hro, hg⟩
  have R9 := Lib.hid hro
  have G9 := Lib.hid (G8.out.trans hg)
  have s9 := hg.size
  have AT9 := Lib.hid (AT8.out.step hg)
  have HP9 := Lib.hid (HP8.out.kept hg.size (fun g hg1 hn => (hg.blk g (HP8.out.lt g hg1 hn) (fun e => HPB8.out g e hn hg1)).1))
  have HPB9 : Hid (∀ g, v9.ownBlock = some g → d.bytes ≠ [] → (Value.slice pa d.bytes.length pc).ownBlock ≠ some g) := Lib.hid (fun g hg1 hn hg2 => (hg.blk g (HP8.out.lt g hg2 hn) (fun e => HPB8.out g e hn hg2)).2 hg1)
  clear hro hg HC8 c8 AT8 R8 G8 HP8 HPB8
  have c9 : w9.cell? ⟨w.heap.size, 9, none⟩ = some ((.slice pa d.bytes.length pc)) := AT9.out.cell 9
  have HC9 := Lib.hid (putBody_any B w9 v9 (l ++ numL 1 d.act ++ textL d.user ++ textL d.box ++ textL d.dest ++ numL 4 d.uid ++ numL 1 d.how ++ numL 1 d.flags.toNat ++ numL 1 d.shard ++ numL 4 d.epoch) (.slice pa d.bytes.length pc) d.bytes R9.out (by omega) (HP9.out) (HPB9.out) hf.bytes (by first | omega | (simp only [List.length_append, numL_len, textL_len]; omega)))
  go_wp2_with fail
  refine HC9.out.mono ?_
  rintro e w10 ⟨v10, rfl, hro, hg⟩
  have R10 := Lib.hid hro
  have G10 := Lib.hid (G9.out.trans hg)
  have s10 := hg.size
  clear hro hg HC9 c9
  go_wp2
  go_ret
  refine ⟨_, rfl, ?_, G10.out⟩
  have := R10.out
  unfold ddL
  simp only [List.append_assoc] at this ⊢
  exact this
end Go.Proofs.YtjljbnilckkjnaaDoor
namespace Go.Proofs.YtjljbnilckkjnaaDoor
open Go Go.RowKit

/-- A fault that is thrown. -/
def faultC (n : Int) : List PanicEntry := [{ v := .iface 68 (.agg #[.int .i64 n]), recovered := false }]
/-- A reader in block D: what is left. -/
structure Rdr (w : World) (D : Nat) (sv : Value) (l : List UInt8) : Prop where
  blk : w.heap[D]? = some (.cells #[sv] 94 (0, 0))
  byz : Byz w sv l
  ne : l ≠ [] → sv.ownBlock ≠ some D
theorem Rdr.lt {w : World} {D : Nat} {sv : Value} {l : List UInt8} (h : Rdr w D sv l) : D < w.heap.size := (Array.getElem?_eq_some_iff.1 h.blk).1
theorem Rdr.cell {w : World} {D : Nat} {sv : Value} {l : List UInt8} (h : Rdr w D sv l) : w.cell? ⟨D, 0, none⟩ = some sv := cell_of_row _ _ _ _ _ _ h.blk
theorem Rdr.free {w : World} {D : Nat} {sv : Value} {l : List UInt8} (h : Rdr w D sv l) : w.frozen? ⟨D, 0, none⟩ = false := frozen_of_row _ _ _ _ _ h.blk
theorem Rdr.fr {o : Nat → Prop} {w w' : World} {D : Nat} {sv : Value} {l : List UInt8} (h : Rdr w D sv l) (hf : Fr o w w') (hD : ¬ o D) (hs : ∀ g, sv.ownBlock = some g → l ≠ [] → ¬ o g) : Rdr w' D sv l :=
  ⟨(hf.block D h.lt hD).trans h.blk, h.byz.kept hf.size (fun g hg hn => hf.block g (h.byz.lt g hg hn) (hs g hg hn)), h.ne⟩
set_option maxHeartbeats 1000000 in
set_option maxRecDepth 100000 in
theorem next_short (w : World) (D : Nat) (sv : Value) (l : List UInt8) (n : Nat) (h : Rdr w D sv l) (hn : l.length < n) (hl : l.length ≤ 9223372036854775807) :
    Calls Tryd.prog 72 #[.pointer (some ⟨D, 0, none⟩), .int .i64 (n : Int)] w fun e w' => e = .panicked (faultC 3) ∧ w = w' := by
  have hc := h.cell
  obtain ⟨a, c, rfl⟩ := h.byz.1
  have hn' : (l.length : Int) < (n : Int) := by omega
  clear h hn
  go_enter Tryd.func72, Tryd.ntmps72
  go_wp2
  exact ⟨rfl, rfl, rfl⟩
theorem byz_to {w : World} {a : Option Addr} {c n : Nat} {l : List UInt8} (h : Byz w (.slice a l.length c) l) (hn : n ≤ l.length) : Byz w (.slice a n c) (l.take n) := by
  have hlen : (l.take n).length = n := by rw [List.length_take]; omega
  refine ⟨⟨a, c, by rw [hlen]⟩, fun hne => ?_⟩
  have hl : l ≠ [] := fun e => by subst e; simp at hne
  obtain ⟨a', c', e, h2, h3, h4⟩ := h.2 hl
  cases e
  refine ⟨a, c, by rw [hlen], by rw [hlen]; omega, h3, fun ad had => ?_⟩
  obtain ⟨g, off, e, hg, hc⟩ := h4 ad had
  refine ⟨g, off, e, hg, fun j hj => ?_⟩
  rw [List.getElem_take]
  exact hc j (by rw [hlen] at hj; omega)
theorem byz_from {w : World} {a : Option Addr} {c n : Nat} {l : List UInt8} (h : Byz w (.slice a l.length c) l) (hn : n ≤ l.length) : Byz w (.slice (if c = n then a else Option.map (fun x => x.add n) a) (l.length - n) (c - n)) (l.drop n) := by
  have hlen : (l.drop n).length = l.length - n := List.length_drop
  refine ⟨⟨_, _, by rw [hlen]⟩, fun hne => ?_⟩
  have hlt : n < l.length := by
    rcases Nat.lt_or_ge n l.length with h | h
    · exact h
    · exact absurd (List.drop_eq_nil_of_le h) hne
  have hl : l ≠ [] := fun e => by subst e; simp at hlt
  obtain ⟨a', c', e, h2, h3, h4⟩ := h.2 hl
  cases e
  rw [if_neg (by omega)]
  refine ⟨_, _, by rw [hlen], by rw [hlen]; omega, fun e => ?_, fun ad had => ?_⟩
  · cases a with
    | none => have := h3 rfl; omega
    | some x => simp at e
  · cases a with
    | none => simp at had
    | some x =>
      obtain ⟨g, off, rfl, hg, hc⟩ := h4 x rfl
      simp only [Option.map_some, Option.some.injEq] at had
      subst had
      refine ⟨g, off + n, addr_plus g off n, hg, fun j hj => ?_⟩
      rw [List.getElem_drop, Nat.add_assoc]
      exact hc (n + j) (by rw [hlen] at hj; omega)
theorem own_from (a : Option Addr) (c n m k m' k' : Nat) : (Value.slice (if c = n then a else Option.map (fun x => x.add n) a) m k).ownBlock = (Value.slice a m' k').ownBlock := by
  split
  · cases a <;> rfl
  · cases a with
    | none => rfl
    | some x => simp [Value.ownBlock, Addr.add]; split <;> rfl
theorem own_any (a : Option Addr) (n c n' c' : Nat) : (Value.slice a n c).ownBlock = (Value.slice a n' c').ownBlock := by cases a <;> rfl
/-- What 'next' tells, where there are so many. -/
def NextR (w : World) (D : Nat) (sv : Value) (l : List UInt8) (n : Nat) (e : Ending) (w' : World) : Prop :=
  ∃ pv sv', e = .returned pv ∧ Byz w' pv (l.take n) ∧ pv.ownBlock = sv.ownBlock ∧ Rdr w' D sv' (l.drop n) ∧ sv'.ownBlock = sv.ownBlock ∧ Fr (· = D) w w'
set_option maxHeartbeats 1000000 in
set_option maxRecDepth 100000 in
theorem next_some (w : World) (D : Nat) (sv : Value) (l : List UInt8) (n : Nat) (h : Rdr w D sv l) (hn : n ≤ l.length) (hl : l.length ≤ 9223372036854775807) :
    Calls Tryd.prog 72 #[.pointer (some ⟨D, 0, none⟩), .int .i64 (n : Int)] w (NextR w D sv l n) := by
  have hc := h.cell
  have hfz := h.free
  obtain ⟨a, c, rfl⟩ := h.byz.1
  have hn' : ¬ (l.length : Int) < (n : Int) := by omega
  have hcl : n ≤ c := by
    by_cases hne : l = []
    · subst hne; simp at hn; omega
    · obtain ⟨_, _, e, h2, _⟩ := h.byz.2 hne; cases e; omega
  have H := Lib.hid h
  have HNL := Lib.hid hn
  obtain ⟨wd, hwd⟩ : ∃ wd, wd = w.drew := ⟨_, rfl⟩
  have hfd : Fr (· = D) w wd := by rw [hwd]; exact (Fr.refl _ w).drew
  have hcd : wd.cell? ⟨D, 0, none⟩ = some (.slice a l.length c) := by rw [hwd]; exact hc
  have hfzd : wd.frozen? ⟨D, 0, none⟩ = false := by rw [hwd]; exact hfz
  have hbd : Byz wd (.slice a l.length c) l := by rw [hwd]; exact h.byz
  have hblk : wd.heap[D]? = some (.cells #[.slice a l.length c] 94 (0, 0)) := by rw [hwd]; exact h.blk
  obtain ⟨ad, had⟩ : ∃ ad, (if c = n then a else Option.map (fun x => x.add n) a) = ad := ⟨_, rfl⟩
  have how : (Value.slice ad (l.length - n) (c - n)).ownBlock = (Value.slice a l.length c).ownBlock := by rw [← had]; exact own_from _ _ _ _ _ _ _
  have hby := byz_from hbd hn
  rw [had] at hby
  generalize hsv' : Value.slice ad (l.length - n) (c - n) = sv' at how hby
  have hset : Fr (· = D) wd (wd.setCell ⟨D, 0, none⟩ sv') := (Fr.refl (· = D) wd).setCell ⟨D, 0, none⟩ (Or.inl rfl) sv'
  have hkeep : ∀ (pv : Value) (p : List UInt8), Byz wd pv p → (p ≠ [] → pv.ownBlock ≠ some D) → Byz (wd.setCell ⟨D, 0, none⟩ sv') pv p := fun pv p hp hne =>
    hp.kept hset.size (fun g hg hn2 => hset.block g (hp.lt g hg hn2) (fun e => hne hn2 (by rw [hg]; exact congrArg some e)))
  have HNE := Lib.hid h.ne
  have h1 : Byz (wd.setCell ⟨D, 0, none⟩ sv') (.slice a n c) (l.take n) := hkeep _ _ (byz_to hbd hn) (fun hne => by rw [own_any a n c l.length c]; exact h.ne (fun e => by subst e; simp at hne))
  have h2 : Rdr (wd.setCell ⟨D, 0, none⟩ sv') D sv' (l.drop n) := ⟨by rw [heap_setCell_same wd D 0 _ _ _ hblk]; rfl, hkeep _ _ hby (fun hne => by rw [how]; exact h.ne (fun e => by subst e; simp at hne)), fun hne => by rw [how]; exact h.ne (fun e => by subst e; simp at hne)⟩
  have HF : Hid (NextR w D (.slice a l.length c) l n (.returned (.slice a n c)) (wd.setCell ⟨D, 0, none⟩ sv')) := Lib.hid ⟨_, sv', rfl, h1, own_any _ _ _ _ _, h2, how, hfd.trans hset (fun _ _ h => h) (fun _ _ h => h)⟩
  subst hsv'
  have HSV := Lib.hid had
  have HWD := Lib.hid hwd
  clear h hn hwd hfd hbd hblk had how hby hset hkeep h1 h2
  go_enter Tryd.func72, Tryd.ntmps72
  go_wp2_with fail
  go_still_tail 16, (by kernel_rfl)
  change wpList _ _ _ _ _ w.drew
  rw [HSV.out, ← HWD.out]
  go_wp2
  go_ret
  exact HF.out
end Go.Proofs.YtjljbnilckkjnaaDoor
namespace Go.Proofs.YtjljbnilckkjnaaDoor
open Go Go.RowKit

def valN (v : Nat) (l : List UInt8) : Nat := l.foldl (fun v c => 256 * v + c.toNat) v
theorem valN_bd : ∀ (l : List UInt8) (v : Nat), valN v l < (v + 1) * 256 ^ l.length
  | [], v => by simp [valN]
  | c :: t, v => by
    have h := valN_bd t (256 * v + c.toNat)
    have hc := c.toNat_lt
    have e : valN v (c :: t) = valN (256 * v + c.toNat) t := rfl
    rw [e, List.length_cons, Nat.pow_succ]
    refine Nat.lt_of_lt_of_le h ?_
    rw [Nat.mul_comm (256 ^ t.length) 256, ← Nat.mul_assoc]
    exact Nat.mul_le_mul_right _ (by omega)
theorem i64_or_nat (a b : Nat) (ha : a < 4611686018427387904) (hb : b < 4611686018427387904) : bits .or .i64 (a : Int) (b : Int) = ((a ||| b : Nat) : Int) := by
  have hx : a ||| b < 2 ^ 62 := Nat.or_lt_two_pow (by omega) (by omega)
  have h1 : (BitVec.ofInt 64 (a : Int)).toNat = a := by rw [BitVec.toNat_ofInt]; omega
  have h2 : (BitVec.ofInt 64 (b : Int)).toNat = b := by rw [BitVec.toNat_ofInt]; omega
  show IntKind.i64.wrap ((BitVec.ofInt 64 (a : Int) ||| BitVec.ofInt 64 (b : Int)).toNat : Int) = _
  rw [BitVec.toNat_or, h1, h2]
  exact IntWalk.i64_in _ (by omega)
theorem or_join (v c : Nat) (hv : v < 16777216) (hc : c < 256) : bits .or .i64 ((v : Int) * 256) (c : Int) = ((256 * v + c : Nat) : Int) := by
  have e : (v : Int) * 256 = ((v * 256 : Nat) : Int) := by omega
  rw [e, i64_or_nat _ _ (by omega) (by omega), nat_join 8 _ _ (by show v * 256 % 256 = 0; omega) (by omega), Nat.mul_comm]
theorem valN_snoc (p : List UInt8) (k : Nat) (hk : k < p.length) (v : Nat) : valN v (p.take (k + 1)) = 256 * valN v (p.take k) + (p[k]).toNat := by
  unfold valN
  rw [List.take_succ_eq_append_getElem hk, List.foldl_append]
  rfl
/-- What 'number' tells, where there are so many. -/
def NumR (w : World) (D : Nat) (sv : Value) (l : List UInt8) (n : Nat) (e : Ending) (w' : World) : Prop :=
  ∃ sv', e = .returned (.int .i64 (valN 0 (l.take n) : Int)) ∧ Rdr w' D sv' (l.drop n) ∧ sv'.ownBlock = sv.ownBlock ∧ Fr (· = D) w w'
set_option maxHeartbeats 2000000 in
set_option maxRecDepth 100000 in
theorem number_some (w : World) (D : Nat) (sv : Value) (l : List UInt8) (n : Nat) (h : Rdr w D sv l) (hn : n ≤ l.length) (hn4 : n ≤ 4) (hl : l.length ≤ 9223372036854775807) :
    Calls Tryd.prog 47 #[.pointer (some ⟨D, 0, none⟩), .int .i64 (n : Int)] w (NumR w D sv l n) := by
  have HN := Lib.hid (next_some w D sv l n h hn hl)
  have hlen : (l.take n).length = n := by rw [List.length_take]; omega
  clear h
  go_enter Tryd.func47, Tryd.ntmps47
  go_wp2_with fail
  refine HN.out.mono ?_
  rintro e w1 ⟨pv, sv', rfl, hby, hob, hr, how, hfr⟩
  obtain ⟨pa, pc, hpv⟩ := hby.1
  subst hpv
  rw [hlen] at hby ⊢
  have HBY := Lib.hid hby
  have HR := Lib.hid (And.intro hr (And.intro how hfr))
  clear hby hr how hfr HN hob
  obtain ⟨p, hp⟩ : ∃ p, l.take n = p := ⟨_, rfl⟩
  rw [hp] at hlen HBY
  have HP := Lib.hid hp
  clear hp
  go_wp2_with fail
  go_loop [5, 12] (fun nv iv => ∃ k : Nat, k ≤ n ∧ iv = .int .i64 (k : Int) ∧ nv = .int .i64 (valN 0 (p.take k) : Int)) (fun _ iv => n - (intOf iv).toNat)
  case atStart => exact ⟨0, Nat.zero_le _, rfl, rfl⟩
  case round =>
    obtain ⟨k, hk, rfl, rfl⟩ := hrel
    by_cases hlt : k < n
    · have hne : p ≠ [] := fun e => by subst e; simp at hlen; omega
      obtain ⟨g, off, cap, e1, _, _, hc⟩ := (HBY.out.2 hne).cell (by omega)
      have hck := hc k (by omega)
      cases e1
      have hbd := valN_bd (p.take k) 0
      have hlk : (p.take k).length = k := by rw [List.length_take]; omega
      rw [hlk] at hbd
      have hp256 : 256 ^ k ≤ 16777216 := by
        have : k = 0 ∨ k = 1 ∨ k = 2 ∨ k = 3 := by omega
        rcases this with rfl | rfl | rfl | rfl <;> decide
      have hb2 : valN 0 (p.take k) < 16777216 := by omega
      have hb3 := (p[k]).toNat_lt
      have hor := or_join _ _ hb2 (show (p[k]).toNat < 256 from hb3)
      have hsn := valN_snoc p k (by omega) 0
      have HV : Hid (bits BinOp.or IntKind.i64 ((valN 0 (p.take k) : Nat) * 256 : Int) ((p[k]).toNat : Int) = ((valN 0 (p.take (k + 1)) : Nat) : Int)) := Lib.hid (by rw [hor, hsn])
      clear hc hbd hp256 hor hsn
      go_wp2
      go_round
      case rel => exact ⟨k + 1, by omega, by go_num, by rw [HV.out]⟩
      case measure => simp [intOf]; omega
    · have hkn : k = n := by omega
      subst hkn
      have e : valN 0 (p.take k) = valN 0 (l.take k) := by rw [HP.out, List.take_of_length_le (by omega)]
      rw [e]
      clear e
      go_wp2
      go_ret
      exact ⟨sv', rfl, HR.out.1, HR.out.2.1, HR.out.2.2⟩
set_option maxHeartbeats 1000000 in
set_option maxRecDepth 100000 in
theorem number_short (w : World) (D : Nat) (sv : Value) (l : List UInt8) (n : Nat) (h : Rdr w D sv l) (hn : l.length < n) (hl : l.length ≤ 9223372036854775807) :
    Calls Tryd.prog 47 #[.pointer (some ⟨D, 0, none⟩), .int .i64 (n : Int)] w fun e w' => e = .panicked (faultC 3) ∧ w = w' := by
  have HN := Lib.hid (next_short w D sv l n h hn hl)
  clear h hn
  go_enter Tryd.func47, Tryd.ntmps47
  go_wp2_with fail
  refine HN.out.mono ?_
  rintro e w1 ⟨rfl, rfl⟩
  go_wp2
  exact ⟨rfl, rfl, rfl⟩
end Go.Proofs.YtjljbnilckkjnaaDoor
namespace Go.Proofs.YtjljbnilckkjnaaDoor
open Go Go.RowKit

def numP (n : Nat) (l : List UInt8) : Option (Nat × List UInt8) := if n ≤ l.length then some (valN 0 (l.take n), l.drop n) else none
def cutP (n : Nat) (l : List UInt8) : Option (List UInt8 × List UInt8) := if n ≤ l.length then some (l.take n, l.drop n) else none
def textP (l : List UInt8) : Option (List UInt8 × List UInt8) := (numP 1 l).bind fun x => cutP x.1 x.2
def bodyP (l : List UInt8) : Option (List UInt8 × List UInt8) := (numP 2 l).bind fun x => cutP x.1 x.2
/-- What a reader's function tells: a fault; or a value, and what is left. -/
def ParR {α : Type} (w : World) (D : Nat) (sv : Value) (r : Option (α × List UInt8)) (post : α → Value → World → Prop) (e : Ending) (w' : World) : Prop :=
  (r = none ∧ e = .panicked (faultC 3) ∧ Fr (· = D) w w') ∨
  (∃ x l' v sv', r = some (x, l') ∧ e = .returned v ∧ post x v w' ∧ Rdr w' D sv' l' ∧ sv'.ownBlock = sv.ownBlock ∧ Fr (· = D) w w')
theorem ParR.bad {α : Type} {w w' : World} {D : Nat} {sv : Value} {r : Option (α × List UInt8)} {post : α → Value → World → Prop} (hr : r = none) (hf : Fr (· = D) w w') : ParR w D sv r post (.panicked (faultC 3)) w' := Or.inl ⟨hr, rfl, hf⟩
theorem ParR.good {α : Type} {w w' : World} {D : Nat} {sv sv' v : Value} {r : Option (α × List UInt8)} {post : α → Value → World → Prop} {x : α} {l' : List UInt8} (hr : r = some (x, l')) (hp : post x v w') (hd : Rdr w' D sv' l') (ho : sv'.ownBlock = sv.ownBlock) (hf : Fr (· = D) w w') :
    ParR w D sv r post (.returned v) w' := Or.inr ⟨x, l', v, sv', hr, rfl, hp, hd, ho, hf⟩
def IsNum (x : Nat) (v : Value) (_ : World) : Prop := v = .int .i64 (x : Int)
def IsStr (x : List UInt8) (v : Value) (_ : World) : Prop := v = .string ⟨x.toArray⟩
theorem number_any (w : World) (D : Nat) (sv : Value) (l : List UInt8) (n : Nat) (h : Rdr w D sv l) (hn4 : n ≤ 4) (hl : l.length ≤ 9223372036854775807) :
    Calls Tryd.prog 47 #[.pointer (some ⟨D, 0, none⟩), .int .i64 (n : Int)] w (ParR w D sv (numP n l) IsNum) := by
  by_cases hn : n ≤ l.length
  · refine (number_some w D sv l n h hn hn4 hl).mono fun e w' ⟨sv', he, hr, ho, hf⟩ => ?_
    subst he
    exact ParR.good (by unfold numP; rw [if_pos hn]) rfl hr ho hf
  · refine (number_short w D sv l n h (by omega) hl).mono fun e w' ⟨he, hw⟩ => ?_
    subst he hw
    exact ParR.bad (by unfold numP; rw [if_neg hn]) (Fr.refl _ _)
theorem numP_len {n : Nat} {l l' : List UInt8} {x : Nat} (h : numP n l = some (x, l')) : l'.length ≤ l.length ∧ x < 256 ^ n := by
  unfold numP at h
  split at h
  · simp only [Option.some.injEq, Prod.mk.injEq] at h
    obtain ⟨rfl, rfl⟩ := h
    refine ⟨by rw [List.length_drop]; omega, ?_⟩
    have := valN_bd (l.take n) 0
    rw [List.length_take, Nat.min_eq_left (by assumption)] at this
    omega
  · cases h
set_option maxHeartbeats 1000000 in
set_option maxRecDepth 100000 in
theorem text_any (w : World) (D : Nat) (sv : Value) (l : List UInt8) (h : Rdr w D sv l) (hl : l.length ≤ 9223372036854775807) :
    Calls Tryd.prog 57 #[.pointer (some ⟨D, 0, none⟩)] w (ParR w D sv (textP l) IsStr) := by
  have HN := Lib.hid (number_any w D sv l 1 h (by omega) hl)
  obtain ⟨T, hT⟩ : ∃ T, textP l = T := ⟨_, rfl⟩
  have HT : Hid ((numP 1 l).bind (fun x => cutP x.1 x.2) = T) := Lib.hid hT
  rw [hT]
  clear h hT
  go_enter Tryd.func57, Tryd.ntmps57
  go_wp2_with fail
  refine HN.out.mono ?_
  rintro e w1 (⟨hr, rfl, hf⟩ | ⟨x, l1, v, sv1, hr, rfl, rfl, hd, ho, hf⟩)
  · have HE : Hid (T = none) := Lib.hid (by rw [← HT.out, hr]; rfl)
    have HF := Lib.hid hf
    clear hr hf HN HT
    go_wp2
    exact ⟨rfl, ParR.bad HE.out HF.out⟩
  · have HE : Hid (T = cutP x l1) := Lib.hid (by rw [← HT.out, hr]; rfl)
    obtain ⟨hl1, hx⟩ := numP_len hr
    by_cases hlt : l1.length < x
    · have HC := Lib.hid (next_short w1 D sv1 l1 x hd hlt (by omega))
      have HX : Hid (T = none) := Lib.hid (by rw [HE.out]; unfold cutP; rw [if_neg (by omega)])
      have HF := Lib.hid hf
      clear hr hf HN HT hd ho HE
      go_wp2_with fail
      refine HC.out.mono ?_
      rintro e w2 ⟨rfl, rfl⟩
      go_wp2
      exact ⟨rfl, ParR.bad HX.out HF.out⟩
    · have HC := Lib.hid (next_some w1 D sv1 l1 x hd (by omega) (by omega))
      have HX : Hid (T = some (l1.take x, l1.drop x)) := Lib.hid (by rw [HE.out]; unfold cutP; rw [if_pos (by omega)])
      have HF := Lib.hid (And.intro hf ho)
      clear hr hf HN HT hd ho HE
      go_wp2_with fail
      refine HC.out.mono ?_
      rintro e w2 ⟨pv, sv2, rfl, hby, _, hd2, ho2, hf2⟩
      have hcv := run_byz_string w2 26 9 5 Tryd.underlying26 Tryd.underlying5 Tryd.underlying9 hby
      have HD := Lib.hid (And.intro hd2 (And.intro (ho2.trans HF.out.2) (HF.out.1.trans hf2 (fun _ _ h => h) (fun _ _ h => h))))
      clear hby hd2 ho2 hf2
      go_wp2
      go_ret
      exact ParR.good HX.out rfl HD.out.1 HD.out.2.1 HD.out.2.2
/-- Bytes of the call's own. -/
def IsRow (B : Nat) (x : List UInt8) (v : Value) (w : World) : Prop := Row B w v x
set_option maxHeartbeats 1000000 in
set_option maxRecDepth 100000 in
theorem body_any (w : World) (D : Nat) (sv : Value) (l : List UInt8) (h : Rdr w D sv l) (hl : l.length ≤ 9223372036854775807) :
    Calls Tryd.prog 73 #[.pointer (some ⟨D, 0, none⟩)] w (ParR w D sv (bodyP l) (IsRow w.heap.size)) := by
  obtain ⟨i0, hi, hz0, hz1, hz2⟩ := info_parts info5g
  have hDlt := h.lt
  have hsvl : ∀ g, sv.ownBlock = some g → l ≠ [] → g < w.heap.size := h.byz.lt
  have HN := Lib.hid (number_any w D sv l 2 h (by omega) (by omega))
  obtain ⟨T, hT⟩ : ∃ T, bodyP l = T := ⟨_, rfl⟩
  have HT : Hid ((numP 2 l).bind (fun x => cutP x.1 x.2) = T) := Lib.hid hT
  rw [hT]
  clear h hT
  go_enter Tryd.func73, Tryd.ntmps73
  go_wp2_with fail
  refine HN.out.mono ?_
  rintro e w1 (⟨hr, rfl, hf⟩ | ⟨x, l1, v, sv1, hr, rfl, rfl, hd, ho, hf⟩)
  · have HE : Hid (T = none) := Lib.hid (by rw [← HT.out, hr]; rfl)
    have HF := Lib.hid hf
    clear hr hf HN HT hsvl
    go_wp2
    exact ⟨rfl, ParR.bad HE.out HF.out⟩
  · have HE : Hid (T = cutP x l1) := Lib.hid (by rw [← HT.out, hr]; rfl)
    obtain ⟨hl1, hx⟩ := numP_len hr
    by_cases hlt : l1.length < x
    · have HC := Lib.hid (next_short w1 D sv1 l1 x hd hlt (by omega))
      have HX : Hid (T = none) := Lib.hid (by rw [HE.out]; unfold cutP; rw [if_neg (by omega)])
      have HF := Lib.hid hf
      clear hr hf HN HT hd ho HE hsvl
      go_wp2_with fail
      refine HC.out.mono ?_
      rintro e w2 ⟨rfl, rfl⟩
      go_wp2
      exact ⟨rfl, ParR.bad HX.out HF.out⟩
    · have HC := Lib.hid (next_some w1 D sv1 l1 x hd (by omega) (by omega))
      have HX : Hid (T = some (l1.take x, l1.drop x)) := Lib.hid (by rw [HE.out]; unfold cutP; rw [if_pos (by omega)])
      have HF := Lib.hid (And.intro hf ho)
      clear hr HN HT hd ho HE
      go_wp2_with fail
      refine HC.out.mono ?_
      rintro e w2 ⟨pv, sv2, rfl, hby, _, hd2, ho2, hf2⟩
      have hs1 := hf.size
      have hs2 := hf2.size
      have hlen : (l1.take x).length ≤ 65536 := by rw [List.length_take]; omega
      generalize l1.take x = p at *
      obtain ⟨v', w', hrn, hro, hgr, hnn⟩ := run_append_src (P := Tryd.prog) w2 26 26 5 i0 Tryd.underlying26 hi hz0 hz1 hz2 (Row.nil w.heap.size w2) (hby.src Tryd.underlying26) (by omega) (by simp only [List.length_nil]; omega)
      have hb3 : Below w2.heap.size w2 w' := ⟨hgr.os, hgr.tape, hgr.output, hgr.size, fun k hk => hgr.block k hk (by simp [Value.ownBlock])⟩
      have hd3 : Rdr w' D sv2 (l1.drop x) := ⟨(hb3.block D hd2.lt).trans hd2.blk, hd2.byz.below hb3, hd2.ne⟩
      have HAP := Lib.hid hrn
      rw [List.nil_append] at hro
      have HD := Lib.hid (And.intro hd3 (And.intro (ho2.trans HF.out.2) (((HF.out.1.trans hf2 (fun _ _ h => h) (fun _ _ h => h) : Fr (· = D) w w2)).trans (Fr.of_below (· = D) hb3) (fun _ _ h => h) (fun _ _ h => h))))
      have HRO := Lib.hid hro
      obtain ⟨pa, pc, hpv⟩ := hby.1
      subst hpv
      clear hby hd2 ho2 hf2 hrn hro hgr hnn hb3 hd3 hf hsvl
      go_wp2_with (at_builtin; refine wpList_append_run _ rfl _ _ 26 26 rfl _ _ rfl rfl _ w' HAP.out ?_)
      go_ret
      exact ParR.good HX.out HRO.out HD.out.1 HD.out.2.1 HD.out.2.2
end Go.Proofs.YtjljbnilckkjnaaDoor
