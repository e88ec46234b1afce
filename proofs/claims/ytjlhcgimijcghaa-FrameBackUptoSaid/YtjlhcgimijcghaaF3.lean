/- Frame: what the closures of sum, lay and number do with a byte. -/
import Derived.Test.YtjlhcgimijcghaaF2
namespace Go.Proofs.Ytjlhcgimijcghaa
open Go Go.RowKit

/-- What stands but for the blocks of S. -/
structure Fr (S : Nat → Prop) (w w' : World) : Prop where
  os : w'.os = w.os
  tape : w'.tape = w.tape
  output : w'.output = w.output
  size : w.heap.size ≤ w'.heap.size
  block : ∀ k, k < w.heap.size → ¬ S k → w'.heap[k]? = w.heap[k]?
theorem Fr.refl (S : Nat → Prop) (w : World) : Fr S w w := ⟨rfl, rfl, rfl, Nat.le_refl _, fun _ _ _ => rfl⟩
theorem Fr.trans {S T U : Nat → Prop} {a b c : World} (h : Fr S a b) (k : Fr T b c) (hs : ∀ i, S i → U i) (ht : ∀ i, i < a.heap.size → T i → U i) : Fr U a c :=
  ⟨k.os.trans h.os, k.tape.trans h.tape, k.output.trans h.output, Nat.le_trans h.size k.size, fun i hi hn => (k.block i (Nat.lt_of_lt_of_le hi h.size) (fun ht' => hn (ht i hi ht'))).trans (h.block i hi (fun hs' => hn (hs i hs')))⟩
theorem Fr.of_below {S : Nat → Prop} {w w' : World} (h : Below w.heap.size w w') : Fr S w w' := ⟨h.os, h.tape, h.output, h.size, fun k hk _ => h.block k hk⟩
theorem Fr.to_below {S : Nat → Prop} {B : Nat} {a w w' : World} (h : Fr S w w') (hb : Below B a w) (hB : B ≤ w.heap.size) (hS : ∀ k, S k → B ≤ k) : Below B a w' :=
  hb.trans ⟨h.os, h.tape, h.output, h.size, fun k hk => h.block k (by omega) (fun hs => by have := hS k hs; omega)⟩
theorem Fr.set {S : Nat → Prop} (w : World) (b : Nat) (v : Value) (hS : S b) : Fr S w (w.setCell ⟨b, 0, none⟩ v) :=
  ⟨rfl, rfl, rfl, by simp [World.setCell], fun k _ hk => Below.heap_setCell _ _ _ _ (fun e => hk (e ▸ hS))⟩
theorem Byt.fr {S : Nat → Prop} {w w' : World} {v : Value} {l : List UInt8} (h : Byt w v l) (hf : Fr S w w') (hS : ∀ g, v.ownBlock = some g → ¬ S g) : Byt w' v l :=
  h.kept hf.size fun g hg => hf.block g (h.lt g hg) (hS g hg)
theorem Row.fr {S : Nat → Prop} {B : Nat} {w w' : World} {v : Value} {l : List UInt8} (h : Row B w v l) (hf : Fr S w w') (hS : ∀ g, v.ownBlock = some g → ¬ S g) : Row B w' v l :=
  h.kept hf.size fun g hg => hf.block g (h.1.lt g hg) (hS g hg)
theorem cell_fr {S : Nat → Prop} {w w' : World} {b o : Nat} {v : Value} (h : w.cell? ⟨b, o, none⟩ = some v) (hf : Fr S w w') (hS : ¬ S b) : w'.cell? ⟨b, o, none⟩ = some v :=
  (World.cell?_of_block (a := ⟨b, o, none⟩) (hf.block b (World.block_lt_of_cell? w _ h) hS)).trans h

theorem and1_u32 (r : Nat) (h : r < 4294967296) : bits BinOp.and IntKind.u32 (r : Int) 1 = ((r % 2 : Nat) : Int) := by
  have := u32_and_nat r 1 h (by omega)
  rw [nat_mask1] at this
  exact this
theorem and1_u8 (r : Nat) (h : r < 256) : bits BinOp.and IntKind.u8 (r : Int) 1 = ((r % 2 : Nat) : Int) := by
  have := u8_and_nat r 1 h (by omega)
  rw [nat_mask1] at this
  exact this

set_option maxHeartbeats 1000000 in
theorem sumc_any (B r : Nat) (b : UInt8) (w : World) (hc : w.cell? ⟨B, 0, none⟩ = some (.int .u32 (r : Int))) (hf : w.frozen? ⟨B, 0, none⟩ = false) (hr : r < 4294967296) :
    Calls Try.prog 25 #[.int .u8 (b.toNat : Int), .pointer (some ⟨B, 0, none⟩)] w fun e w' => e = .returned (.tuple #[]) ∧ w'.cell? ⟨B, 0, none⟩ = some (.int .u32 ((bit8 b).foldl stp r : Nat)) ∧ w'.frozen? ⟨B, 0, none⟩ = false ∧ Fr (fun k => k = B) w w' := by
  have hbl := length_bit8 b
  have hb := b.toNat_lt
  generalize hF : (bit8 b).foldl stp r = F
  have HF := Lib.hid hF
  clear hF
  go_enter Try.func25, Try.ntmps25
  go_wp2
  go_loopw [3, 4, 5] (fun _ _ iv wr => ∃ k r : Nat, iv = .int .i64 k ∧ k ≤ 8 ∧ wr.cell? ⟨B, 0, none⟩ = some (.int .u32 (r : Int)) ∧ wr.frozen? ⟨B, 0, none⟩ = false ∧ r < 4294967296 ∧ ((bit8 b).drop k).foldl stp r = F ∧ Fr (fun k => k = B) w wr) (fun _ _ iv _ => 8 - (intOf iv).toNat)
  case atStart => exact ⟨0, r, rfl, Nat.zero_le _, hc, hf, hr, HF.out, Fr.refl _ _⟩
  case round =>
    obtain ⟨k, r, rfl, hk, hc, hf, hr, hgo, hfr⟩ := hrel
    by_cases hlt : k < 8
    · rw [drop_at _ _ _ (bit8_at b k hlt), List.foldl_cons] at hgo
      have hd : b.toNat / 2 ^ k < 256 := Nat.lt_of_le_of_lt (Nat.div_le_self _ _) hb
      have ha1 := and1_u32 r hr
      have ha2 := and1_u8 (b.toNat / 2 ^ k) hd
      rw [Int.natCast_ediv, Int.natCast_pow] at ha2
      have hsl := stp_lt (x := b.toNat / 2 ^ k % 2) hr
      have hset : ∀ (wx : World) (v : Value), wx.cell? ⟨B, 0, none⟩ = some (.int .u32 (r : Int)) → (wx.setCell ⟨B, 0, none⟩ v).cell? ⟨B, 0, none⟩ = some v := fun wx v h => World.cell?_setCell_same wx _ v h
      by_cases hq : r % 2 = b.toNat / 2 ^ k % 2
      · have hn : (bits BinOp.and IntKind.u32 (r : Int) 1 != bits BinOp.and IntKind.u8 ((b.toNat : Int) / 2 ^ k) 1 % 4294967296) = false := by
          rw [bne_eq_false_iff_eq, ha1]
          have : bits BinOp.and IntKind.u8 ((b.toNat : Int) / 2 ^ k) 1 = ((b.toNat / 2 ^ k % 2 : Nat) : Int) := ha2
          rw [this]; omega
        have hs : stp r (b.toNat / 2 ^ k % 2) = r / 2 := by unfold stp; rw [if_pos hq]
        rw [hs] at hgo hsl
        have HG := Lib.hid hgo
        have fin : (wr.setCell ⟨B, 0, none⟩ (.int .u32 ((r : Int) / 2))).cell? ⟨B, 0, none⟩ = some (.int .u32 ((r / 2 : Nat) : Int)) ∧ (wr.setCell ⟨B, 0, none⟩ (.int .u32 ((r : Int) / 2))).frozen? ⟨B, 0, none⟩ = false ∧ Fr (fun k => k = B) w (wr.setCell ⟨B, 0, none⟩ (.int .u32 ((r : Int) / 2))) :=
          ⟨hset _ _ hc, by rw [World.frozen?_setCell]; exact hf, hfr.trans (Fr.set (S := fun k => k = B) wr B _ rfl) (fun _ h => h) (fun _ _ h => h)⟩
        have FIN := Lib.hid fin
        clear hgo hs hq ha1 ha2 hset fin hfr
        go_wp2
        refine ⟨⟨k + 1, r / 2, by go_num, by omega, FIN.out.1, FIN.out.2.1, hsl, HG.out, FIN.out.2.2⟩, ?_⟩
        simp [intOf]; omega
      · have hn : (bits BinOp.and IntKind.u32 (r : Int) 1 != bits BinOp.and IntKind.u8 ((b.toNat : Int) / 2 ^ k) 1 % 4294967296) = true := by
          rw [bne_iff_ne, ha1]
          have : bits BinOp.and IntKind.u8 ((b.toNat : Int) / 2 ^ k) 1 = ((b.toNat / 2 ^ k % 2 : Nat) : Int) := ha2
          rw [this]; omega
        have hs : stp r (b.toNat / 2 ^ k % 2) = r / 2 ^^^ 3988292384 := by unfold stp; rw [if_neg hq]
        have hxo : bits BinOp.xor IntKind.u32 ((r : Int) / 2) 3988292384 = ((r / 2 ^^^ 3988292384 : Nat) : Int) := u32_xor_nat (r / 2) 3988292384 (by omega) (by omega)
        rw [hs] at hgo hsl
        have HG := Lib.hid hgo
        have fin : ∀ x : Int, ((wr.setCell ⟨B, 0, none⟩ (.int .u32 ((r : Int) / 2))).setCell ⟨B, 0, none⟩ (.int .u32 x)).cell? ⟨B, 0, none⟩ = some (.int .u32 x) ∧ ((wr.setCell ⟨B, 0, none⟩ (.int .u32 ((r : Int) / 2))).setCell ⟨B, 0, none⟩ (.int .u32 x)).frozen? ⟨B, 0, none⟩ = false ∧ Fr (fun k => k = B) w ((wr.setCell ⟨B, 0, none⟩ (.int .u32 ((r : Int) / 2))).setCell ⟨B, 0, none⟩ (.int .u32 x)) := fun x =>
          ⟨World.cell?_setCell_same _ _ _ (hset _ _ hc), by rw [World.frozen?_setCell, World.frozen?_setCell]; exact hf, (hfr.trans (Fr.set (S := fun k => k = B) wr B _ rfl) (fun _ h => h) (fun _ _ h => h)).trans (Fr.set (S := fun k => k = B) _ B _ rfl) (fun _ h => h) (fun _ _ h => h)⟩
        have FIN := Lib.hid fin
        have HXO := Lib.hid hxo
        clear hgo hs hq ha1 ha2 hset fin hfr hxo
        go_wp2
        refine ⟨⟨k + 1, r / 2 ^^^ 3988292384, by go_num, by omega, by rw [← HXO.out]; exact (FIN.out _).1, (FIN.out _).2.1, hsl, HG.out, (FIN.out _).2.2⟩, ?_⟩
        simp [intOf]; omega
    · rw [List.drop_eq_nil_of_le (by omega)] at hgo
      simp only [List.foldl_nil] at hgo
      subst hgo
      have FIN := Lib.hid hfr
      clear hfr
      go_wp2
      go_end0
      exact ⟨rfl, hc, hf, FIN.out⟩

def numF (l : List UInt8) (n : Nat) : Nat := l.foldl (fun n b => n * 256 % 4294967296 + b.toNat) n
set_option maxHeartbeats 1000000 in
theorem numc_any (B n : Nat) (b : UInt8) (w : World) (hc : w.cell? ⟨B, 0, none⟩ = some (.int .u32 (n : Int))) (hf : w.frozen? ⟨B, 0, none⟩ = false) (_ : n < 4294967296) :
    Calls Try.prog 27 #[.int .u8 (b.toNat : Int), .pointer (some ⟨B, 0, none⟩)] w fun e w' => e = .returned (.tuple #[]) ∧ w'.cell? ⟨B, 0, none⟩ = some (.int .u32 ((n * 256 % 4294967296 + b.toNat : Nat) : Int)) ∧ w'.frozen? ⟨B, 0, none⟩ = false ∧ Fr (fun k => k = B) w w' := by
  have hb := b.toNat_lt
  generalize b.toNat = x at *
  have ho : bits BinOp.or IntKind.u32 (((n * 256 % 4294967296 : Nat) : Int)) (x : Int) = ((n * 256 % 4294967296 + x : Nat) : Int) := by
    rw [u32_or_nat _ _ (by omega) (by omega), nat_join 8 _ _ (by show n * 256 % 4294967296 % 256 = 0; omega) (by omega)]
  have fin : ∀ y : Int, (w.setCell ⟨B, 0, none⟩ (.int .u32 y)).cell? ⟨B, 0, none⟩ = some (.int .u32 y) ∧ (w.setCell ⟨B, 0, none⟩ (.int .u32 y)).frozen? ⟨B, 0, none⟩ = false ∧ Fr (fun k => k = B) w (w.setCell ⟨B, 0, none⟩ (.int .u32 y)) := fun y =>
    ⟨World.cell?_setCell_same _ _ _ hc, by rw [World.frozen?_setCell]; exact hf, Fr.set w B _ rfl⟩
  have FIN := Lib.hid fin
  have HO := Lib.hid ho
  clear fin ho
  go_enter Try.func27, Try.ntmps27
  go_wp2
  go_end0
  refine ⟨rfl, ?_, (FIN.out _).2.1, (FIN.out _).2.2⟩
  rw [← HO.out]
  exact (FIN.out _).1
end Go.Proofs.Ytjlhcgimijcghaa
