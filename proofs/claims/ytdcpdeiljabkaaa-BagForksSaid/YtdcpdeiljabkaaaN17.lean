/- Bag: what the law's play tells; BagPlays. -/
import Derived.Test.YtdcpdeiljabkaaaN16
namespace Go.Proofs.Ytdcpdeiljabkaaa
open Go Go.RowKit

/-- What a call makes of a bag. -/
def Bg.did (b : Bg) (d : Cl) : Bg := if d.act = 0 then (b.add d.x).2 else if d.act = 1 then b.took d.i d.keep else if d.act = 2 then (b.lose d.i).2 else b
theorem do_any {E : Nat → Prop} {N : Nat} {w0 w : World} {p q : Nat} {b : Bg} {c : Nat} (H : Two E (fun _ => False) N w0 w p q b b c) (d : Cl) (bv : Value) (hby : Byz w0 bv d.x.bytes) (hby0 : w0.heap.size = N) (hbl : d.x.bytes.length ≤ 140737488351232) (hib : d.i ≤ 9223372036854775807) (hc : c ≤ 800) :
    Calls Try.prog 19 #[.pointer (some ⟨p, 0, none⟩), .pointer (some ⟨q, 0, none⟩), .agg #[.int .i64 d.act, .int .i64 d.x.src, .int .i64 d.x.dst, bv, .int .i64 d.i, .bool d.keep]] w fun e w' => e = .returned (.bool true) ∧ Two E (fun _ => False) N w0 w' p q (b.did d) (b.did d) (c + 2) ∧ Same2 E w w' := by
  have hlo : d.x.bytes ≠ [] → ∀ g, bv.ownBlock = some g → g < N := fun hn g hg => by rw [← hby0]; exact hby.lt g hg hn
  unfold Bg.did
  by_cases h0 : d.act = 0
  · rw [if_pos h0]; exact do_add H d bv h0 hby hby0 hlo hbl hib hc
  · rw [if_neg h0]
    by_cases h1 : d.act = 1
    · rw [if_pos h1]; exact do_take H d bv h1 hby hby0 hlo hbl hib hc
    · rw [if_neg h1]
      by_cases h2 : d.act = 2
      · rw [if_pos h2]; exact do_lose H d bv h2 hby hby0 hlo hbl hib hc
      · rw [if_neg h2]; exact do_first H d bv ⟨h0, h1, h2⟩ hby hby0 hlo hbl hib hc
theorem play_bad (n : Int) (v : Value) (w : World) (hn : n < 1 ∨ 48 < n) :
    Calls Try.prog 7 #[.int .i64 n, v] w fun e w' => e = .returned (.tuple #[.pointer none, .pointer none, .bool true]) ∧ Below w.heap.size w w' := by
  have HB := Lib.hid (Below.refl w.heap.size w)
  have HN := Lib.hid (new_bad n w hn)
  have HR := Lib.hid (rnew_bad n w hn)
  clear hn
  go_enter Try.func7, Try.ntmps7
  go_wp2_with fail
  refine HN.out.mono ?_
  rintro e w1 ⟨rfl, rfl⟩
  go_wp2_with fail
  refine HR.out.mono ?_
  rintro e w2 ⟨rfl, rfl⟩
  go_wp2_with fail
  go_loopw [11] (fun iv wr => iv = .int .i64 0 ∧ wr = w) (fun _ _ => 0)
  case atStart => exact ⟨rfl, rfl⟩
  case round =>
    obtain ⟨rfl, rfl⟩ := hrel
    clear HN HR
    go_wp2
    exact bodyPost_ret (v := .tuple #[.pointer none, .pointer none, .bool true]) (by simp [results, Try.results7, go_sem]) rfl ⟨rfl, HB.out⟩
theorem two_new {w w1 w2 : World} {n q : Nat} (h2 : n ≤ 48) (hB : BagAt w.heap.size w1 w.heap.size ⟨n, 0, []⟩ (.slice none 0 0) []) (hb1 : Below w.heap.size w w1) (hq : w1.heap.size = q) (hR : RK w.heap.size w2 q ⟨n, 0, []⟩ 0 (.slice none 0 0) [] (.slice none 0 0) []) (hb2 : Below w1.heap.size w1 w2) :
    Two (fun _ => False) (fun _ => False) w.heap.size w w2 w.heap.size q ⟨n, 0, []⟩ ⟨n, 0, []⟩ 0 := by
  have hlt := hB.lt
  refine ⟨_, _, _, _, _, _, hB.below hb2, hR, fun g hg => ?_, fun g e => e.elim, fun g e => e.elim, hb1.trans (hb2.mono hb1.size), ⟨Nat.zero_le _, h2, h2, Nat.le_refl _, Nat.le_refl _⟩, fun x hx => by cases hx⟩
  rcases hg with rfl | hg
  · exact ⟨by omega, by simp [Value.ownBlock], by simp [Value.ownBlock]⟩
  · exact absurd hg (hasU_nil g)
def PlayG (w : World) (e : Ending) (w' : World) : Prop := ∃ q b c, e = .returned (.tuple #[.pointer (some ⟨w.heap.size, 0, none⟩), .pointer (some ⟨q, 0, none⟩), .bool true]) ∧ Two (fun _ => False) (fun _ => False) w.heap.size w w' w.heap.size q b b c ∧ c ≤ 300
set_option maxRecDepth 100000 in
set_option maxHeartbeats 8000000 in
theorem play_good (n : Nat) (v : Value) (l : List Cl) (w : World) (h1 : 1 ≤ n) (h2 : n ≤ 48) (hv : Cls w v l) (hB : ∀ d ∈ l, d.i ≤ 9223372036854775807 ∧ d.x.bytes.length ≤ 140737488351232) :
    Calls Try.prog 7 #[.int .i64 (n : Int), v] w (PlayG w) := by
  obtain ⟨a, cap, rfl, hl, hd⟩ := hv
  have HN := Lib.hid (new_any w.heap.size n w h1 h2 (Nat.le_refl _))
  have HD := Lib.hid hd
  have HB := Lib.hid hB
  have HP : Hid (w.heap.size = w.heap.size) := Lib.hid rfl
  clear hd hB
  go_enter Try.func7, Try.ntmps7
  go_wp2_with fail
  refine HN.out.mono ?_
  rintro e w1 ⟨rfl, hB1, hb1⟩
  have HR := Lib.hid (rnew_any w.heap.size n w1 h1 h2 hb1.size)
  have HH := Lib.hid hB1
  have HH2 := Lib.hid hb1
  clear hB1 hb1 HN
  go_wp2_with fail
  refine HR.out.mono ?_
  rintro e w2 ⟨rfl, hr, hb2⟩
  obtain ⟨q, hq⟩ : ∃ q, w1.heap.size = q := ⟨_, rfl⟩
  rw [hq] at hr ⊢
  have H0 := Lib.hid (two_new h2 HH.out HH2.out hq hr hb2)
  clear hr hb2 HH HH2 HR hq
  go_wp2_with fail
  go_loopw [11] (fun iv wr => ∃ (k : Nat) (b : Bg), iv = .int .i64 (k : Int) ∧ k ≤ l.length ∧ k ≤ 150 ∧ Hid (Two (fun _ => False) (fun _ => False) w.heap.size w wr w.heap.size q b b (2 * k))) (fun iv _ => 150 - (intOf iv).toNat)
  case atStart => exact ⟨0, _, rfl, Nat.zero_le _, Nat.zero_le _, H0⟩
  case round =>
    clear H0
    obtain ⟨k, b, rfl, hk, hk2, hH⟩ := hrel
    by_cases hgo : k < l.length ∧ k < 150
    · obtain ⟨hkl, hk6⟩ := hgo
      have hx := List.getElem?_eq_getElem hkl
      obtain ⟨g, off, bv, rfl, hg, hda⟩ := HD.out k _ hx
      obtain ⟨hib, hbn⟩ := HB.out _ (List.getElem_mem hkl)
      generalize l[k] = d at *
      have hdo := do_any hH.out d bv hda.b rfl hbn hib (by omega)
      have hbel := hH.out.bel
      have hld : (Instr.loadAt 36 (.pointer (some ⟨g, off + k * 6, none⟩))).run Try.prog wr = .ok (.agg #[.int .i64 d.act, .int .i64 d.x.src, .int .i64 d.x.dst, bv, .int .i64 d.i, .bool d.keep]) wr :=
        run_loadAt_mid wr g (off + k * 6) 36 (clS d bv) _ (fun j u hj => (hbel.cell (p := ⟨g, off + k * 6 + j, none⟩) hg).trans (hda.r j u hj)) Try.underlying36 rfl (by show _ = some 6; kernel_rfl)
      have LD := Lib.hid hld
      have DO := Lib.hid hdo
      have hki : (k : Int) < (l.length : Int) := by omega
      have hki2 : (k : Int) < 150 := by omega
      clear hld hdo hda hbn hx hbel hH hib
      go_wp2_with (refine wpList_load_known rfl 36 (.tmp 52) rfl _ _ rfl LD.out ?_)
      refine DO.out.mono ?_
      rintro e wn ⟨rfl, hn, -⟩
      have HNx := Lib.hid hn
      clear hn LD DO
      go_wp2
      go_roundw
      case rel => exact ⟨k + 1, b.did d, by go_num, by omega, by omega, HNx⟩
      case measure => simp [intOf]; omega
    · have hgo' : ¬ (k : Int) < (l.length : Int) ∨ (k : Int) < (l.length : Int) ∧ ¬ (k : Int) < 150 := by omega
      clear hgo HD HB
      rcases hgo' with hq | ⟨hq, hq2⟩
      all_goals
        go_wp2
        exact bodyPost_ret (v := .tuple #[.pointer (some ⟨w.heap.size, 0, none⟩), .pointer (some ⟨q, 0, none⟩), .bool true]) (by simp [results, Try.results7, go_sem]) rfl ⟨q, b, _, rfl, hH.out, by omega⟩
theorem walk_plays (n : Int) (v : Value) (l : List Cl) (w : World) (hv : Cls w v l) (hB : ∀ d ∈ l, d.i ≤ 9223372036854775807 ∧ d.x.bytes.length ≤ 140737488351232) :
    Calls Try.prog 3 #[.int .i64 n, v] w fun e w' => e = .returned (.bool true) ∧ Below w.heap.size w w' := by
  have hp : Calls Try.prog 7 #[.int .i64 n, v] w fun e w' => ∃ p q, e = .returned (.tuple #[p, q, .bool true]) ∧ Below w.heap.size w w' := by
    by_cases hn : n < 1 ∨ 48 < n
    · exact (play_bad n v w hn).mono fun e w' ⟨h1, h2⟩ => ⟨_, _, h1, h2⟩
    · obtain ⟨m, rfl⟩ : ∃ m : Nat, n = (m : Int) := ⟨n.toNat, by omega⟩
      exact (play_good m v l w (by omega) (by omega) hv hB).mono fun e w' ⟨q, b, c, h1, h2, _⟩ => ⟨_, _, h1, h2.bel⟩
  have HP := Lib.hid hp
  clear hp hv hB
  go_enter Try.func3, Try.ntmps3
  go_wp2_with fail
  refine HP.out.mono ?_
  rintro e w1 ⟨p, q, rfl, hb⟩
  have HL := Lib.hid (live_any w1)
  have HB := Lib.hid hb
  clear hb HP
  go_wp2_with fail
  refine HL.out.mono ?_
  rintro e w2 ⟨rfl, hb2⟩
  have HE := Lib.hid (HB.out.trans (hb2.mono HB.out.size))
  clear hb2 HL HB
  go_wp2
  go_ret
  exact ⟨rfl, HE.out⟩
end Go.Proofs.Ytdcpdeiljabkaaa
