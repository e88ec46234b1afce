/- Place: slices.AppendSeq, Collect, SortedFunc at seats; Seats. -/
import Derived.Test.YtbmdhhafmieapaaH17
namespace Go.Proofs.Ytbmdhhafmieapaa
open Go Go.RowKit Go.Maps Go.Sort Go.Shelf Go.Proofs
attribute [local go_sem] Oper.semAt_some

/-- What is collected: in memory of the call's own. -/
def Gave (S : List Known → Prop) (w : World) (e : Ending) (w' : World) : Prop := ∃ (v : Value) (ss : List Known), e = .returned v ∧ S ss ∧ Mine w.heap.size w' v ss ∧ Below w.heap.size w w'
set_option maxRecDepth 100000 in
set_option maxHeartbeats 4000000 in
theorem appendSeq_in (F : Fence) (n : Nat) (hf : F.fn 36) (hro : F.round = none) (hn : 2 ≤ n) (g : Nat) (lb : Array Value) (hFg : F.fn g) (eg : ∀ args w, (callFunc g args).run Try.prog w = .ok (.enter g args) w)
    (S : List Known → Prop) (N : Nat) (hN : N ≤ 100000) (w : World) (hseq : SeqGives F (n - 1) Try.prog g lb seatV S N w) :
    CallsIn F n Try.prog 36 #[.slice none 0 0, .func (.func g) #[] lb] w (Gave S w) := by
  have h1 : 1 ≤ n := by omega
  refine callsIn_of_wp_marks Try.func36 rfl hf ?_ hro
  simp only [Try.ntmps36, List.size_toArray, List.length_cons, List.length_nil, Nat.reduceAdd, Nat.reduceSub, Array.replicate_succ, Array.replicate_zero, List.push_toArray, List.append_toArray, List.nil_append, List.cons_append]
  gi_wp2
  refine wpIn_rangeFunc ?_
  intro fn hfn
  rw [hro]
  obtain ⟨W0, hW0⟩ : ∃ W0, w.alloc (.cells #[.slice none 0 0] 29) = W0 := ⟨_, rfl⟩
  have hs0 : W0.heap.size = w.heap.size + 1 := by rw [← hW0]; simp
  have hv0 : W0.heap[w.heap.size]? = some (.cells #[.slice none 0 0] 29 (0, 0)) := by rw [← hW0]; exact World.alloc_heap_new w _
  have hb0 : Below w.heap.size w W0 := by rw [← hW0]; exact (Below.refl _ w).alloc (Nat.le_refl _) _
  rw [hW0]
  obtain ⟨W1, hW1⟩ : ∃ W1, (W0.alloc (.deferred (some []))).alloc (.loop (apRec fn (.func (.func g) #[] lb) w.heap.size W0.heap.size .ready none)) = W1 := ⟨_, rfl⟩
  have hold : ∀ k, k < W0.heap.size → W1.heap[k]? = W0.heap[k]? := fun k hk => by
    rw [← hW1]; exact (Below.heap_alloc _ _ k (by simp; omega)).trans (Below.heap_alloc _ _ k hk)
  have hb1 : Below w.heap.size w W1 := by rw [← hW1]; exact (hb0.alloc hb0.size _).alloc (by have := hb0.size; simp; omega) _
  have hs1 : W1.heap.size = W0.heap.size + 2 := by rw [← hW1]; simp
  have hM : ApAt w fn (.func (.func g) #[] lb) w.heap.size (W0.heap.size + 1) W0.heap.size [] W1 :=
    ⟨⟨_, (hold w.heap.size (by omega)).trans hv0, ⟨rfl, .inl ⟨rfl, rfl⟩⟩⟩,
     by rw [← hW1]; have := World.alloc_heap_new (W0.alloc (.deferred (some []))) (.loop (apRec fn (.func (.func g) #[] lb) w.heap.size W0.heap.size .ready none)); rwa [World.size_alloc] at this,
     by rw [← hW1]; exact (Below.heap_alloc _ _ _ (by simp)).trans (World.alloc_heap_new W0 _), hb1⟩
  refine ⟨W0.heap.size + 1, [{ target := .collected W0.heap.size, args := #[] }], W1, { target := .fn (.func g) lb, args := #[.func (.yield (W0.heap.size + 1)) #[] #[]] }, W1, g,
    #[.func (.yield (W0.heap.size + 1)) #[] #[]] ++ lb, W1, ?_, ?_, ?_, ?_, fun _ => h1, ?_⟩
  · rw [← hW1]; exact run_enterLoop_outer _ _ _ _ _
  · simp [resolve, go_sem]
  · intro f' hf'; simp [Target.leads] at hf'; subst hf'; exact hFg
  · simp [invoke, go_sem, eg]
  · refine (hseq (W0.heap.size + 1) (ApAt w fn (.func (.func g) #[] lb) w.heap.size (W0.heap.size + 1) W0.heap.size) W1 hb1 (ap_abides _ _ _ _ _ _ _ hb1.size)
      (fun pre x W hJ hl => ap_yield F (n - 1 - 1) w fn hfn _ w.heap.size (W0.heap.size + 1) W0.heap.size (by omega) (by omega) (by omega) (Nat.le_refl _) (by omega) N hN pre x W hJ hl) hM).mono ?_
    rintro e W2 ⟨⟨v0, rfl⟩, ss, hS, h2⟩
    obtain ⟨v, hv, hrow⟩ := h2.box
    have hend := run_endLoop (P := Try.prog) h2.L (by simp [apRec])
    obtain ⟨W3, hW3⟩ : ∃ W3, W2.putObj (W0.heap.size + 1) (.loop { apRec fn (.func (.func g) #[] lb) w.heap.size W0.heap.size .ready none with state := .exhausted }) = W3 := ⟨_, rfl⟩
    rw [hW3] at hend
    have hg3 : W2.grownBy W3 (some (W0.heap.size + 1)) := by rw [← hW3]; exact grown_putObj _ _ _
    have hv3 : W3.heap[w.heap.size]? = some (.cells #[v] 29 (0, 0)) := by rw [← hW3]; exact (World.putObj_heap_other (by omega)).trans hv
    have hK3 : W3.heap[W0.heap.size]? = some (.deferred (some [])) := by rw [← hW3]; exact (World.putObj_heap_other (by omega)).trans h2.K
    have hrow3 : Mine w.heap.size W3 v ss := World.ownsRow.kept hrow hg3 (mine_ne hrow h2.L (fun cur e => by cases e))
    have hb3 : Below w.heap.size w W3 := h2.below.grown hg3 h2.below.size (fun k e => by cases e; omega)
    obtain ⟨hc3, hf3⟩ := cell_of_box hv3
    clear hW3
    refine ⟨none, W3, hend, ?_⟩
    have HR := Lib.hid hrow3
    have HB := Lib.hid hb3
    have HK := Lib.hid hK3
    clear hrow3 hb3 hg3 hrow hv hv3 hM hold hb1 hb0 hW1 hv0 hK3
    gi_wp2
    rw [← hs0]
    refine ⟨by simp, .inl ⟨_, _, rfl, run_takeDeferred HK.out, ?_⟩⟩
    exact ⟨_, results_tmp rfl _ _ _, v, ss, rfl, hS, World.ownsRow.kept HR.out (grown_putObj _ _ _) (mine_ne HR.out HK.out (fun cur e => by cases e)), HB.out.grown (grown_putObj _ _ _) HB.out.size (fun k e => by cases e; omega)⟩

/-- maps.Values of a map of seats gives its seats. -/
theorem values_gives (n : Nat) (hn : 1 ≤ n) (Bm b nn : Nat) (m : List Known) (hr : Rising m) (w : World) (hBm : Bm < w.heap.size) (hm : w.cell? ⟨Bm, 0, none⟩ = some (.map (some b))) (hown : w.ownsMap Try.prog 9 seatElem b nn (mapD m)) :
    SeqGives Fence.wide n Try.prog 33 #[.pointer (some ⟨Bm, 0, none⟩)] seatV (fun ps => ps.Perm m) m.length w := fun l J W hW hJ hY h0 => by
  have hown' : W.ownsMap Try.prog 9 seatElem b nn (mapD m) := by
    have hbl := hown.lt
    obtain ⟨es, clock, hb, Ft, hs, hD⟩ := hown
    exact ⟨es, clock, (hW.block b hbl).trans hb, Ft, hs, hD⟩
  exact values1_in Fence.wide n trivial rfl hn l Bm b nn m hr J hY W hJ ((hW.cell (p := ⟨Bm, 0, none⟩) hBm).trans hm) hown' h0
theorem collect_any (g : Nat) (lb : Array Value) (eg : ∀ args w, (callFunc g args).run Try.prog w = .ok (.enter g args) w) (S : List Known → Prop) (N : Nat) (hN : N ≤ 100000) (w : World) (hseq : SeqGives Fence.wide 4 Try.prog g lb seatV S N w) :
    Calls Try.prog 31 #[.func (.func g) #[] lb] w (Gave S w) := by
  have hc : Calls Try.prog 36 #[.slice none 0 0, .func (.func g) #[] lb] w (Gave S w) := (callsIn_wide (n := 5)).1 (appendSeq_in Fence.wide 5 trivial rfl (by decide) g lb trivial eg S N hN w hseq)
  have HC := Lib.hid hc
  clear hc hseq eg
  go_enter Try.func31, Try.ntmps31
  go_wp2_with fail
  refine HC.out.mono ?_
  rintro e w' ⟨v, ss, rfl, h1, h2, h3⟩
  have FIN := Lib.hid (show Gave S w (.returned v) w' from ⟨v, ss, rfl, h1, h2, h3⟩)
  clear h1 h2 h3 HC
  go_wp2
  go_ret
  exact FIN.out
section
variable (w : World) (f : Value)
theorem isort_nil : Calls Try.prog 40 #[.slice none 0 0, .int .i64 0, .int .i64 0, f] w fun e w' => e = .returned (.tuple #[]) ∧ w' = w := by
  go_enter Try.func40, Try.ntmps40
  go_wp2
  refine wp_loop_rounds 1 ?_
  rw [rounds_succ]
  go_wp2
  exact bodyPost_end (results_none rfl _ _ _) rfl ⟨rfl, rfl⟩
theorem pdq_nil (n : Int) : Calls Try.prog 37 #[.slice none 0 0, .int .i64 0, .int .i64 0, .int .i64 n, f] w fun e w' => e = .returned (.tuple #[]) ∧ w' = w := by
  have HC := Lib.hid (isort_nil w f)
  go_enter Try.func37, Try.ntmps37
  go_wp2
  refine wp_loop_rounds 1 ?_
  rw [rounds_succ]
  go_wp2_with fail
  refine HC.out.mono ?_
  rintro e w' ⟨rfl, rfl⟩
  go_wp2
  exact bodyPost_ret (results_none rfl _ _ _) rfl ⟨rfl, rfl⟩
theorem sort_nil : Calls Try.prog 32 #[.slice none 0 0, f] w fun e w' => e = .returned (.tuple #[]) ∧ w' = w := by
  have HL := Lib.hid (Try.bits_Len 0 w (by decide) (by decide))
  have HC := Lib.hid (fun n => pdq_nil w f n)
  go_enter Try.func32, Try.ntmps32
  go_wp2_with fail
  refine HL.out.mono ?_
  rintro e w' ⟨rfl, rfl⟩
  go_wp2_with fail
  refine (HC.out _).mono ?_
  rintro e w' ⟨rfl, rfl⟩
  go_wp2
  exact bodyPost_end (results_none rfl _ _ _) rfl ⟨rfl, rfl⟩
end
/-- slices.SortedFunc of a map's values: the list itself. -/
theorem sorted_any (Bm b nn : Nat) (m : List Known) (hr : Rising m) (hl : m.length ≤ 1000) (w : World) (hBm : Bm < w.heap.size) (hm : w.cell? ⟨Bm, 0, none⟩ = some (.map (some b))) (hown : w.ownsMap Try.prog 9 seatElem b nn (mapD m)) :
    Calls Try.prog 26 #[.func (.func 33) #[] #[.pointer (some ⟨Bm, 0, none⟩)], .func (.func 28) #[] #[]] w (Gave (· = m) w) := by
  have hc := collect_any 33 #[.pointer (some ⟨Bm, 0, none⟩)] (enters_of Try.func33 (by kernel_rfl) rfl) (fun ps => ps.Perm m) m.length (by omega) w (values_gives 4 (by decide) Bm b nn m hr w hBm hm hown)
  have HC := Lib.hid hc
  clear hc hown hm hBm
  go_enter Try.func26, Try.ntmps26
  go_wp2_with fail
  refine HC.out.mono ?_
  rintro e w1 ⟨v, ss, rfl, hp, h2, h3⟩
  clear HC
  rcases h2.2 with ⟨rfl, h0⟩ | ⟨g, cap, cur, rfl, hg, hgb, hnc, hcm, hcs, hct⟩
  · have hss : ss = [] := List.length_eq_zero_iff.mp h0
    subst hss
    have hm0 : m = [] := List.nil_perm.1 hp
    subst hm0
    have FIN := Lib.hid (show Gave (· = ([] : List Known)) w (.returned (.slice none 0 0)) w1 from ⟨_, _, rfl, rfl, h2, h3⟩)
    clear h2 h3 hp
    go_wp2_with fail
    refine (sort_nil w1 _).mono ?_
    rintro e w' ⟨rfl, rfl⟩
    go_wp2
    go_ret
    exact FIN.out
  · have hlen : ss.length = m.length := hp.length_eq
    have HS := Lib.hid (sort_any w.heap.size g cap w1 ss h2 (by omega))
    have HH := Lib.hid (And.intro hp (And.intro h2 h3))
    clear h2 h3 hp hg hgb hnc hcm hcs hct hlen
    go_wp2_with fail
    refine HS.out.mono ?_
    rintro e w2 ⟨rfl, l', p1, p2, p3, p4⟩
    have FIN := Lib.hid (show Gave (· = m) w (.returned (.slice (some ⟨g, 0, none⟩) ss.length cap)) w2 from by
      obtain ⟨hp, h2, h3⟩ := HH.out
      have e : l' = m := sorted_eq hr (p1.trans hp) p2
      subst e
      exact ⟨_, _, rfl, rfl, p3, h3.grown p4 h3.size (fun k hk => by cases hk; exact (World.ownsRow.lt h2 g rfl).1)⟩)
    clear p1 p2 p3 p4 HH HS
    go_wp2
    go_ret
    exact FIN.out
end Go.Proofs.Ytbmdhhafmieapaa
