/-
  The payloads that sum.Scan answers lie in blocks that are apart from one another.
-/
import Derived.Test.YtapejmmefhbadaaDoorScan
namespace Go.Proofs.YtapejmmefhbadaaDoor
open Go.RowKit Go.Shelf
set_option linter.unusedVariables false
attribute [local go_sem] Oper.semAt_some

/-- No two of them lie in one block. -/
def Apart (xs : List Told) : Prop := ∀ (i j : Nat) (x y : Told), xs[i]? = some x → xs[j]? = some y → x.g = y.g → i = j
theorem Apart.nil : Apart [] := fun i j x y h => by simp at h
theorem Apart.snoc {xs : List Told} {x : Told} (h : Apart xs) (hx : ∀ y ∈ xs, y.g ≠ x.g) : Apart (xs ++ [x]) := by
  intro i j y z hi hj e
  rw [List.getElem?_append] at hi hj
  split at hi <;> split at hj
  · exact h i j y z hi hj e
  · have : z = x := by
      have := List.mem_of_getElem? hj; simpa using this
    subst this
    exact absurd e (hx y (List.mem_of_getElem? hi))
  · have : y = x := by
      have := List.mem_of_getElem? hi; simpa using this
    subst this
    exact absurd e.symm (hx z (List.mem_of_getElem? hj))
  · have h1 := (List.getElem?_eq_some_iff.1 hi).1
    have h2 := (List.getElem?_eq_some_iff.1 hj).1
    simp at h1 h2
    omega

set_option maxRecDepth 100000 in
set_option maxHeartbeats 2000000 in
theorem each1_inA (m : Nat) (hm : 1 ≤ m) (l Bn bb n : Nat) (zs : List Int) (hl : zs.length = n) (hn : n ≤ 140737488355328) (hz : Octets zs) (J Jx : List Told → World → Prop) (W0 : World) (hJa : AbidesFrom W0.heap.size J)
    (hY : ∀ pre x W1, J pre W1 → Lies W0.heap.size x W1 → (Row1 zs 0 (pre ++ [x]) ∧ Apart (pre ++ [x])) → pre.length < n + 1 → YieldAt Fence.wide (m - 1) Tryd.prog l (tolds x) W1 fun e W' =>
      (e = .returned (.bool true) ∧ J (pre ++ [x]) W' ∧ Keeps3 Bn bb W1 W') ∨ (e = .returned (.bool false) ∧ Jx (pre ++ [x]) W'))
    (hBn : Bn < W0.heap.size) (hbb : bb < W0.heap.size) (hT : Tab W0) (hcB : W0.cell? ⟨Bn, 0, none⟩ = some (.slice (some ⟨bb, 0, none⟩) n n)) (hcb : Has W0 (some ⟨bb, 0, none⟩) zs) (hJ0 : J [] W0) :
    CallsIn Fence.wide m Tryd.prog 17 #[.func (.yield l) #[] #[], .pointer (some ⟨Bn, 0, none⟩)] W0 fun e W' => (∃ v, e = .returned v) ∧
      ((∃ xs, (AllOf zs 0 xs ∧ Apart xs) ∧ J xs W') ∨ (∃ pre, (Row1 zs 0 pre ∧ Apart pre) ∧ Jx pre W')) := by
  refine callsIn_of_wp Tryd.func17 rfl trivial ?_ rfl
  simp only [Tryd.ntmps17, List.size_toArray, List.length_cons, List.length_nil, Nat.reduceAdd, Nat.reduceSub, Array.replicate_succ, Array.replicate_zero, List.push_toArray, List.append_toArray, List.nil_append, List.cons_append]
  gi_wp2
  gi_loopw [3] (fun t wr => ∃ (pre : List Told) (k : Nat), t = .int .i64 k ∧ k ≤ n ∧ pre.length ≤ k ∧ (Row1 zs 0 pre ∧ Apart pre ∧ ∀ y ∈ pre, y.g < wr.heap.size) ∧ lastOf 0 pre = k ∧ J pre wr ∧ Keeps3 Bn bb W0 wr) (fun t _ => n - (intOf t).toNat)
  case atStart => exact ⟨[], 0, rfl, by omega, by simp, ⟨trivial, Apart.nil, fun y hy => by cases hy⟩, rfl, hJ0, Keeps3.refl _ _ _⟩
  case round =>
    obtain ⟨pre, k, rfl, hk, hpl, ⟨hrow, hapart, hlow⟩, hlast, hJp, hbel⟩ := hrel
    have hcB1 : wr.cell? ⟨Bn, 0, none⟩ = some (.slice (some ⟨bb, 0, none⟩) n n) := (World.cell?_of_block (w := W0) (a := ⟨Bn, 0, none⟩) hbel.box).trans hcB
    have hcb1 : Has wr (some ⟨bb, 0, none⟩) zs := hbel.has hcb
    have hT1 : Tab wr := hbel.tab hT
    have k0 : (0 : Int) ≤ k := by omega
    have k1 : (k : Int) ≤ n := by omega
    by_cases hkn : n = k
    · gi_wp2_with fail
      refine ⟨trivial, ?_⟩
      refine (callsIn_wide.2 (next_short _ 0 0 _ (by decide))).mono ?_
      rintro e w1 ⟨rfl, hw1⟩
      subst hw1
      gi_wp2
      refine bodyPost_ret (results_none rfl _ _ _) rfl ?_
      exact ⟨⟨_, rfl⟩, .inl ⟨pre, ⟨⟨hrow, fun N h => by have := h.1; rw [hlast] at this; simp at this; omega⟩, hapart⟩, hJp⟩⟩
    · have hkl : k < n := by omega
      have hmid : Has wr (some ⟨bb, k, none⟩) (zs.drop k) := by
        have := has_mid hcb1 k (n - k) (by omega)
        rw [Nat.zero_add, List.take_of_length_le (by simp; omega)] at this
        exact this
      gi_wp2_with fail
      refine ⟨trivial, ?_⟩
      refine (callsIn_wide.2 (next_any (some ⟨bb, k, none⟩) (n - k) (n - k) (zs.drop k) _ (by simp; omega) hmid (Nat.le_refl _) (by unfold maxLen; omega) (hz.drop k) hT1)).mono ?_
      rintro e w1 ⟨hb1, hN1⟩
      have hJ1 : J pre w1 := hJa pre wr w1 none hJp ⟨hb1.os, hb1.tape, hb1.output, hb1.size, fun j hj _ => hb1.block j hj⟩ (fun r h => by cases h)
      have hbel1 : Keeps3 Bn bb W0 w1 := hbel.trans (Keeps3.of_below hb1 hT1.pos (Nat.lt_of_lt_of_le hBn hbel.size) (Nat.lt_of_lt_of_le hbb hbel.size))
      rcases hN1 with ⟨hno, rfl⟩ | ⟨N, gp, hrec, rfl, hgp, hhp⟩
      · gi_wp2
        refine bodyPost_ret (results_none rfl _ _ _) rfl ?_
        exact ⟨⟨_, rfl⟩, .inl ⟨pre, ⟨⟨hrow, by rw [hlast]; exact hno⟩, hapart⟩, hJ1⟩⟩
      · have hNl : (((zs.drop k).drop 8).take N).length = N := by have := hrec.2.2.2.1; rw [List.length_take]; omega
        have hN2 : k + (8 + N) ≤ n := by have h1 := hrec.2.2.2.1; have h2 := hrec.1; simp at h1 h2; omega
        obtain ⟨ps, hps⟩ : ∃ ps, ((zs.drop k).drop 8).take N = ps := ⟨_, rfl⟩
        rw [hps] at hNl hhp
        have HX : Hid (Row1 zs 0 (pre ++ [⟨k + (8 + N), gp, ps⟩])) := Row1_snoc zs 0 pre _ hrow ⟨N, by rw [hlast]; exact hrec, by rw [hlast], by rw [hlast]; exact hps.symm⟩
        have HLs : Hid (lastOf 0 (pre ++ [⟨k + (8 + N), gp, ps⟩]) = k + (8 + N)) := lastOf_snoc _ _ _
        have hap : Apart (pre ++ [⟨k + (8 + N), gp, ps⟩]) := hapart.snoc (fun y hy e => by
          have h1 := hlow y hy
          dsimp only at e
          omega)
        have hlow2 : ∀ y ∈ pre ++ [(⟨k + (8 + N), gp, ps⟩ : Told)], y.g < w1.heap.size := fun y hy => by
          rcases List.mem_append.1 hy with h | h
          · exact Nat.lt_of_lt_of_le (hlow y h) hb1.size
          · obtain rfl := List.mem_singleton.1 h
            exact lt_heap hhp
        have HAP : Hid (Apart (pre ++ [⟨k + (8 + N), gp, ps⟩]) ∧ ∀ y ∈ pre ++ [(⟨k + (8 + N), gp, ps⟩ : Told)], y.g < w1.heap.size) := ⟨hap, hlow2⟩
        obtain ⟨fn, tmps, assign, body, hy, hR⟩ := hY pre ⟨k + (8 + N), gp, ps⟩ w1 hJ1 ⟨Nat.le_trans hbel.size hgp, hhp⟩ ⟨HX.out, hap⟩ (by omega)
        have hy' : (Instr.yield l #[.int .i64 ((k : Int) + (8 + (N : Int))), .slice (some ⟨gp, 0, none⟩) N N]).run Tryd.prog w1 = .ok (.round l fn tmps assign body) w1 := by
          simpa [tolds, hNl] using hy
        clear hy hcb1 hmid hhp hrec hps hY hb1 hT1 hrow hlast hcB1 hap hlow2 hlow hapart
        gi_wp2
        refine hR.mono ?_
        rintro e W3 (⟨rfl, hJ3, hk3⟩ | ⟨rfl, hJx3⟩)
        · gi_wp2
          go_roundw
          case rel => exact ⟨pre ++ [⟨k + (8 + N), gp, ps⟩], k + (8 + N), by go_num, hN2, by simp; omega, ⟨HX.out, HAP.out.1, fun y hy => Nat.lt_of_lt_of_le (HAP.out.2 y hy) hk3.size⟩, HLs.out, hJ3, hbel1.trans hk3⟩
          case measure => simp [intOf]; omega
        · gi_wp2
          refine bodyPost_ret (results_none rfl _ _ _) rfl ?_
          exact ⟨⟨_, rfl⟩, .inr ⟨pre ++ [⟨k + (8 + N), gp, ps⟩], ⟨HX.out, HAP.out.1⟩, hJx3⟩⟩

/-- The sequence's word. -/
theorem each_seqA (m : Nat) (hm : 1 ≤ m) (Bn bb n : Nat) (zs : List Int) (hl : zs.length = n) (hn : n ≤ 140737488355328) (hz : Octets zs) (w : World)
    (hBn : Bn < w.heap.size) (hbb : bb < w.heap.size) (hT : Tab w) (hcB : w.cell? ⟨Bn, 0, none⟩ = some (.slice (some ⟨bb, 0, none⟩) n n)) (hcb : Has w (some ⟨bb, 0, none⟩) zs) :
    SeqP m Tryd.prog 17 #[.pointer (some ⟨Bn, 0, none⟩)] tolds (Lies w.heap.size) (Keeps3 Bn bb) (fun l => AllOf zs 0 l ∧ Apart l) (fun l => Row1 zs 0 l ∧ Apart l) (n + 1) w := by
  intro l J Jx W hW hJ hY h0
  have k := Keeps3.of_below (Bn := Bn) (bb := bb) hW hT.pos hBn hbb
  exact each1_inA m hm l Bn bb n zs hl hn hz J Jx W hJ (fun pre x W1 h1 h2 h3 h4 => hY pre x W1 h1 ⟨Nat.le_trans hW.size h2.1, h2.2⟩ h3 h4)
    (Nat.lt_of_lt_of_le hBn hW.size) (Nat.lt_of_lt_of_le hbb hW.size) (k.tab hT) ((World.cell?_of_block (w := w) (a := ⟨Bn, 0, none⟩) k.box).trans hcB) (k.has hcb) h0

set_option maxRecDepth 100000 in
set_option maxHeartbeats 2000000 in
theorem scan_anyA (a : Option Addr) (n cap : Nat) (zs : List Int) (w : World) (hn : zs.length = n) (hB : Has w a zs) (hz : Octets zs) (hT : Tab w) (hl : n ≤ 1099511627776) :
    Calls Tryd.prog 8 #[.slice a n cap] w fun e w' => ∃ xs v, (AllOf zs 0 xs ∧ Apart xs) ∧ e = .returned (.tuple #[v, .int .i64 (lastOf 0 xs)]) ∧ w'.ownsRow w.heap.size 24 1 v xs.length (xs.map slv) ∧ (∀ x ∈ xs, Lies w.heap.size x w') ∧ Below w.heap.size w w' := by
  refine (callsIn_wide (n := 3)).1 ?_
  refine callsIn_of_wp_marks Tryd.func8 rfl trivial ?_ rfl
  simp only [Tryd.ntmps8, List.size_toArray, List.length_cons, List.length_nil, Nat.reduceAdd, Nat.reduceSub, Array.replicate_succ, Array.replicate_zero, List.push_toArray, List.append_toArray, List.nil_append, List.cons_append]
  obtain ⟨i0, hi, hz0, hz1, hz2⟩ := info_parts Tryd.info24
  gi_wp2_with fail
  refine ⟨trivial, ?_⟩
  have b2 : Below w.heap.size w ((w.alloc (.cells #[.slice none 0 0] 22)).alloc (.cells #[.int .i64 0] 3)) := ((Below.refl _ w).alloc (Nat.le_refl _) _).alloc (by simp) _
  refine (callsIn_wide.2 (each_any a n cap zs _ hn (hB.of_below b2) (by omega))).mono ?_
  rintro e w3 ⟨rfl, hc3, hH3, hs3, hb3⟩
  have hsz2 : ((w.alloc (.cells #[.slice none 0 0] 22)).alloc (.cells #[.int .i64 0] 3)).heap.size = w.heap.size + 2 := by simp
  rw [hsz2] at hc3 hH3 hs3 hb3 ⊢
  have B3 : Below w.heap.size w w3 := b2.trans (hb3.mono (by omega))
  have T3 : Tab w3 := hT.below B3 hT.pos
  have hbox : w3.heap[w.heap.size]? = some (.cells #[.slice none 0 0] 22 (0, 0)) := (hb3.block _ (by omega)).trans ((Go.heap_alloc_old _ _ _ (by simp)).trans (heap_alloc_new w _))
  have hend : w3.heap[w.heap.size + 1]? = some (.cells #[.int .i64 0] 3 (0, 0)) := by
    refine (hb3.block _ (by omega)).trans ?_
    have := heap_alloc_new (w.alloc (.cells #[.slice none 0 0] 22)) (.cells #[.int .i64 0] 3)
    rw [World.size_alloc] at this; exact this
  have hpos := hT.pos
  gi_wp2_with fail
  refine wpIn_range_px (n := 3) (by decide) (gf := 17) (lb := #[.pointer (some ⟨w.heap.size + 2, 0, none⟩)]) rfl (enters_of Tryd.func17 (by kernel_rfl) rfl)
    (each_seqA 2 (by decide) (w.heap.size + 2) (w.heap.size + 3) n zs hn (by omega) hz w3 (by omega) (by omega) T3 hc3 hH3) Keeps3.trans ?hKb (Below.refl _ _) (fun _ => rfl)
    (ScanI w) (fun _ _ _ => False) (scanI_own w _ B3.size) (fun _ _ _ _ _ hs _ _ => hs) (lies_own _ _) ?h0
    (fun x => { tmps := #[.slice a n cap, undef, .slice none 0 0, .int .i64 0, .pointer (some ⟨w.heap.size, 0, none⟩), .pointer (some ⟨w.heap.size + 1, 0, none⟩), .int .i64 x.behind, .slice (some ⟨x.g, 0, none⟩) x.ps.length x.ps.length, .slice a n cap, .func (.func 17) #[] #[.pointer (some ⟨w.heap.size + 2, 0, none⟩)], .int .i64 x.behind, .slice (some ⟨x.g, 0, none⟩) x.ps.length x.ps.length, undef, undef, undef, undef, undef, undef, undef], defers := [] }) ?assign ?body ?done ?stop
  case hKb =>
    intro W l o o' hlw hW _ _
    have hlt := lt_heap hW
    exact ⟨by simp, World.putObj_heap_other (by omega), World.putObj_heap_other (by omega), World.putObj_heap_other (by omega)⟩
  case h0 => exact ⟨⟨_, hbox, World.ownsRow_nil _ _ _ _⟩, hend, (fun x hx => by cases hx), B3, by omega⟩
  case assign =>
    intro l x W K hK
    simp only [tolds]
    gi_wp2
    exact hK
  case body =>
    rintro l pre x W ⟨⟨v, hv, hrow⟩, he, hx, hb, hs⟩ hxx _ hlen
    have hcv := cell_of_row W _ 0 _ _ _ hv
    have hxx' : Lies (w.heap.size + 4) x W := ⟨Nat.le_trans (by omega) hxx.1, hxx.2⟩
    gi_wp2_with (gi_at_builtin; refine wpListIn_append_own _ rfl (.tmp 12) (.tmp 14) 22 rfl (w.heap.size + 4) 24 i0 (.slice none 0 0) 1 24 Tryd.underlying22 hi hz0 hz1 hz2 rfl (by decide) v pre.length (pre.map slv) rfl (hrow.alloc _) ⟨W.heap.size, 0, none⟩ 1 1 [slv x] rfl rfl (cell_one_new _ _ _) (by intro u hu; simp at hu; subst hu; rfl) (by unfold maxLen; omega) (by omega) (by simp; omega) ?_; intro v' w1 hown' hgrow _; obtain ⟨g', cap', rfl, _, _⟩ := hown'.form (by omega); obtain ⟨⟨q1, q2, q3, q4⟩, HQ⟩ := scan_app (B := w3.heap.size) hv hrow he hx hxx' hb hs hown' hgrow hpos)
    exact HQ.out
  case done =>
    rintro D xs W hD hS ⟨⟨v, hv, hrow⟩, he, hx, hb, hs⟩ hK
    have hcv : W.cell? ⟨w.heap.size, 0, none⟩ = some v := cell_of_row W _ 0 _ _ _ hv
    have hce : W.cell? ⟨w.heap.size + 1, 0, none⟩ = some (.int .i64 (lastOf 0 xs)) := cell_of_row W _ 0 _ _ _ he
    gi_wp2
    gi_region
    gi_wp2
    have hKd : W.drew.heap[D]? = some (.deferred (some [])) := hK
    refine ⟨by simp, .inl ⟨_, _, rfl, run_takeDeferred hKd, ?_⟩⟩
    have other : ∀ (k : Nat) (cs : Array Value) (t : TypeId) (fr : Nat × Nat), W.heap[k]? = some (.cells cs t fr) → (W.drew.putObj D (.deferred none)).heap[k]? = W.heap[k]? := fun k cs t fr h =>
      World.putObj_heap_other (fun e => by subst e; rw [h] at hK; cases hK)
    have hbl : Below w.heap.size w (W.drew.putObj D (.deferred none)) := hb.drew.grown (grownBy_putObj' _ D (.deferred none)) hb.size (fun k e => by cases e; have := B3.size; omega)
    refine ⟨.tuple #[v, .int .i64 (lastOf 0 xs)], by simp [results, Tryd.results8, go_sem], xs, v, hS, rfl, ?_, ?_, hbl⟩
    · refine own_block (own_base hrow (by omega)) (fun k hk => ?_)
      rcases hrow.2 with ⟨rfl, _⟩ | ⟨g, cp, cur, rfl, _, hgg, _⟩
      · simp [Value.ownBlock] at hk
      · simp [Value.ownBlock] at hk; subst hk; exact other _ _ _ _ hgg
    · intro x hxm
      have := hx x hxm
      exact ⟨by have := this.1; omega, (other _ _ _ _ this.2).trans this.2⟩
  case stop =>
    rintro D c pre W _ _ h _
    exact h.elim
end Go.Proofs.YtapejmmefhbadaaDoor
