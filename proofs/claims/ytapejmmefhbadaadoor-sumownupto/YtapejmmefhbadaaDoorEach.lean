/-
  The sequence that sum.Each tells: its word, for whatever loop body.
-/
import Derived.Test.YtapejmmefhbadaaDoorRange
namespace Go.Proofs.YtapejmmefhbadaaDoor
open Go.RowKit Go.Shelf
set_option linter.unusedVariables false
attribute [local go_sem] Oper.semAt_some

/-- One record that is told: the place behind it, the payload's block, its bytes. -/
structure Told where
  behind : Nat
  g : Nat
  ps : List Int
def tolds (x : Told) : Array Value := #[.int .i64 x.behind, .slice (some ⟨x.g, 0, none⟩) x.ps.length x.ps.length]
/-- The payload lies in a block of its own, laid since. -/
def Lies (n₀ : Nat) (x : Told) (W : World) : Prop := n₀ ≤ x.g ∧ W.heap[x.g]? = some (.cells (vals x.ps).toArray 5 (0, 0))
/-- These are records, one behind the other, from a place on. -/
def Row1 (zs : List Int) : Nat → List Told → Prop
  | _, [] => True
  | k, x :: xs => (∃ N, IsRec (zs.drop k) N ∧ x.behind = k + (8 + N) ∧ x.ps = ((zs.drop k).drop 8).take N) ∧ Row1 zs x.behind xs
/-- The place behind them. -/
def lastOf : Nat → List Told → Nat
  | k, [] => k
  | _, x :: xs => lastOf x.behind xs
/-- These are all of them. -/
def AllOf (zs : List Int) (k : Nat) (xs : List Told) : Prop := Row1 zs k xs ∧ ∀ N, ¬ IsRec (zs.drop (lastOf k xs)) N

theorem lastOf_snoc (k : Nat) (xs : List Told) (x : Told) : lastOf k (xs ++ [x]) = x.behind := by
  induction xs generalizing k with
  | nil => rfl
  | cons y ys ih => exact ih _
theorem Row1_snoc (zs : List Int) (k : Nat) (xs : List Told) (x : Told) (h : Row1 zs k xs) (hx : ∃ N, IsRec (zs.drop (lastOf k xs)) N ∧ x.behind = lastOf k xs + (8 + N) ∧ x.ps = ((zs.drop (lastOf k xs)).drop 8).take N) : Row1 zs k (xs ++ [x]) := by
  induction xs generalizing k with
  | nil => exact ⟨hx, trivial⟩
  | cons y ys ih => exact ⟨h.1, ih _ h.2 hx⟩

/-- What the sequence leans on, between two rounds, lies as it lay: the table, the captured variable, the copied bytes. -/
structure Keeps3 (Bn bb : Nat) (A B : World) : Prop where
  size : A.heap.size ≤ B.heap.size
  zero : B.heap[0]? = A.heap[0]?
  box : B.heap[Bn]? = A.heap[Bn]?
  bytes : B.heap[bb]? = A.heap[bb]?
theorem Keeps3.refl (Bn bb : Nat) (A : World) : Keeps3 Bn bb A A := ⟨Nat.le_refl _, rfl, rfl, rfl⟩
theorem Keeps3.trans {Bn bb : Nat} {A B C : World} (h : Keeps3 Bn bb A B) (k : Keeps3 Bn bb B C) : Keeps3 Bn bb A C :=
  ⟨Nat.le_trans h.size k.size, k.zero.trans h.zero, k.box.trans h.box, k.bytes.trans h.bytes⟩
theorem Keeps3.of_below {Bn bb B : Nat} {A C : World} (h : Below B A C) (h0 : 0 < B) (h1 : Bn < B) (h2 : bb < B) : Keeps3 Bn bb A C := ⟨h.size, h.block 0 h0, h.block Bn h1, h.block bb h2⟩
theorem Keeps3.tab {Bn bb : Nat} {A B : World} (h : Keeps3 Bn bb A B) (hT : Tab A) : Tab B := fun i hi => (World.cell?_of_block (w := A) (a := ⟨0, i, none⟩) h.zero).trans (hT i hi)
theorem Keeps3.has {Bn bb : Nat} {A B : World} {zs : List Int} (h : Keeps3 Bn bb A B) (hH : Has A (some ⟨bb, 0, none⟩) zs) : Has B (some ⟨bb, 0, none⟩) zs := by
  rcases hH with ⟨h, _⟩ | ⟨x, hx, hB⟩
  · cases h
  · cases hx
    refine .inr ⟨_, rfl, fun j hj => ?_⟩
    have := hB j hj
    rw [Go.WideShapes.add_plain] at this ⊢
    exact (World.cell?_of_block (w := A) (a := ⟨bb, 0 + j, none⟩) h.bytes).trans this

set_option maxRecDepth 100000 in
set_option maxHeartbeats 2000000 in
theorem each1_in (m : Nat) (hm : 1 ≤ m) (l Bn bb n : Nat) (zs : List Int) (hl : zs.length = n) (hn : n ≤ 140737488355328) (hz : Octets zs) (J Jx : List Told → World → Prop) (W0 : World) (hJa : AbidesFrom W0.heap.size J)
    (hY : ∀ pre x W1, J pre W1 → Lies W0.heap.size x W1 → Row1 zs 0 (pre ++ [x]) → pre.length < n + 1 → YieldAt Fence.wide (m - 1) Tryd.prog l (tolds x) W1 fun e W' =>
      (e = .returned (.bool true) ∧ J (pre ++ [x]) W' ∧ Keeps3 Bn bb W1 W') ∨ (e = .returned (.bool false) ∧ Jx (pre ++ [x]) W'))
    (hBn : Bn < W0.heap.size) (hbb : bb < W0.heap.size) (hT : Tab W0) (hcB : W0.cell? ⟨Bn, 0, none⟩ = some (.slice (some ⟨bb, 0, none⟩) n n)) (hcb : Has W0 (some ⟨bb, 0, none⟩) zs) (hJ0 : J [] W0) :
    CallsIn Fence.wide m Tryd.prog 17 #[.func (.yield l) #[] #[], .pointer (some ⟨Bn, 0, none⟩)] W0 fun e W' => (∃ v, e = .returned v) ∧
      ((∃ xs, AllOf zs 0 xs ∧ J xs W') ∨ (∃ pre, Row1 zs 0 pre ∧ Jx pre W')) := by
  refine callsIn_of_wp Tryd.func17 rfl trivial ?_ rfl
  simp only [Tryd.ntmps17, List.size_toArray, List.length_cons, List.length_nil, Nat.reduceAdd, Nat.reduceSub, Array.replicate_succ, Array.replicate_zero, List.push_toArray, List.append_toArray, List.nil_append, List.cons_append]
  gi_wp2
  gi_loopw [3] (fun t wr => ∃ (pre : List Told) (k : Nat), t = .int .i64 k ∧ k ≤ n ∧ pre.length ≤ k ∧ Row1 zs 0 pre ∧ lastOf 0 pre = k ∧ J pre wr ∧ Keeps3 Bn bb W0 wr) (fun t _ => n - (intOf t).toNat)
  case atStart => exact ⟨[], 0, rfl, by omega, by simp, trivial, rfl, hJ0, Keeps3.refl _ _ _⟩
  case round =>
    obtain ⟨pre, k, rfl, hk, hpl, hrow, hlast, hJp, hbel⟩ := hrel
    have hcB1 : wr.cell? ⟨Bn, 0, none⟩ = some (.slice (some ⟨bb, 0, none⟩) n n) := (World.cell?_of_block (w := W0) (a := ⟨Bn, 0, none⟩) hbel.box).trans hcB
    have hcb1 : Has wr (some ⟨bb, 0, none⟩) zs := hbel.has hcb
    have hT1 : Tab wr := hbel.tab hT
    have k0 : (0 : Int) ≤ k := by omega
    have k1 : (k : Int) ≤ n := by omega
    by_cases hkn : n = k
    · gi_wp2_with fail
      refine ⟨trivial, ?_⟩
      refine (callsIn_wide.2 (next_short _ 0 0 _ (by decide))).mono ?_
      rintro e w1 ⟨rfl, hw1⟩
      subst hw1
      gi_wp2
      refine bodyPost_ret (results_none rfl _ _ _) rfl ?_
      exact ⟨⟨_, rfl⟩, .inl ⟨pre, ⟨hrow, fun N h => by have := h.1; rw [hlast] at this; simp at this; omega⟩, hJp⟩⟩
    · have hkl : k < n := by omega
      have hmid : Has wr (some ⟨bb, k, none⟩) (zs.drop k) := by
        have := has_mid hcb1 k (n - k) (by omega)
        rw [Nat.zero_add, List.take_of_length_le (by simp; omega)] at this
        exact this
      gi_wp2_with fail
      refine ⟨trivial, ?_⟩
      refine (callsIn_wide.2 (next_any (some ⟨bb, k, none⟩) (n - k) (n - k) (zs.drop k) _ (by simp; omega) hmid (Nat.le_refl _) (by unfold maxLen; omega) (hz.drop k) hT1)).mono ?_
      rintro e w1 ⟨hb1, hN1⟩
      have hJ1 : J pre w1 := hJa pre wr w1 none hJp ⟨hb1.os, hb1.tape, hb1.output, hb1.size, fun j hj _ => hb1.block j hj⟩ (fun r h => by cases h)
      have hbel1 : Keeps3 Bn bb W0 w1 := hbel.trans (Keeps3.of_below hb1 hT1.pos (Nat.lt_of_lt_of_le hBn hbel.size) (Nat.lt_of_lt_of_le hbb hbel.size))
      rcases hN1 with ⟨hno, rfl⟩ | ⟨N, gp, hrec, rfl, hgp, hhp⟩
      · gi_wp2
        refine bodyPost_ret (results_none rfl _ _ _) rfl ?_
        exact ⟨⟨_, rfl⟩, .inl ⟨pre, ⟨hrow, by rw [hlast]; exact hno⟩, hJ1⟩⟩
      · have hNl : (((zs.drop k).drop 8).take N).length = N := by have := hrec.2.2.2.1; rw [List.length_take]; omega
        have hN2 : k + (8 + N) ≤ n := by have h1 := hrec.2.2.2.1; have h2 := hrec.1; simp at h1 h2; omega
        obtain ⟨ps, hps⟩ : ∃ ps, ((zs.drop k).drop 8).take N = ps := ⟨_, rfl⟩
        rw [hps] at hNl hhp
        have HX : Hid (Row1 zs 0 (pre ++ [⟨k + (8 + N), gp, ps⟩])) := Row1_snoc zs 0 pre _ hrow ⟨N, by rw [hlast]; exact hrec, by rw [hlast], by rw [hlast]; exact hps.symm⟩
        have HLs : Hid (lastOf 0 (pre ++ [⟨k + (8 + N), gp, ps⟩]) = k + (8 + N)) := lastOf_snoc _ _ _
        obtain ⟨fn, tmps, assign, body, hy, hR⟩ := hY pre ⟨k + (8 + N), gp, ps⟩ w1 hJ1 ⟨Nat.le_trans hbel.size hgp, hhp⟩ HX.out (by omega)
        have hy' : (Instr.yield l #[.int .i64 ((k : Int) + (8 + (N : Int))), .slice (some ⟨gp, 0, none⟩) N N]).run Tryd.prog w1 = .ok (.round l fn tmps assign body) w1 := by
          simpa [tolds, hNl] using hy
        clear hy hcb1 hmid hhp hrec hps hY hb1 hT1 hrow hlast hcB1
        gi_wp2
        refine hR.mono ?_
        rintro e W3 (⟨rfl, hJ3, hk3⟩ | ⟨rfl, hJx3⟩)
        · gi_wp2
          go_roundw
          case rel => exact ⟨pre ++ [⟨k + (8 + N), gp, ps⟩], k + (8 + N), by go_num, hN2, by simp; omega, HX.out, HLs.out, hJ3, hbel1.trans hk3⟩
          case measure => simp [intOf]; omega
        · gi_wp2
          refine bodyPost_ret (results_none rfl _ _ _) rfl ?_
          exact ⟨⟨_, rfl⟩, .inr ⟨pre ++ [⟨k + (8 + N), gp, ps⟩], HX.out, hJx3⟩⟩

theorem has_setOther {w : World} {b off : Nat} {zs : List Int} {p : Addr} {u : Value} (h : Has w (some ⟨b, off, none⟩) zs) (hne : b ≠ p.block) : Has (w.setCell p u) (some ⟨b, off, none⟩) zs := by
  rcases h with ⟨h, _⟩ | ⟨x, hx, hB⟩
  · cases h
  · cases hx
    refine .inr ⟨_, rfl, fun j hj => ?_⟩
    have := hB j hj
    rw [Go.WideShapes.add_plain] at this ⊢
    exact (World.cell?_of_block (w := w) (a := ⟨b, off + j, none⟩) (Below.heap_setCell w p u b hne)).trans this
/-- The sequence's word. -/
theorem each_seq (m : Nat) (hm : 1 ≤ m) (Bn bb n : Nat) (zs : List Int) (hl : zs.length = n) (hn : n ≤ 140737488355328) (hz : Octets zs) (w : World)
    (hBn : Bn < w.heap.size) (hbb : bb < w.heap.size) (hT : Tab w) (hcB : w.cell? ⟨Bn, 0, none⟩ = some (.slice (some ⟨bb, 0, none⟩) n n)) (hcb : Has w (some ⟨bb, 0, none⟩) zs) :
    SeqP m Tryd.prog 17 #[.pointer (some ⟨Bn, 0, none⟩)] tolds (Lies w.heap.size) (Keeps3 Bn bb) (AllOf zs 0) (Row1 zs 0) (n + 1) w := by
  intro l J Jx W hW hJ hY h0
  have k := Keeps3.of_below (Bn := Bn) (bb := bb) hW hT.pos hBn hbb
  exact each1_in m hm l Bn bb n zs hl hn hz J Jx W hJ (fun pre x W1 h1 h2 h3 h4 => hY pre x W1 h1 ⟨Nat.le_trans hW.size h2.1, h2.2⟩ h3 h4)
    (Nat.lt_of_lt_of_le hBn hW.size) (Nat.lt_of_lt_of_le hbb hW.size) (k.tab hT) ((World.cell?_of_block (w := w) (a := ⟨Bn, 0, none⟩) k.box).trans hcB) (k.has hcb) h0

set_option maxHeartbeats 1000000 in
theorem each_any (a : Option Addr) (n cap : Nat) (zs : List Int) (w : World) (hn : zs.length = n) (hB : Has w a zs) (hl : n ≤ 140737488355328) :
    Calls Tryd.prog 15 #[.slice a n cap] w fun e w' => e = .returned (.func (.func 17) #[] #[.pointer (some ⟨w.heap.size, 0, none⟩)]) ∧ w'.cell? ⟨w.heap.size, 0, none⟩ = some (.slice (some ⟨w.heap.size + 1, 0, none⟩) n n) ∧ Has w' (some ⟨w.heap.size + 1, 0, none⟩) zs ∧ w.heap.size + 1 < w'.heap.size ∧ Below w.heap.size w w' := by
  go_enter Tryd.func15, Tryd.ntmps15
  go_wp2_with fail
  have b1 : Below w.heap.size w (w.alloc (.cells #[.slice a n cap] 24)) := (Below.refl _ w).alloc (Nat.le_refl _) _
  refine (fresh_any a n cap zs _ hn (hB.of_below b1) hl).mono ?_
  rintro e w1 ⟨rfl, hF⟩
  obtain ⟨hc, hf⟩ := bcell hF.2
  have hz1 : w.heap.size + 1 < w1.heap.size := by have := lt_heap hF.1; simpa using this
  have HF : Hid (Has w1 (some ⟨w.heap.size + 1, 0, none⟩) zs) := by have := Has.of_block hF.1; rw [World.size_alloc] at this; exact this
  have HB : Hid (Below w.heap.size w w1) := b1.trans (hF.2.mono (by simp))
  have HC : Hid (w1.cell? ⟨w.heap.size, 0, none⟩ = some (.slice a n cap)) := by
    have h1 := hc w.heap.size 0 (by simp)
    have h2 : (w.alloc (.cells #[.slice a n cap] 24)).cell? ⟨w.heap.size, 0, none⟩ = some (.slice a n cap) := cell_of_row _ _ 0 _ _ _ (heap_alloc_new w _)
    exact h1.trans h2
  clear hF b1
  go_wp2
  go_ret
  refine ⟨rfl, World.cell?_setCell_same' _ _ _ (by rw [HC.out]; rfl), has_setOther HF.out (by simp), by simpa using hz1, HB.out.setCell (by simp) _⟩
end Go.Proofs.YtapejmmefhbadaaDoor
