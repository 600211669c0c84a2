/-
  The sequence that script.Each tells: its word, for whatever loop body.
-/
import Derived.Test.YtnbhadfhgecajaaRange
import Derived.Test.YtnbhadfhgecajaaFirst
namespace Go.Proofs.Ytnbhadfhgecajaa
open Go.RowKit Go.Shelf
set_option linter.unusedVariables false
attribute [local go_sem] Oper.semAt_some

/-- One step that is told, with its place. -/
structure Told where
  at' : Nat
  s : St
def tolds (x : Told) : Array Value := #[.int .i64 x.at', .agg x.s.cells]
/-- Its data lies in a row of its own, laid since. -/
def Lies (n₀ : Nat) (x : Told) (W : World) : Prop := W.ownsRow n₀ 5 1 x.s.d.val x.s.d.n (vals x.s.d.zs)
/-- The step that the bytes begin with. -/
structure IsStep (zs : List Int) (s : St) : Prop where
  op : s.op = opOf zs
  x : s.x = zs.getD 1 0
  y : s.y = zs.getD 2 0
  dz : s.d.zs = dataOf zs
  dn : s.d.n = (dataOf zs).length
/-- These are steps, one behind the other, from a place on. -/
def Row1 (zs : List Int) : Nat → List Told → Prop
  | _, [] => True
  | k, x :: xs => (k < zs.length ∧ x.at' = k ∧ IsStep (zs.drop k) x.s) ∧ Row1 zs (k + takes (zs.drop k)) xs
/-- The place behind them. -/
def lastOf (zs : List Int) : Nat → List Told → Nat
  | k, [] => k
  | k, _ :: xs => lastOf zs (k + takes (zs.drop k)) xs
/-- These are all of them. -/
def AllOf (zs : List Int) (k : Nat) (xs : List Told) : Prop := Row1 zs k xs ∧ zs.length ≤ lastOf zs k xs

theorem lastOf_snoc (zs : List Int) (k : Nat) (xs : List Told) (x : Told) : lastOf zs k (xs ++ [x]) = lastOf zs k xs + takes (zs.drop (lastOf zs k xs)) := by
  induction xs generalizing k with
  | nil => rfl
  | cons y ys ih => exact ih _
theorem Row1_snoc (zs : List Int) (k : Nat) (xs : List Told) (x : Told) (h : Row1 zs k xs) (hx : lastOf zs k xs < zs.length ∧ x.at' = lastOf zs k xs ∧ IsStep (zs.drop (lastOf zs k xs)) x.s) : Row1 zs k (xs ++ [x]) := by
  induction xs generalizing k with
  | nil => exact ⟨hx, trivial⟩
  | cons y ys ih => exact ⟨h.1, ih _ h.2 hx⟩
theorem takes_le (zs : List Int) : takes zs ≤ zs.length := by
  unfold takes sizeOf'
  split <;> omega
theorem takes_pos (zs : List Int) (h : 0 < zs.length) : 0 < takes zs := by
  unfold takes sizeOf'
  split <;> omega

/-- What the sequence leans on, between two rounds, lies as it lay: the captured variable, the copied bytes. -/
structure Keeps (Bn : Nat) (ob : Option Nat) (A B : World) : Prop where
  size : A.heap.size ≤ B.heap.size
  box : B.heap[Bn]? = A.heap[Bn]?
  bytes : ∀ b, ob = some b → B.heap[b]? = A.heap[b]?
theorem Keeps.refl (Bn : Nat) (ob : Option Nat) (A : World) : Keeps Bn ob A A := ⟨Nat.le_refl _, rfl, fun _ _ => rfl⟩
theorem Keeps.trans {Bn : Nat} {ob : Option Nat} {A B C : World} (h : Keeps Bn ob A B) (k : Keeps Bn ob B C) : Keeps Bn ob A C :=
  ⟨Nat.le_trans h.size k.size, k.box.trans h.box, fun b hb => (k.bytes b hb).trans (h.bytes b hb)⟩
theorem Keeps.of_below {Bn : Nat} {ob : Option Nat} {B : Nat} {A C : World} (h : Below B A C) (h1 : Bn < B) (h2 : ∀ b, ob = some b → b < B) : Keeps Bn ob A C := ⟨h.size, h.block Bn h1, fun b hb => h.block b (h2 b hb)⟩

theorem bs_mid {W : World} {bb n cv k : Nat} {zs : List Int} (h : Bs W (some ⟨bb, 0, none⟩) n cv zs) (hk : k ≤ n) : Bs W (some ⟨bb, k, none⟩) (n - k) (cv - k) (zs.drop k) := by
  have := h.back k hk
  rwa [Go.WideShapes.add_plain, Nat.zero_add] at this

set_option maxRecDepth 100000 in
set_option maxHeartbeats 2000000 in
theorem each1_in (m : Nat) (hm : 1 ≤ m) (l Bn n cv : Nat) (av : Option Addr) (base : Nat) (zs : List Int) (hl : zs.length = n) (hn : n ≤ 1099511627776) (hz : Octets zs) (J Jx : List Told → World → Prop) (W0 : World) (hJa : AbidesFrom W0.heap.size J)
    (hY : ∀ pre x W1, J pre W1 → Lies W0.heap.size x W1 → Row1 zs 0 (pre ++ [x]) → pre.length < n + 1 → YieldAt Fence.wide (m - 1) Try.prog l (tolds x) W1 fun e W' =>
      (e = .returned (.bool true) ∧ J (pre ++ [x]) W' ∧ Keeps Bn (Value.slice av n cv).ownBlock W1 W') ∨ (e = .returned (.bool false) ∧ Jx (pre ++ [x]) W'))
    (hBn : Bn < W0.heap.size) (hcB : W0.cell? ⟨Bn, 0, none⟩ = some (.slice av n cv)) (hown : W0.ownsRow base 5 1 (.slice av n cv) n (vals zs)) (hJ0 : J [] W0) :
    CallsIn Fence.wide m Try.prog 26 #[.func (.yield l) #[] #[], .pointer (some ⟨Bn, 0, none⟩)] W0 fun e W' => (∃ v, e = .returned v) ∧
      ((∃ xs, AllOf zs 0 xs ∧ J xs W') ∨ (∃ pre, Row1 zs 0 pre ∧ Jx pre W')) := by
  refine callsIn_of_wp Try.func26 rfl trivial ?_ rfl
  simp only [Try.ntmps26, List.size_toArray, List.length_cons, List.length_nil, Nat.reduceAdd, Nat.reduceSub, Array.replicate_succ, Array.replicate_zero, List.push_toArray, List.append_toArray, List.nil_append, List.cons_append]
  gi_wp2
  gi_loopw [3] (fun t wr => ∃ (pre : List Told) (k : Nat), t = .int .i64 k ∧ k ≤ n ∧ pre.length ≤ k ∧ Row1 zs 0 pre ∧ lastOf zs 0 pre = k ∧ J pre wr ∧ Keeps Bn (Value.slice av n cv).ownBlock W0 wr) (fun t _ => n - (intOf t).toNat)
  case atStart => exact ⟨[], 0, rfl, by omega, by simp, trivial, rfl, hJ0, Keeps.refl _ _ _⟩
  case round =>
    obtain ⟨pre, k, rfl, hk, hpl, hrow, hlast, hJp, hbel⟩ := hrel
    have hcB1 : wr.cell? ⟨Bn, 0, none⟩ = some (.slice av n cv) := (World.cell?_of_block (w := W0) (a := ⟨Bn, 0, none⟩) hbel.box).trans hcB
    have hown1 : wr.ownsRow base 5 1 (.slice av n cv) n (vals zs) := own_block hown (fun j hj => hbel.bytes j hj)
    have k0 : (0 : Int) ≤ k := by omega
    have k1 : (k : Int) ≤ n := by omega
    by_cases hkn : k < n
    · obtain ⟨a', c', hv', hBs⟩ := own_bs hown1 hz (by omega)
      cases hv'
      obtain ⟨bb, rfl⟩ : ∃ bb, av = some ⟨bb, 0, none⟩ := by
        rcases hown1.2 with ⟨h, h0⟩ | ⟨g, cp, cur, h, _⟩
        · omega
        · cases h; exact ⟨g, rfl⟩
      have hBk := bs_mid hBs (Nat.le_of_lt hkn)
      have hcv := hBs.fits
      have hk2 : (k : Int) < n := by omega
      gi_wp2_with fail
      refine ⟨trivial, ?_⟩
      refine (callsIn_wide.2 (first_any (some ⟨bb, k, none⟩) (n - k) (cv - k) (zs.drop k) _ hBk (by omega) (by omega))).mono ?_
      rintro e w1 ⟨d, rfl, hdz, hdn, hown5, hb1⟩
      have hIs : IsStep (zs.drop k) ⟨opOf (zs.drop k), (zs.drop k).getD 1 0, (zs.drop k).getD 2 0, d⟩ := ⟨rfl, rfl, rfl, hdz, hdn⟩
      have hT1 : takes (zs.drop k) ≤ n - k := by have := takes_le (zs.drop k); rw [List.length_drop] at this; omega
      have hT2 : 0 < takes (zs.drop k) := takes_pos _ (by rw [List.length_drop]; omega)
      have HLs : ∀ s : St, Hid (lastOf zs 0 (pre ++ [⟨k, s⟩]) = k + takes (zs.drop k)) := fun s => by show _ = _; rw [lastOf_snoc, hlast]
      have HX : ∀ s : St, IsStep (zs.drop k) s → Hid (Row1 zs 0 (pre ++ [⟨k, s⟩])) := fun s hs => Row1_snoc zs 0 pre _ hrow ⟨by rw [hlast]; omega, hlast.symm, by rw [hlast]; exact hs⟩
      obtain ⟨o, ho⟩ : ∃ o, opOf (zs.drop k) = o := ⟨_, rfl⟩
      obtain ⟨xx, hxx⟩ : ∃ o, (zs.drop k).getD 1 0 = o := ⟨_, rfl⟩
      obtain ⟨yy, hyy⟩ : ∃ o, (zs.drop k).getD 2 0 = o := ⟨_, rfl⟩
      obtain ⟨tk, htk⟩ : ∃ o, takes (zs.drop k) = o := ⟨_, rfl⟩
      rw [ho, hxx, hyy] at hIs ⊢
      rw [htk] at hT1 hT2 HLs ⊢
      obtain ⟨da, dn, dc, dzs⟩ := d
      obtain ⟨w1a, hw1a⟩ : ∃ W, w1.alloc (.cells #[.int .i64 o, .int .i64 xx, .int .i64 yy, .slice da dn dc] 32) = W := ⟨_, rfl⟩
      have hb1a : Below wr.heap.size wr w1a := by rw [← hw1a]; exact hb1.alloc hb1.size _
      have hJ1 : J pre w1a := hJa pre wr w1a none hJp ⟨hb1a.os, hb1a.tape, hb1a.output, hb1a.size, fun j hj _ => hb1a.block j hj⟩ (fun r h => by cases h)
      have hbel1 : Keeps Bn (Value.slice (some ⟨bb, 0, none⟩) n cv).ownBlock W0 w1a := hbel.trans (Keeps.of_below hb1a (Nat.lt_of_lt_of_le hBn hbel.size) (fun b hb => (hown1.lt b hb).2))
      have hlies : Lies W0.heap.size ⟨k, ⟨o, xx, yy, ⟨da, dn, dc, dzs⟩⟩⟩ w1a := by
        show w1a.ownsRow _ 5 1 _ _ _
        rw [← hw1a]
        exact own_base (hown5.alloc _) hbel.size
      obtain ⟨fn, tmps, assign, body, hy, hR⟩ := hY pre ⟨k, ⟨o, xx, yy, ⟨da, dn, dc, dzs⟩⟩⟩ w1a hJ1 hlies (HX _ hIs).out (by omega)
      have hy' : (Instr.yield l #[.int .i64 k, .agg #[.int .i64 o, .int .i64 xx, .int .i64 yy, .slice da dn dc]]).run Try.prog w1a = .ok (.round l fn tmps assign body) w1a := hy
      have HX1 := HX _ hIs
      have HL1 := HLs ⟨o, xx, yy, ⟨da, dn, dc, dzs⟩⟩
      have HJa : Hid (w1.alloc (.cells #[.int .i64 o, .int .i64 xx, .int .i64 yy, .slice da dn dc] 32) = w1a) := hw1a
      have hy2 : (Instr.yield l #[.int .i64 k, .agg #[.int .i64 o, .int .i64 xx, .int .i64 yy, .slice da dn dc]]).run Try.prog (w1.alloc (.cells #[.int .i64 o, .int .i64 xx, .int .i64 yy, .slice da dn dc] 32)) = .ok (.round l fn tmps assign body) w1a := by rw [hw1a]; exact hy'
      clear hy hy' hBk hBs hown5 hb1 hY hrow hlast hcB1 HX HLs hIs hdz hdn hown1 hlies hJ1 hb1a hw1a ho hxx hyy htk
      gi_wp2_with fail
      refine hR.mono ?_
      rintro e W3 (⟨rfl, hJ3, hk3⟩ | ⟨rfl, hJx3⟩)
      · gi_wp2
        go_roundw
        case rel => exact ⟨pre ++ [⟨k, ⟨o, xx, yy, ⟨da, dn, dc, dzs⟩⟩⟩], k + tk, by go_num, by omega, by simp; omega, HX1.out, HL1.out, hJ3, hbel1.trans hk3⟩
        case measure => simp [intOf]; omega
      · gi_wp2
        refine bodyPost_ret (results_none rfl _ _ _) rfl ?_
        exact ⟨⟨_, rfl⟩, .inr ⟨_, HX1.out, hJx3⟩⟩
    · gi_wp2
      refine bodyPost_end (results_none rfl _ _ _) rfl ?_
      exact ⟨⟨_, rfl⟩, .inl ⟨pre, ⟨hrow, by rw [hlast]; omega⟩, hJp⟩⟩

/-- The sequence's word. -/
theorem each_seq (m : Nat) (hm : 1 ≤ m) (Bn n cv base : Nat) (av : Option Addr) (zs : List Int) (hl : zs.length = n) (hn : n ≤ 1099511627776) (hz : Octets zs) (w : World)
    (hBn : Bn < w.heap.size) (hcB : w.cell? ⟨Bn, 0, none⟩ = some (.slice av n cv)) (hown : w.ownsRow base 5 1 (.slice av n cv) n (vals zs)) :
    SeqP m Try.prog 26 #[.pointer (some ⟨Bn, 0, none⟩)] tolds (Lies w.heap.size) (Keeps Bn (Value.slice av n cv).ownBlock) (AllOf zs 0) (Row1 zs 0) (n + 1) w := by
  intro l J Jx W hW hJ hY h0
  have k := Keeps.of_below (Bn := Bn) (ob := (Value.slice av n cv).ownBlock) hW hBn (fun b hb => (hown.lt b hb).2)
  exact each1_in m hm l Bn n cv av base zs hl hn hz J Jx W hJ (fun pre x W1 h1 h2 h3 h4 => hY pre x W1 h1 (own_base h2 hW.size) h3 h4)
    (Nat.lt_of_lt_of_le hBn hW.size) ((World.cell?_of_block (w := w) (a := ⟨Bn, 0, none⟩) k.box).trans hcB) (own_block hown (fun j hj => k.bytes j hj)) h0

set_option maxHeartbeats 1000000 in
theorem each_any (a : Option Addr) (n cap : Nat) (zs : List Int) (w : World) (hP : Bs w a n cap zs) (hl : n ≤ 1099511627776) :
    Calls Try.prog 11 #[.slice a n cap] w fun e w' => ∃ av cv, e = .returned (.func (.func 26) #[] #[.pointer (some ⟨w.heap.size, 0, none⟩)]) ∧ w'.cell? ⟨w.heap.size, 0, none⟩ = some (.slice av n cv) ∧ w'.ownsRow (w.heap.size + 1) 5 1 (.slice av n cv) n (vals zs) ∧ w.heap.size < w'.heap.size ∧ Below w.heap.size w w' := by
  go_enter Try.func11, Try.ntmps11
  go_wp2_with fail
  have b1 : Below w.heap.size w (w.alloc (.cells #[.slice a n cap] 22)) := (Below.refl _ w).alloc (Nat.le_refl _) _
  refine (clone_any a n cap zs _ hP.len (hP.has.of_below b1) hP.bare (by omega)).mono ?_
  rintro e w1 ⟨v, rfl, hown, hb1⟩
  obtain ⟨av, cv, rfl⟩ := own_shape hown
  have hs1 : w.heap.size < w1.heap.size := by have := hb1.size; simp at this; omega
  have HC : w1.cell? ⟨w.heap.size, 0, none⟩ = some (.slice a n cap) := by
    have h1 := (hb1.cell (p := ⟨w.heap.size, 0, none⟩) (by simp))
    have h2 : (w.alloc (.cells #[.slice a n cap] 22)).cell? ⟨w.heap.size, 0, none⟩ = some (.slice a n cap) := cell_of_row _ _ 0 _ _ _ (heap_alloc_new w _)
    exact h1.trans h2
  have HF : w1.frozen? ⟨w.heap.size, 0, none⟩ = false := by
    have h0 := (hb1.block w.heap.size (by simp)).trans (heap_alloc_new w (.cells #[.slice a n cap] 22))
    simp [World.frozen?, h0]
  have HO : Hid ((w1.setCell ⟨w.heap.size, 0, none⟩ (.slice av n cv)).ownsRow (w.heap.size + 1) 5 1 (.slice av n cv) n (vals zs)) := by
    refine own_block (own_base hown (by simp)) (fun k hk => Below.heap_setCell _ _ _ _ ?_)
    have := (hown.lt k hk).1
    simp at this
    show k ≠ w.heap.size
    omega
  have HB : Hid (Below w.heap.size w (w1.setCell ⟨w.heap.size, 0, none⟩ (.slice av n cv))) := (b1.trans (hb1.mono (by simp))).setCell (p := ⟨w.heap.size, 0, none⟩) (Nat.le_refl _) _
  have HC2 : Hid ((w1.setCell ⟨w.heap.size, 0, none⟩ (.slice av n cv)).cell? ⟨w.heap.size, 0, none⟩ = some (.slice av n cv)) := World.cell?_setCell_same' _ _ _ (by rw [HC]; rfl)
  clear hown hb1 b1
  go_wp2
  go_ret
  exact ⟨av, cv, rfl, HC2.out, HO.out, by simpa using hs1, HB.out⟩
end Go.Proofs.Ytnbhadfhgecajaa
