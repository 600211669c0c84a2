/-
  The steps that script.Decode answers: their data lies in rows that are apart from one another.
-/
import Derived.Test.YtnbhadfhgecajaaDecode
namespace Go.Proofs.Ytnbhadfhgecajaa
open Go.RowKit Go.Shelf
set_option linter.unusedVariables false
attribute [local go_sem] Oper.semAt_some

/-- The block that a step's data lies in. -/
def Told.blk (x : Told) : Option Nat := x.s.d.val.ownBlock
/-- No two of them lie in one block. -/
def Apart (xs : List Told) : Prop := ∀ (i j : Nat) (x y : Told) (b : Nat), xs[i]? = some x → xs[j]? = some y → x.blk = some b → y.blk = some b → i = j
theorem Apart.nil : Apart [] := fun i j x y b h => by simp at h
theorem Apart.snoc {xs : List Told} {x : Told} (h : Apart xs) (hx : ∀ y ∈ xs, ∀ b, y.blk = some b → x.blk ≠ some b) : Apart (xs ++ [x]) := by
  intro i j y z b hi hj hy hz
  rw [List.getElem?_append] at hi hj
  split at hi <;> split at hj
  · exact h i j y z b hi hj hy hz
  · have : z = x := by
      have := List.mem_of_getElem? hj; simpa using this
    subst this
    exact absurd hz (hx y (List.mem_of_getElem? hi) b hy)
  · have : y = x := by
      have := List.mem_of_getElem? hi; simpa using this
    subst this
    exact absurd hy (hx z (List.mem_of_getElem? hj) b hz)
  · have h1 := (List.getElem?_eq_some_iff.1 hi).1
    have h2 := (List.getElem?_eq_some_iff.1 hj).1
    simp at h1 h2
    omega

set_option maxRecDepth 100000 in
set_option maxHeartbeats 2000000 in
theorem each1_inA (m : Nat) (hm : 1 ≤ m) (l Bn n cv : Nat) (av : Option Addr) (base : Nat) (zs : List Int) (hl : zs.length = n) (hn : n ≤ 1099511627776) (hz : Octets zs) (J Jx : List Told → World → Prop) (W0 : World) (hJa : AbidesFrom W0.heap.size J)
    (hY : ∀ pre x W1, J pre W1 → Lies W0.heap.size x W1 → (Row1 zs 0 (pre ++ [x]) ∧ Apart (pre ++ [x])) → pre.length < n + 1 → YieldAt Fence.wide (m - 1) Try.prog l (tolds x) W1 fun e W' =>
      (e = .returned (.bool true) ∧ J (pre ++ [x]) W' ∧ Keeps Bn (Value.slice av n cv).ownBlock W1 W') ∨ (e = .returned (.bool false) ∧ Jx (pre ++ [x]) W'))
    (hBn : Bn < W0.heap.size) (hcB : W0.cell? ⟨Bn, 0, none⟩ = some (.slice av n cv)) (hown : W0.ownsRow base 5 1 (.slice av n cv) n (vals zs)) (hJ0 : J [] W0) :
    CallsIn Fence.wide m Try.prog 26 #[.func (.yield l) #[] #[], .pointer (some ⟨Bn, 0, none⟩)] W0 fun e W' => (∃ v, e = .returned v) ∧
      ((∃ xs, (AllOf zs 0 xs ∧ Apart xs) ∧ J xs W') ∨ (∃ pre, (Row1 zs 0 pre ∧ Apart pre) ∧ Jx pre W')) := by
  refine callsIn_of_wp Try.func26 rfl trivial ?_ rfl
  simp only [Try.ntmps26, List.size_toArray, List.length_cons, List.length_nil, Nat.reduceAdd, Nat.reduceSub, Array.replicate_succ, Array.replicate_zero, List.push_toArray, List.append_toArray, List.nil_append, List.cons_append]
  gi_wp2
  gi_loopw [3] (fun t wr => ∃ (pre : List Told) (k : Nat), t = .int .i64 k ∧ k ≤ n ∧ pre.length ≤ k ∧ (Row1 zs 0 pre ∧ Apart pre ∧ ∀ y ∈ pre, ∀ b, y.blk = some b → b < wr.heap.size) ∧ lastOf zs 0 pre = k ∧ J pre wr ∧ Keeps Bn (Value.slice av n cv).ownBlock W0 wr) (fun t _ => n - (intOf t).toNat)
  case atStart => exact ⟨[], 0, rfl, by omega, by simp, ⟨trivial, Apart.nil, fun y hy => by cases hy⟩, rfl, hJ0, Keeps.refl _ _ _⟩
  case round =>
    obtain ⟨pre, k, rfl, hk, hpl, ⟨hrow, hapart, hlow⟩, hlast, hJp, hbel⟩ := hrel
    have hcB1 : wr.cell? ⟨Bn, 0, none⟩ = some (.slice av n cv) := (World.cell?_of_block (w := W0) (a := ⟨Bn, 0, none⟩) hbel.box).trans hcB
    have hown1 : wr.ownsRow base 5 1 (.slice av n cv) n (vals zs) := own_block hown (fun j hj => hbel.bytes j hj)
    have k0 : (0 : Int) ≤ k := by omega
    have k1 : (k : Int) ≤ n := by omega
    by_cases hkn : k < n
    · obtain ⟨a', c', hv', hBs⟩ := own_bs hown1 hz (by omega)
      cases hv'
      obtain ⟨bb, rfl⟩ : ∃ bb, av = some ⟨bb, 0, none⟩ := by
        rcases hown1.2 with ⟨h, h0⟩ | ⟨g, cp, cur, h, _⟩
        · omega
        · cases h; exact ⟨g, rfl⟩
      have hBk := bs_mid hBs (Nat.le_of_lt hkn)
      have hcv := hBs.fits
      have hk2 : (k : Int) < n := by omega
      gi_wp2_with fail
      refine ⟨trivial, ?_⟩
      refine (callsIn_wide.2 (first_any (some ⟨bb, k, none⟩) (n - k) (cv - k) (zs.drop k) _ hBk (by omega) (by omega))).mono ?_
      rintro e w1 ⟨d, rfl, hdz, hdn, hown5, hb1⟩
      have hIs : IsStep (zs.drop k) ⟨opOf (zs.drop k), (zs.drop k).getD 1 0, (zs.drop k).getD 2 0, d⟩ := ⟨rfl, rfl, rfl, hdz, hdn⟩
      have hT1 : takes (zs.drop k) ≤ n - k := by have := takes_le (zs.drop k); rw [List.length_drop] at this; omega
      have hT2 : 0 < takes (zs.drop k) := takes_pos _ (by rw [List.length_drop]; omega)
      have HLs : ∀ s : St, Hid (lastOf zs 0 (pre ++ [⟨k, s⟩]) = k + takes (zs.drop k)) := fun s => by show _ = _; rw [lastOf_snoc, hlast]
      have HX : ∀ s : St, IsStep (zs.drop k) s → Hid (Row1 zs 0 (pre ++ [⟨k, s⟩])) := fun s hs => Row1_snoc zs 0 pre _ hrow ⟨by rw [hlast]; omega, hlast.symm, by rw [hlast]; exact hs⟩
      obtain ⟨o, ho⟩ : ∃ o, opOf (zs.drop k) = o := ⟨_, rfl⟩
      obtain ⟨xx, hxx⟩ : ∃ o, (zs.drop k).getD 1 0 = o := ⟨_, rfl⟩
      obtain ⟨yy, hyy⟩ : ∃ o, (zs.drop k).getD 2 0 = o := ⟨_, rfl⟩
      obtain ⟨tk, htk⟩ : ∃ o, takes (zs.drop k) = o := ⟨_, rfl⟩
      rw [ho, hxx, hyy] at hIs ⊢
      rw [htk] at hT1 hT2 HLs ⊢
      obtain ⟨da, dn, dc, dzs⟩ := d
      obtain ⟨w1a, hw1a⟩ : ∃ W, w1.alloc (.cells #[.int .i64 o, .int .i64 xx, .int .i64 yy, .slice da dn dc] 32) = W := ⟨_, rfl⟩
      have hb1a : Below wr.heap.size wr w1a := by rw [← hw1a]; exact hb1.alloc hb1.size _
      have hJ1 : J pre w1a := hJa pre wr w1a none hJp ⟨hb1a.os, hb1a.tape, hb1a.output, hb1a.size, fun j hj _ => hb1a.block j hj⟩ (fun r h => by cases h)
      have hbel1 : Keeps Bn (Value.slice (some ⟨bb, 0, none⟩) n cv).ownBlock W0 w1a := hbel.trans (Keeps.of_below hb1a (Nat.lt_of_lt_of_le hBn hbel.size) (fun b hb => (hown1.lt b hb).2))
      have hlies : Lies W0.heap.size ⟨k, ⟨o, xx, yy, ⟨da, dn, dc, dzs⟩⟩⟩ w1a := by
        show w1a.ownsRow _ 5 1 _ _ _
        rw [← hw1a]
        exact own_base (hown5.alloc _) hbel.size
      have hap : Apart (pre ++ [⟨k, ⟨o, xx, yy, ⟨da, dn, dc, dzs⟩⟩⟩]) := hapart.snoc (fun y hy b hb e => by
        have h1 := hlow y hy b hb
        have h2 := (hown5.lt b e).1
        omega)
      have hlow2 : ∀ y ∈ pre ++ [(⟨k, ⟨o, xx, yy, ⟨da, dn, dc, dzs⟩⟩⟩ : Told)], ∀ b, y.blk = some b → b < w1a.heap.size := fun y hy b hb => by
        rcases List.mem_append.1 hy with h | h
        · exact Nat.lt_of_lt_of_le (hlow y h b hb) hb1a.size
        · obtain rfl := List.mem_singleton.1 h
          exact (hlies.lt b hb).2
      have HAP : Hid (Apart (pre ++ [⟨k, ⟨o, xx, yy, ⟨da, dn, dc, dzs⟩⟩⟩]) ∧ ∀ y ∈ pre ++ [(⟨k, ⟨o, xx, yy, ⟨da, dn, dc, dzs⟩⟩⟩ : Told)], ∀ b, y.blk = some b → b < w1a.heap.size) := ⟨hap, hlow2⟩
      obtain ⟨fn, tmps, assign, body, hy, hR⟩ := hY pre ⟨k, ⟨o, xx, yy, ⟨da, dn, dc, dzs⟩⟩⟩ w1a hJ1 hlies ⟨(HX _ hIs).out, hap⟩ (by omega)
      have hy' : (Instr.yield l #[.int .i64 k, .agg #[.int .i64 o, .int .i64 xx, .int .i64 yy, .slice da dn dc]]).run Try.prog w1a = .ok (.round l fn tmps assign body) w1a := hy
      have HX1 := HX _ hIs
      have HL1 := HLs ⟨o, xx, yy, ⟨da, dn, dc, dzs⟩⟩
      have HJa : Hid (w1.alloc (.cells #[.int .i64 o, .int .i64 xx, .int .i64 yy, .slice da dn dc] 32) = w1a) := hw1a
      have hy2 : (Instr.yield l #[.int .i64 k, .agg #[.int .i64 o, .int .i64 xx, .int .i64 yy, .slice da dn dc]]).run Try.prog (w1.alloc (.cells #[.int .i64 o, .int .i64 xx, .int .i64 yy, .slice da dn dc] 32)) = .ok (.round l fn tmps assign body) w1a := by rw [hw1a]; exact hy'
      clear hy hy' hBk hBs hown5 hb1 hY hrow hlast hcB1 HX HLs hIs hdz hdn hown1 hlies hJ1 hb1a hw1a hap hlow2 hlow hapart ho hxx hyy htk
      gi_wp2_with fail
      refine hR.mono ?_
      rintro e W3 (⟨rfl, hJ3, hk3⟩ | ⟨rfl, hJx3⟩)
      · gi_wp2
        go_roundw
        case rel => exact ⟨pre ++ [⟨k, ⟨o, xx, yy, ⟨da, dn, dc, dzs⟩⟩⟩], k + tk, by go_num, by omega, by simp; omega, ⟨HX1.out, HAP.out.1, fun y hy b hb => Nat.lt_of_lt_of_le (HAP.out.2 y hy b hb) hk3.size⟩, HL1.out, hJ3, hbel1.trans hk3⟩
        case measure => simp [intOf]; omega
      · gi_wp2
        refine bodyPost_ret (results_none rfl _ _ _) rfl ?_
        exact ⟨⟨_, rfl⟩, .inr ⟨_, ⟨HX1.out, HAP.out.1⟩, hJx3⟩⟩
    · gi_wp2
      refine bodyPost_end (results_none rfl _ _ _) rfl ?_
      exact ⟨⟨_, rfl⟩, .inl ⟨pre, ⟨⟨hrow, by rw [hlast]; omega⟩, hapart⟩, hJp⟩⟩

/-- The sequence's word. -/
theorem each_seqA (m : Nat) (hm : 1 ≤ m) (Bn n cv base : Nat) (av : Option Addr) (zs : List Int) (hl : zs.length = n) (hn : n ≤ 1099511627776) (hz : Octets zs) (w : World)
    (hBn : Bn < w.heap.size) (hcB : w.cell? ⟨Bn, 0, none⟩ = some (.slice av n cv)) (hown : w.ownsRow base 5 1 (.slice av n cv) n (vals zs)) :
    SeqP m Try.prog 26 #[.pointer (some ⟨Bn, 0, none⟩)] tolds (Lies w.heap.size) (Keeps Bn (Value.slice av n cv).ownBlock) (fun l => AllOf zs 0 l ∧ Apart l) (fun l => Row1 zs 0 l ∧ Apart l) (n + 1) w := by
  intro l J Jx W hW hJ hY h0
  have k := Keeps.of_below (Bn := Bn) (ob := (Value.slice av n cv).ownBlock) hW hBn (fun b hb => (hown.lt b hb).2)
  exact each1_inA m hm l Bn n cv av base zs hl hn hz J Jx W hJ (fun pre x W1 h1 h2 h3 h4 => hY pre x W1 h1 (own_base h2 hW.size) h3 h4)
    (Nat.lt_of_lt_of_le hBn hW.size) ((World.cell?_of_block (w := w) (a := ⟨Bn, 0, none⟩) k.box).trans hcB) (own_block hown (fun j hj => k.bytes j hj)) h0

set_option maxRecDepth 100000 in
set_option maxHeartbeats 2000000 in
theorem decode_anyA (a : Option Addr) (n cap : Nat) (zs : List Int) (w : World) (hP : Bs w a n cap zs) (hl : n ≤ 1099511627776) :
    Calls Try.prog 10 #[.slice a n cap] w fun e w' => ∃ xs v, (AllOf zs 0 xs ∧ Apart xs) ∧ e = .returned v ∧ w'.ownsRow w.heap.size 32 4 v xs.length (xs.flatMap Told.row) ∧ (∀ x ∈ xs, Lies w.heap.size x w') ∧ Below w.heap.size w w' := by
  refine (callsIn_wide (n := 3)).1 ?_
  refine callsIn_of_wp_marks Try.func10 rfl trivial ?_ rfl
  simp only [Try.ntmps10, List.size_toArray, List.length_cons, List.length_nil, Nat.reduceAdd, Nat.reduceSub, Array.replicate_succ, Array.replicate_zero, List.push_toArray, List.append_toArray, List.nil_append, List.cons_append]
  obtain ⟨i0, hi, hz0, hz1, hz2⟩ := info_parts Try.inf32
  gi_wp2_with fail
  refine ⟨trivial, ?_⟩
  have b2 : Below w.heap.size w (w.alloc (.cells #[.slice none 0 0] 26)) := (Below.refl _ w).alloc (Nat.le_refl _) _
  refine (callsIn_wide.2 (each_any a n cap zs _ (hP.below b2) (by omega))).mono ?_
  rintro e w3 ⟨av, cv, rfl, hc3, hH3, hs3, hb3⟩
  have hsz2 : (w.alloc (.cells #[.slice none 0 0] 26)).heap.size = w.heap.size + 1 := by simp
  rw [hsz2] at hc3 hH3 hs3 hb3 ⊢
  have B3 : Below w.heap.size w w3 := b2.trans (hb3.mono (by omega))
  have hbox : w3.heap[w.heap.size]? = some (.cells #[.slice none 0 0] 26 (0, 0)) := (hb3.block _ (by omega)).trans (heap_alloc_new w _)
  have hob : ∀ b, (Value.slice av n cv).ownBlock = some b → w.heap.size < b ∧ b < w3.heap.size := fun b hb => by have := hH3.lt b hb; omega
  gi_wp2_with fail
  refine wpIn_range_al (n := 3) (by decide) (gf := 26) (lb := #[.pointer (some ⟨w.heap.size + 1, 0, none⟩)]) rfl (enters_of Try.func26 (by kernel_rfl) rfl)
    (each_seqA 2 (by decide) (w.heap.size + 1) n cv (w.heap.size + 2) av zs hP.len (by omega) hP.oct w3 (by omega) hc3 hH3) Keeps.trans ?hKb (Below.refl _ _) (fun _ => rfl)
    (DecI w w3.heap.size) (fun _ _ _ => False) (decI_own w _ _ B3.size) (fun _ _ _ _ _ hs _ _ => hs) (lies_own _ _) ?h0
    (fun x => .cells x.s.cells 32) ?hKa
    (fun x m => { tmps := #[.slice a n cap, undef, .slice none 0 0, .pointer (some ⟨w.heap.size, 0, none⟩), undef, .pointer (some ⟨m, 0, none⟩), .slice a n cap, .func (.func 26) #[] #[.pointer (some ⟨w.heap.size + 1, 0, none⟩)], .int .i64 x.at', .agg x.s.cells, undef, undef, undef, undef, undef], defers := [] }) ?assign ?body ?done ?stop
  case hKb =>
    intro W l o o' hlw hW _ _
    have hlt := (Array.getElem?_eq_some_iff.1 hW).1
    exact ⟨by simp, World.putObj_heap_other (by omega), fun b hb => World.putObj_heap_other (by have := hob b hb; omega)⟩
  case hKa =>
    intro W o hlt
    exact ⟨by simp, Below.heap_alloc _ _ _ (by omega), fun b hb => Below.heap_alloc _ _ _ (by have := hob b hb; omega)⟩
  case h0 => exact ⟨⟨_, hbox, World.ownsRow_nil _ _ _ _⟩, (fun x hx => by cases hx), B3, Nat.le_refl _⟩
  case assign =>
    intro l x W K hK
    simp only [tolds]
    gi_wp2
    exact hK
  case body =>
    rintro l pre x m W hm hmb ⟨⟨v, hv, hrow⟩, hx, hb, hs⟩ hxx _ hlen
    have hcv := cell_of_row W _ 0 _ _ _ hv
    obtain ⟨c0, c1, c2, c3⟩ := step_cells hmb
    have HNW : Hid (∀ j u, (Told.row x)[j]? = some u → (W.alloc (.cells #[.int .i64 x.s.op, .int .i64 x.s.x, .int .i64 x.s.y, x.s.d.val] 32)).cell? ((⟨W.heap.size, 0, none⟩ : Addr).add j) = some u) := World.news_of_block (heap_alloc_new W _)
    have hln : pre.length ≤ n := by omega
    gi_wp2_with (gi_at_builtin; refine wpListIn_append_own _ rfl (.tmp 10) (.tmp 12) 26 rfl w3.heap.size 32 i0 _ 4 48 Try.underlying26 hi hz0 hz1 hz2 rfl (by decide) v pre.length (pre.flatMap Told.row) rfl (hrow.alloc _) ⟨W.heap.size, 0, none⟩ 1 1 (Told.row x) rfl rfl HNW.out (told_one x) (by unfold maxLen; omega) (by omega) (by simp; omega) ?_; intro v' w1 hown' hgrow _; obtain ⟨g', cap', rfl, _, _⟩ := hown'.form (by omega); obtain ⟨⟨q1, q2⟩, HQ⟩ := dec_app (B' := w3.heap.size) (by omega) hob hv hrow hx hxx hb hs hown' hgrow)
    exact HQ.out
  case done =>
    rintro D xs W hD hS ⟨⟨v, hv, hrow⟩, hx, hb, hs⟩ hK
    have hcv : W.cell? ⟨w.heap.size, 0, none⟩ = some v := cell_of_row W _ 0 _ _ _ hv
    gi_wp2
    refine ⟨by simp, .inl ⟨_, _, rfl, run_takeDeferred hK, ?_⟩⟩
    have other : ∀ (k : Nat) (cs : Array Value) (t : TypeId) (fr : Nat × Nat), W.heap[k]? = some (.cells cs t fr) → (W.putObj D (.deferred none)).heap[k]? = W.heap[k]? := fun k cs t fr h =>
      World.putObj_heap_other (fun e => by subst e; rw [h] at hK; cases hK)
    have hbl : Below w.heap.size w (W.putObj D (.deferred none)) := hb.grown (grownBy_putObj' _ D (.deferred none)) hb.size (fun k e => by cases e; have := B3.size; omega)
    refine ⟨v, by simp [results, Try.results10, go_sem], xs, v, hS, rfl, ?_, ?_, hbl⟩
    · refine own_blk' (own_low' hrow (by omega)) (fun k hk => ?_)
      obtain ⟨cur, hc⟩ := own_cells hrow k hk
      exact other _ _ _ _ hc
    · intro x hxm
      refine own_block (own_base (hx x hxm) (by omega)) (fun k hk => ?_)
      obtain ⟨cur, hc⟩ := own_cells (hx x hxm) k hk
      exact other _ _ _ _ hc
  case stop =>
    rintro D c pre W _ _ h _
    exact h.elim
end Go.Proofs.Ytnbhadfhgecajaa
