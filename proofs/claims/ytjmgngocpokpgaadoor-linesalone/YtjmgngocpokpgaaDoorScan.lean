/-
  lines.Scan: its contract.
-/
import Derived.Test.YtjmgngocpokpgaaDoorScb
namespace Go.Proofs.YtjmgngocpokpgaaDoor
open Go.RowKit Go.Shelf
set_option linter.unusedVariables false
set_option linter.unusedSimpArgs false
attribute [local go_sem] Oper.semAt_some
/-- What Scan answers of what is told. -/
def ScE (w : World) (A : List Tl) (e : Ending) (w' : World) : Prop := ∃ tv, e = .returned (.tuple #[tv, .agg #[.int .i64 (fltOf A).1, .int .i64 (fltOf A).2.1, .int .i64 (fltOf A).2.2]]) ∧ w'.ownsRow w.heap.size 39 5 tv (toksOf A).length ((toksOf A).flatMap Tk.row) ∧ Below w.heap.size w w'
theorem all_fine {A : List Tl} (h : ∀ x ∈ A, Fine x) : A.find? (fun x => decide (x.e ≠ 0)) = none := by
  rw [List.find?_eq_none]
  intro x hx
  simp [(h x hx).2.2]
theorem one_fault {p r : List Tl} {x : Tl} (h : ∀ y ∈ p, Fine y) (hx : x.e ≠ 0) : (p ++ [x] ++ r).find? (fun x => decide (x.e ≠ 0)) = some x := by
  rw [List.append_assoc, List.find?_append, all_fine h]
  simp [hx]
/-- The two results are written. -/
theorem put4 {W : World} {B : Nat} {v : Value} {a b c : Value} (h1 : W.heap[B]? = some (.cells #[v] 29 (0, 0))) (h2 : W.heap[B + 1]? = some (.cells #[a, b, c] 32 (0, 0))) (u d l e : Value) :
    ((((W.setCell ⟨B, 0, none⟩ u).setCell ⟨B + 1, 0, none⟩ d).setCell ⟨B + 1, 1, none⟩ l).setCell ⟨B + 1, 2, none⟩ e).heap[B]? = some (.cells #[u] 29 (0, 0)) ∧
    ((((W.setCell ⟨B, 0, none⟩ u).setCell ⟨B + 1, 0, none⟩ d).setCell ⟨B + 1, 1, none⟩ l).setCell ⟨B + 1, 2, none⟩ e).heap[B + 1]? = some (.cells #[d, l, e] 32 (0, 0)) ∧
    (∀ k, k ≠ B → k ≠ B + 1 → ((((W.setCell ⟨B, 0, none⟩ u).setCell ⟨B + 1, 0, none⟩ d).setCell ⟨B + 1, 1, none⟩ l).setCell ⟨B + 1, 2, none⟩ e).heap[k]? = W.heap[k]?) ∧
    ((((W.setCell ⟨B, 0, none⟩ u).setCell ⟨B + 1, 0, none⟩ d).setCell ⟨B + 1, 1, none⟩ l).setCell ⟨B + 1, 2, none⟩ e).heap.size = W.heap.size := by
  have s1 : (W.setCell ⟨B, 0, none⟩ u).heap[B]? = some (.cells #[u] 29 (0, 0)) := one_setCell h1
  have s2 : (W.setCell ⟨B, 0, none⟩ u).heap[B + 1]? = some (.cells #[a, b, c] 32 (0, 0)) := (heap_setCell_other _ _ _ _ (by simp)).trans h2
  have s3 := heap_setCell_same _ (B + 1) 0 _ _ d s2
  have s4 := heap_setCell_same _ (B + 1) 1 _ _ l s3
  have s5 := heap_setCell_same _ (B + 1) 2 _ _ e s4
  refine ⟨?_, s5, fun k n1 n2 => ?_, by simp⟩
  · exact (heap_setCell_other _ _ _ _ (by simp)).trans ((heap_setCell_other _ _ _ _ (by simp)).trans ((heap_setCell_other _ _ _ _ (by simp)).trans s1))
  · exact (heap_setCell_other _ _ _ _ n2).trans ((heap_setCell_other _ _ _ _ n2).trans ((heap_setCell_other _ _ _ _ n2).trans (heap_setCell_other _ _ _ _ n1)))
theorem put4K (W : World) (a1 a2 a3 a4 : Addr) (u d l e : Value) : KeepsOthers W ((((W.setCell a1 u).setCell a2 d).setCell a3 l).setCell a4 e) :=
  (((KeepsOthers.setCell W _ _).trans (KeepsOthers.setCell _ _ _)).trans (KeepsOthers.setCell _ _ _)).trans (KeepsOthers.setCell _ _ _)
theorem len4 (w : World) (o1 o2 o3 : Obj) : (((w.alloc o1).alloc o2).alloc o3).heap.size = w.heap.size + 3 := by simp
set_option maxRecDepth 100000 in
set_option maxHeartbeats 4000000 in
theorem scan_core (a : Option Addr) (n cap : Nat) (w : World) (gf : Nat) (lb : Array Value) (A : List Tl) (Nn : Nat) (hNn : Nn ≤ 2 ^ 20) (eg : ∀ args w, (callFunc gf args).run Tryd.prog w = .ok (.enter gf args) w)
    (hA : ∀ x ∈ A, Fine x ∨ x.e ≠ 0)
    (hE : Calls Tryd.prog 15 #[.slice a n cap] (((w.alloc (.cells #[.slice none 0 0] 29)).alloc (.cells #[.int .i64 0, .int .i64 0, .int .i64 0] 32)).alloc (.cells #[.slice none 0 0] 29)) fun e w' => e = .returned (.func (.func gf) #[] lb) ∧ Below (w.heap.size + 3) (((w.alloc (.cells #[.slice none 0 0] 29)).alloc (.cells #[.int .i64 0, .int .i64 0, .int .i64 0] 32)).alloc (.cells #[.slice none 0 0] 29)) w' ∧ SeqP 2 Tryd.prog gf lb tells (fun _ _ => True) (Kc [w.heap.size, w.heap.size + 1] (w.heap.size + 2)) (fun xs => xs = A) (fun pre => pre <+: A) Nn w') :
    Calls Tryd.prog 11 #[.slice a n cap] w (ScE w A) := by
  refine (callsIn_wide (n := 3)).1 ?_
  refine callsIn_of_wp_marks Tryd.func11 rfl trivial ?_ rfl
  simp only [Tryd.ntmps11, List.size_toArray, List.length_cons, List.length_nil, Nat.reduceAdd, Nat.reduceSub, Array.replicate_succ, Array.replicate_zero, List.push_toArray, List.append_toArray, List.nil_append, List.cons_append]
  obtain ⟨i39, hi39, hz0, hz1, hz2⟩ := info_parts Tryd.info39
  gi_wp2_with fail
  refine ⟨trivial, ?_⟩
  refine (callsIn_wide.2 hE).mono ?_
  rintro e w3 ⟨rfl, hb3, hseq⟩
  have b0 : Below w.heap.size w (((w.alloc (.cells #[.slice none 0 0] 29)).alloc (.cells #[.int .i64 0, .int .i64 0, .int .i64 0] 32)).alloc (.cells #[.slice none 0 0] 29)) := (((Below.refl _ w).alloc (Nat.le_refl _) _).alloc (by simp) _).alloc (by simp; omega) _
  have B3 : Below w.heap.size w w3 := b0.trans (hb3.mono (by omega))
  have hs3 : w.heap.size + 3 ≤ w3.heap.size := by have := hb3.size; rw [len4] at this; exact this
  have k1 : w3.heap[w.heap.size]? = some (.cells #[.slice none 0 0] 29 (0, 0)) := (hb3.block _ (by omega)).trans ((Go.heap_alloc_old _ _ (by simp; omega)).trans ((Go.heap_alloc_old _ _ (by simp)).trans (heap_alloc_new w _)))
  have k2 : w3.heap[w.heap.size + 1]? = some (.cells #[.int .i64 0, .int .i64 0, .int .i64 0] 32 (0, 0)) := by
    refine (hb3.block _ (by omega)).trans ((Go.heap_alloc_old _ _ (by simp)).trans ?_)
    have := heap_alloc_new (w.alloc (.cells #[.slice none 0 0] 29)) (.cells #[.int .i64 0, .int .i64 0, .int .i64 0] 32)
    rw [World.size_alloc] at this; exact this
  have k3 : w3.heap[w.heap.size + 2]? = some (.cells #[.slice none 0 0] 29 (0, 0)) := by
    refine (hb3.block _ (by omega)).trans ?_
    have := heap_alloc_new ((w.alloc (.cells #[.slice none 0 0] 29)).alloc (.cells #[.int .i64 0, .int .i64 0, .int .i64 0] 32)) (.cells #[.slice none 0 0] 29)
    rw [World.size_alloc, World.size_alloc] at this; exact this
  clear hE
  gi_wp2_with fail
  refine wpIn_range_al2 (n := 3) (by decide) (gf := gf) (lb := lb) rfl eg hseq Kc.trans ?hKb (Below.refl _ _) (fun _ => rfl)
    (ScI w w3.heap.size) (ScX w w3.heap.size) (scI_own w _ _ B3.size) (scX_own w _ _ B3.size) (fun _ _ _ _ _ _ _ => trivial) ?h0
    (fun x => .cells #[.int .i64 x.tk.kind, .int .i64 x.tk.line, .int .i64 x.tk.col, .string ⟨x.tk.text.toArray⟩, .bool x.tk.q] 39) (fun x => .cells #[.int .i64 x.d, .int .i64 x.ln, .int .i64 x.e] 32) ?hKa
    (fun x m => { tmps := #[.slice a n cap, undef, .pointer (some ⟨w.heap.size, 0, none⟩), .pointer (some ⟨w.heap.size + 1, 0, none⟩), .pointer (some ⟨w.heap.size + 2, 0, none⟩), .pointer (some ⟨m, 0, none⟩), .pointer (some ⟨m + 1, 0, none⟩), .slice a n cap, .func (.func gf) #[] lb, .agg #[.int .i64 x.tk.kind, .int .i64 x.tk.line, .int .i64 x.tk.col, .string ⟨x.tk.text.toArray⟩, .bool x.tk.q], .agg #[.int .i64 x.d, .int .i64 x.ln, .int .i64 x.e], undef, undef, undef, undef, undef, undef, undef, undef, undef, undef], defers := [] }) ?assign ?body ?done ?stop
  case hKb =>
    intro W l o o' hlw hW hc _
    exact Kc.put hW hc (by omega)
  case hKa =>
    intro W o hlt
    exact Kc.of_below ((Below.refl _ W).alloc (Nat.le_refl _) _) (by omega)
  case h0 => exact ⟨k1, k2, ⟨_, k3, World.ownsRow_nil _ _ _ _⟩, (fun x hx => by cases hx), B3, Nat.le_refl _⟩
  case assign =>
    intro l x W K hK
    simp only [tells, Tk.row]
    gi_wp2
    exact hK
  case body =>
    rintro l pre x m W hm hmb hmb2 ⟨h1, h2, ⟨v, hv, hrow⟩, hf, hb, hs⟩ _ hSp hlen
    have hcv := cell_of_row W _ 0 _ _ _ hv
    have f0 := cell_of hmb2 0 _ rfl
    have f1 := cell_of hmb2 1 _ rfl
    have f2 := cell_of hmb2 2 _ rfl
    have t0 := cell_of hmb 0 _ rfl
    have t1 := cell_of hmb 1 _ rfl
    have t2 := cell_of hmb 2 _ rfl
    have t3 := cell_of hmb 3 _ rfl
    have t4 := cell_of hmb 4 _ rfl
    have hxA := hA x (hSp.subset (by simp))
    by_cases hx : x.e = 0
    · have hF : Fine x := hxA.resolve_right (fun h => h hx)
      obtain ⟨e1, e2, e3⟩ := hF
      rw [e1] at f0
      rw [e2] at f1
      rw [e3] at f2
      have HNW : Hid (∀ j u, (Tl.row x)[j]? = some u → (W.alloc (.cells #[.int .i64 x.tk.kind, .int .i64 x.tk.line, .int .i64 x.tk.col, .string ⟨x.tk.text.toArray⟩, .bool x.tk.q] 39)).cell? ((⟨W.heap.size, 0, none⟩ : Addr).add j) = some u) := World.news_of_block (heap_alloc_new W _)
      have HF : Hid (Fine x) := ⟨e1, e2, e3⟩
      have hln : pre.length ≤ 2 ^ 20 := by omega
      gi_wp2_with (gi_at_builtin; refine wpListIn_append_own_at _ rfl (.tmp 15) (.tmp 17) 29 rfl w3.heap.size 39 i39 _ 5 48 Tryd.underlying29 hi39 hz0 hz1 hz2 rfl (by decide) v pre.length (pre.flatMap Tl.row) rfl (hrow.alloc _) ⟨W.heap.size, 0, none⟩ 1 1 (Tl.row x) rfl rfl HNW.out (Tk.row_one _) (by unfold maxLen; omega) (by omega) (by simp; omega) ?_; intro v' w1 hown' hgrow _ hat; obtain ⟨g', cap', rfl, _, _⟩ := hown'.form (by omega); obtain ⟨⟨q1, q2⟩, HQ⟩ := sc_app (B' := w3.heap.size) (by omega) h1 h2 hv hrow hf HF.out hb hs hown' hgrow hat)
      exact HQ.out
    · have hx' : ¬ (x.e = 0) := hx
      have hx2 : (x.e == 0) = false := by simpa using hx
      have g1 : W.cell? ⟨w.heap.size, 0, none⟩ = some (.slice none 0 0) := cell_of h1 0 _ rfl
      have g20 : W.cell? ⟨w.heap.size + 1, 0, none⟩ = some (.int .i64 0) := cell_of h2 0 _ rfl
      have g21 : W.cell? ⟨w.heap.size + 1, 1, none⟩ = some (.int .i64 0) := cell_of h2 1 _ rfl
      have g22 : W.cell? ⟨w.heap.size + 1, 2, none⟩ = some (.int .i64 0) := cell_of h2 2 _ rfl
      have z1 : W.frozen? ⟨w.heap.size, 0, none⟩ = false := by simp [World.frozen?, h1]
      have z20 : W.frozen? ⟨w.heap.size + 1, 0, none⟩ = false := by simp [World.frozen?, h2]
      have z21 : W.frozen? ⟨w.heap.size + 1, 1, none⟩ = false := by simp [World.frozen?, h2]
      have z22 : W.frozen? ⟨w.heap.size + 1, 2, none⟩ = false := by simp [World.frozen?, h2]
      have n1 : ¬ w.heap.size = w.heap.size + 1 := by omega
      gi_wp2_with fail
      gi_region
      all_goals gi_wp2
      all_goals
        obtain ⟨p1, p2, p3, p4⟩ := put4 h1 h2 (.slice none 0 0) (.int .i64 x.d) (.int .i64 x.ln) (.int .i64 x.e)
        exact ⟨((put4K W _ _ _ _ _ _ _ _).trans (KeepsOthers.drew _)).from _, rfl, pre, x, rfl, hf, hx, p1, p2, ((((hb.setCell (p := ⟨w.heap.size, 0, none⟩) (Nat.le_refl _) _).setCell (p := ⟨w.heap.size + 1, 0, none⟩) (Nat.le_succ _) _).setCell (p := ⟨w.heap.size + 1, 1, none⟩) (Nat.le_succ _) _).setCell (p := ⟨w.heap.size + 1, 2, none⟩) (Nat.le_succ _) _).drew⟩
  case done =>
    rintro D xs W hD hS ⟨h1, h2, ⟨v, hv, hrow⟩, hf, hb, hs⟩ hK
    subst hS
    have hcv : W.cell? ⟨w.heap.size + 2, 0, none⟩ = some v := cell_of hv 0 _ rfl
    have g1 : W.cell? ⟨w.heap.size, 0, none⟩ = some (.slice none 0 0) := cell_of h1 0 _ rfl
    have g20 : W.cell? ⟨w.heap.size + 1, 0, none⟩ = some (.int .i64 0) := cell_of h2 0 _ rfl
    have g21 : W.cell? ⟨w.heap.size + 1, 1, none⟩ = some (.int .i64 0) := cell_of h2 1 _ rfl
    have g22 : W.cell? ⟨w.heap.size + 1, 2, none⟩ = some (.int .i64 0) := cell_of h2 2 _ rfl
    have z1 : W.frozen? ⟨w.heap.size, 0, none⟩ = false := by simp [World.frozen?, h1]
    have z20 : W.frozen? ⟨w.heap.size + 1, 0, none⟩ = false := by simp [World.frozen?, h2]
    have z21 : W.frozen? ⟨w.heap.size + 1, 1, none⟩ = false := by simp [World.frozen?, h2]
    have z22 : W.frozen? ⟨w.heap.size + 1, 2, none⟩ = false := by simp [World.frozen?, h2]
    obtain ⟨av, cv, rfl, _⟩ := own_sh hrow
    gi_wp2
    obtain ⟨p1, p2, p3, p4⟩ := put4 h1 h2 (.slice av xs.length cv) (.int .i64 0) (.int .i64 0) (.int .i64 0)
    have hbl0 : Below w.heap.size w ((((W.setCell ⟨w.heap.size, 0, none⟩ (.slice av xs.length cv)).setCell ⟨w.heap.size + 1, 0, none⟩ (.int .i64 0)).setCell ⟨w.heap.size + 1, 1, none⟩ (.int .i64 0)).setCell ⟨w.heap.size + 1, 2, none⟩ (.int .i64 0)) := (((hb.setCell (p := ⟨w.heap.size, 0, none⟩) (Nat.le_refl _) _).setCell (p := ⟨w.heap.size + 1, 0, none⟩) (Nat.le_succ _) _).setCell (p := ⟨w.heap.size + 1, 1, none⟩) (Nat.le_succ _) _).setCell (p := ⟨w.heap.size + 1, 2, none⟩) (Nat.le_succ _) _
    obtain ⟨W4, hW4⟩ : ∃ W4, ((((W.setCell ⟨w.heap.size, 0, none⟩ (.slice av xs.length cv)).setCell ⟨w.heap.size + 1, 0, none⟩ (.int .i64 0)).setCell ⟨w.heap.size + 1, 1, none⟩ (.int .i64 0)).setCell ⟨w.heap.size + 1, 2, none⟩ (.int .i64 0)) = W4 := ⟨_, rfl⟩
    rw [hW4] at p1 p2 p3 p4 hbl0 ⊢
    have hK4 : W4.heap[D]? = some (.deferred (some [])) := (p3 D (by omega) (by omega)).trans hK
    refine ⟨by simp, .inl ⟨_, _, rfl, run_takeDeferred hK4, ?_⟩⟩
    have hbl : Below w.heap.size w (W4.putObj D (.deferred none)) := hbl0.grown (grownBy_putObj' _ D (.deferred none)) hbl0.size (fun k e => by cases e; have := B3.size; omega)
    have e1 : (W4.putObj D (.deferred none)).heap[w.heap.size]? = some (.cells #[.slice av xs.length cv] 29 (0, 0)) := (World.putObj_heap_other (by omega)).trans p1
    have e2 : (W4.putObj D (.deferred none)).heap[w.heap.size + 1]? = some (.cells #[.int .i64 0, .int .i64 0, .int .i64 0] 32 (0, 0)) := (World.putObj_heap_other (by omega)).trans p2
    have r1 := cell_of e1 0 _ rfl
    have r20 := cell_of e2 0 _ rfl
    have r21 := cell_of e2 1 _ rfl
    have r22 := cell_of e2 2 _ rfl
    have hnone := all_fine hf
    have hfl : fltOf xs = (0, 0, 0) := by unfold fltOf; rw [hnone]
    have htk : toksOf xs = xs.map (·.tk) := by unfold toksOf; rw [hnone]
    have HROW : Hid ((W4.putObj D (.deferred none)).ownsRow w.heap.size 39 5 (.slice av xs.length cv) (toksOf xs).length ((toksOf xs).flatMap Tk.row)) := by
      show World.ownsRow _ _ _ _ _ _ _
      rw [htk, ← tl_flat, List.length_map]
      refine own_blk (own_low hrow (by omega)) (fun k hk => ?_)
      have hkl := (hrow.lt k hk).1
      obtain ⟨cur, hc⟩ := own_cells hrow k hk
      refine (World.putObj_heap_other (fun e => ?_)).trans (p3 k (by omega) (by omega))
      subst e
      rw [hc] at hK
      cases hK
    have HFL := hide2 hfl
    clear hfl htk hnone
    refine ⟨.tuple #[.slice av xs.length cv, .agg #[.int .i64 0, .int .i64 0, .int .i64 0]], ?_, ?_⟩
    · skip
      simp [results, Tryd.results11, go_sem, r1, r20, r21, r22]
    · exact ⟨_, by rw [HFL.out], HROW.out, hbl⟩
  case stop =>
    rintro D c pre W hD hSp ⟨rfl, p, x, rfl, hf, hx, h1, h2, hb⟩ hK
    obtain ⟨r, hr⟩ := hSp
    have hfind := one_fault (r := r) hf hx
    rw [hr] at hfind
    have hfl : fltOf A = (x.d, x.ln, x.e) := by unfold fltOf; rw [hfind]
    have htk : toksOf A = [] := by unfold toksOf; rw [hfind]
    gi_wp2
    refine ⟨by simp, .inl ⟨_, _, rfl, run_takeDeferred hK, ?_⟩⟩
    have hbl : Below w.heap.size w (W.putObj D (.deferred none)) := hb.grown (grownBy_putObj' _ D (.deferred none)) hb.size (fun k e => by cases e; have := B3.size; omega)
    have e1 : (W.putObj D (.deferred none)).heap[w.heap.size]? = some (.cells #[.slice none 0 0] 29 (0, 0)) := (World.putObj_heap_other (by omega)).trans h1
    have e2 : (W.putObj D (.deferred none)).heap[w.heap.size + 1]? = some (.cells #[.int .i64 x.d, .int .i64 x.ln, .int .i64 x.e] 32 (0, 0)) := (World.putObj_heap_other (by omega)).trans h2
    have r1 := cell_of e1 0 _ rfl
    have r20 := cell_of e2 0 _ rfl
    have r21 := cell_of e2 1 _ rfl
    have r22 := cell_of e2 2 _ rfl
    refine ⟨.tuple #[.slice none 0 0, .agg #[.int .i64 x.d, .int .i64 x.ln, .int .i64 x.e]], ?_, ?_⟩
    · simp [results, Tryd.results11, go_sem, r1, r20, r21, r22]
    · exact ⟨_, by rw [hfl], by rw [htk]; exact World.ownsRow_nil _ _ _ _, hbl⟩
end Go.Proofs.YtjmgngocpokpgaaDoor
