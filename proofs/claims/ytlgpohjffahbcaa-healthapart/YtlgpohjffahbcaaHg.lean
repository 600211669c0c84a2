/- The document's other calls; the law's own helpers. -/
import Derived.Test.YtlgpohjffahbcaaHf
namespace Go.Proofs.Ytlgpohjffahbcaa
open Go.RowKit Ieee
set_option linter.unusedVariables false
set_option linter.unusedSimpArgs false
/-- the document's state, or nil; in o: what it has come to -/
inductive Rv (w : World) (base : Nat) : Value → List Nat → Option St → Prop
  | nil : Rv w base (.pointer none) [] none
  | at_ (c : Nat) (rise fall : Int) (L : List (Bool × Nat)) (bs : List Nat) (h : Rs w base c rise fall L bs) (hT : okT rise fall) (hn : L.length ≤ 900) (hL : ∀ p ∈ L, p.2 < 18446744073709551616) : Rv w base (.pointer (some ⟨c, 0, none⟩)) bs (some (runL (St.new rise fall) L))
def upO (o : Option St) : Bool := o.elim false St.up
def rowO (o : Option St) : Int := o.elim 0 St.row
def turnsO (o : Option St) : Nat := o.elim 0 St.turns
theorem elim_turns (o : Option St) : (o.elim 0 fun s => (s.turns : Int)) = (turnsO o : Int) := by cases o <;> rfl
def nowV (o : Option St) : Value := .agg #[.bool (upO o), .int .i64 (rowO o), .float .f64 (tookO o), .int .i64 (timedO o), .int .i64 (turnsO o)]
theorem now_nil (w : World) : Calls Try.prog 31 #[.pointer none] w fun e w' => e = .returned (nowV none) ∧ Below w.heap.size w w' := by
  have st := st_float
  go_enter Try.func31, Try.ntmps31
  go_wp2_with fail
  obtain ⟨ws, hws⟩ : ∃ ws, (w.alloc (.cells (ncl false 0 0 0 0) 61 (0, 0))).alloc (.cells (ncl false 0 0 0 0) 61 (0, 0)) = ws := ⟨_, rfl⟩
  have hsz : (w.alloc (.cells (ncl false 0 0 0 0) 61 (0, 0))).heap.size = w.heap.size + 1 := Array.size_push _
  have hb : ws.heap[w.heap.size]? = some (.cells (ncl false 0 0 0 0) 61 (0, 0)) := by
    rw [← hws]
    exact (Below.heap_alloc _ _ _ (by rw [hsz]; omega)).trans (Go.heap_alloc_new _ _)
  have hB : Below w.heap.size w ws := hws ▸ ((Below.refl _ _).alloc (Nat.le_refl _) _).alloc (by simp) _
  have s0 : ws.cell? ⟨w.heap.size, 0, none⟩ = some (.bool false) := by simp [World.cell?, hb]; rfl
  have s1 : ws.cell? ⟨w.heap.size, 1, none⟩ = some (.int .i64 0) := by simp [World.cell?, hb]; rfl
  have s2 : ws.cell? ⟨w.heap.size, 2, none⟩ = some (.float .f64 0) := by simp [World.cell?, hb]; rfl
  have s3 : ws.cell? ⟨w.heap.size, 3, none⟩ = some (.int .i64 0) := by simp [World.cell?, hb]; rfl
  have s4 : ws.cell? ⟨w.heap.size, 4, none⟩ = some (.int .i64 0) := by simp [World.cell?, hb]; rfl
  unfold ncl at hws
  rw [hws]
  clear hws
  exact bodyPost_ret (v := .agg #[.bool false, .int .i64 0, .float .f64 0, .int .i64 0, .int .i64 0]) (by simp [results, Try.results31, go_sem, s0, s1, s2, s3, s4]) rfl ⟨rfl, hB⟩
theorem nowv_any (base : Nat) (v : Value) (bs : List Nat) (o : Option St) (w : World) (h : Rv w base v bs o) : Calls Try.prog 31 #[v] w fun e w' => e = .returned (nowV o) ∧ Below w.heap.size w w' := by
  cases h with
  | nil => exact now_nil w
  | at_ c rise fall L bs h hT hn hL =>
    refine (now_any base c rise fall L bs w h hT hn hL).mono ?_
    rintro e w' ⟨⟨s, rfl, rfl⟩, hb⟩
    exact ⟨rfl, hb⟩
theorem alike_any (x : Nat) (w : World) : Calls Try.prog 25 #[.float .f64 x, .float .f64 x] w fun e w' => e = .returned (.bool true) ∧ w' = w := by
  have hb := bits_run x
  go_enter Try.func25, Try.ntmps25
  go_wp2_with fail
  go_ret
  exact ⟨rfl, rfl⟩
theorem Pv.below {w w' : World} {v : Value} {b : Option Nat} {o : Option St} (h : Pv w v b o) (g : Below w.heap.size w w') : Pv w' v b o := by
  cases h with
  | nil => exact .nil
  | at_ b s h => exact .at_ b s (h.below g (lt_of_block h))
theorem Pv.drew {w : World} {v : Value} {b : Option Nat} {o : Option St} (h : Pv w v b o) (q : Nat) : Pv (w.drewN q) v b o := by
  cases h with
  | nil => exact .nil
  | at_ b s h => exact .at_ b s h
/-- a state and the document's that say the same -/
theorem is_any (v u : Value) (b : Option Nat) (o : Option St) (base : Nat) (bs : List Nat) (w : World) (hv : Pv w v b o) (hu : Rv w base u bs o) :
    Calls Try.prog 13 #[v, u] w fun e w' => e = .returned (.bool true) ∧ Below w.heap.size w w' := by
  have hn := nowv_any base u bs o w hu
  have HV := hide2 hv
  have st := st_float
  clear hv hu
  go_enter Try.func13, Try.ntmps13
  go_wp2_with (first
    | (go_at_call 31; refine hn.mono ?_; rintro e w1 ⟨rfl, hb1⟩; unfold nowV; have HB1 := hide2 hb1; clear hn))
  obtain ⟨wn, hwn⟩ : ∃ wn, w1.alloc (.cells #[.bool (upO o), .int .i64 (rowO o), .float .f64 (tookO o), .int .i64 (timedO o), .int .i64 (turnsO o)] 61 (0, 0)) = wn := ⟨_, rfl⟩
  have hbk : wn.heap[w1.heap.size]? = some (.cells #[.bool (upO o), .int .i64 (rowO o), .float .f64 (tookO o), .int .i64 (timedO o), .int .i64 (turnsO o)] 61 (0, 0)) := by rw [← hwn]; exact Go.heap_alloc_new _ _
  have hB : Below w.heap.size w wn := HB1.out.trans (hwn ▸ ((Below.refl _ w1).alloc (Nat.le_refl _) _).mono HB1.out.size)
  have HB := hide2 hB
  have hP := HV.out.below hB
  rw [hwn]
  have m0 : wn.cell? ⟨w1.heap.size, 0, none⟩ = some (.bool (upO o)) := by simp [World.cell?, hbk]
  have m1 : wn.cell? ⟨w1.heap.size, 1, none⟩ = some (.int .i64 (rowO o)) := by simp [World.cell?, hbk]
  have m2 : wn.cell? ⟨w1.heap.size, 2, none⟩ = some (.float .f64 (tookO o)) := by simp [World.cell?, hbk]
  have m3 : wn.cell? ⟨w1.heap.size, 3, none⟩ = some (.int .i64 (timedO o)) := by simp [World.cell?, hbk]
  have m4 : wn.cell? ⟨w1.heap.size, 4, none⟩ = some (.int .i64 (turnsO o)) := by simp [World.cell?, hbk]
  have q20 : ∀ q, Calls Try.prog 20 #[v] (wn.drewN q) fun e w'' => e = .returned (.bool (upO o)) ∧ ∃ m, w'' = wn.drewN m := fun q => (healthy_any v b o _ (hP.drew q)).quiet_of_same
  have q22 : ∀ q, Calls Try.prog 22 #[v] (wn.drewN q) fun e w'' => e = .returned (.int .i64 (rowO o)) ∧ ∃ m, w'' = wn.drewN m := fun q => (row_any v b o _ (hP.drew q)).quiet_of_same
  have q23 : ∀ q, Calls Try.prog 23 #[v] (wn.drewN q) fun e w'' => e = .returned (.float .f64 (tookO o)) ∧ ∃ m, w'' = wn.drewN m := fun q => (took_any v b o _ (hP.drew q)).quiet_of_same
  have q24 : ∀ q, Calls Try.prog 24 #[v] (wn.drewN q) fun e w'' => e = .returned (.int .i64 (timedO o)) ∧ ∃ m, w'' = wn.drewN m := fun q => (elim_timed o ▸ timed_any v b o _ (hP.drew q)).quiet_of_same
  have q21 : ∀ q, Calls Try.prog 21 #[v] (wn.drewN q) fun e w'' => e = .returned (.int .i64 (turnsO o)) ∧ ∃ m, w'' = wn.drewN m := fun q => (elim_turns o ▸ turns_any v b o _ (hP.drew q)).quiet_of_same
  have q25 : ∀ q, Calls Try.prog 25 #[.float .f64 (tookO o), .float .f64 (tookO o)] (wn.drewN q) fun e w'' => e = .returned (.bool true) ∧ ∃ m, w'' = wn.drewN m := fun q => (alike_any (tookO o) _).quiet_of_same
  generalize upO o = x0 at *
  generalize rowO o = x1 at *
  generalize tookO o = x2 at *
  generalize timedO o = x3 at *
  generalize turnsO o = x4 at *
  have g0 : (x0 == x0) = true := by simp
  have g1 : (x1 == x1) = true := by simp
  have g3 : ((x3 : Int) == (x3 : Int)) = true := by simp
  have g4 : ((x4 : Int) == (x4 : Int)) = true := by simp
  clear hP hwn hbk hB hb1
  go_quiet (first | exact q20 _ | exact q22 _ | exact q23 _ | exact q25 _ | exact q24 _ | exact q21 _)
  go_wp2
  go_ret
  exact ⟨rfl, HB.out.trans ⟨rfl, rfl, rfl, Nat.le_refl _, fun _ _ => rfl⟩⟩
theorem step_append_own {P : Program} {ops : Array Oper} {o : Oper} {a : Act} {w : World} {K : Act → World → Prop} {Q : Exit → Act → World → Prop} {E : Prop}
    (hg : o.guard = none) (s x : Operand) (t : TypeId) (hop : o.op = Op.call { callee := Callee.builtin Builtin.append, args := #[s, x], argTypes := #[t, t] })
    (base : Nat) (e : TypeId) (i : TypeInfo) (z : Value) (size bytes : Nat) (h1 : P.underlying t = some (.slice e)) (h2 : P.info? e = some i) (h3 : i.zero = some z) (h4 : i.size = size) (h5 : i.bytes = bytes) (h6 : z.cells.size = size) (h7 : 0 < size)
    (v : Value) (n : Nat) (xs : List Value) (hs : a.eval s = v) (hown : w.ownsRow base e size v n xs)
    (ad : Addr) (m c : Nat) (news : List Value) (hx : a.eval x = .slice (some ad) m c) (hn : news.length = m * size) (hc : ∀ j u, news[j]? = some u → w.cell? (ad.add j) = some u) (h1c : ∀ u ∈ news, u.oneCell' = true)
    (b1 : n + m ≤ maxLen) (b2 : (n + m) * bytes ≤ 140737488355328) (hb : base ≤ w.heap.size)
    (hK : ∀ v' w', w'.ownsRow base e size v' (n + m) (xs ++ news) → w.grownBy w' v.ownBlock → K (a.put o.dst v') w') :
    if Region.wanted o (yielded ops a.tmps) = true then Oper.wp P o a w K Q else E := by
  have hw : Region.wanted o (yielded ops a.tmps) = true := by simp [Region.wanted, hg]
  rw [if_pos hw]
  obtain ⟨v', w', hrun, r1, r2, _⟩ := run_append_own (P := P) w base t o.type e i z size bytes h1 h2 h3 h4 h5 h6 h7 v n xs hown ad m c news hn hc h1c b1 b2 hb
  unfold Oper.wp
  simp [execOp, hop, resolve, invoke, builtin, hs, hx, hrun, Result.andThen]
  exact hK v' w' r1 r2
theorem own2_form {w : World} {base : Nat} {e : TypeId} {k n : Nat} {v : Value} {xs : List Value} (h : w.ownsRow base e k v n xs) : ∃ a c, v = .slice a n c := by
  rcases h.2 with ⟨rfl, h0⟩ | ⟨g, cp, cur, rfl, _⟩
  · exact ⟨none, 0, by rw [h0]⟩
  · exact ⟨_, _, rfl⟩
theorem own_none (w : World) : (w.alloc (.cells #[] 34 (0, 0))).drew.ownsRow w.heap.size 34 2 (.slice (some ⟨w.heap.size, 0, none⟩) 0 0) 0 [] :=
  ⟨rfl, .inr ⟨w.heap.size, 0, #[], rfl, Nat.le_refl _, Go.heap_alloc_new w _, Nat.le_refl _, by decide, rfl, rfl⟩⟩
set_option maxRecDepth 100000 in
theorem rcopy_some (base c : Nat) (rise fall : Int) (g : Nat) (cap : Nat) (L : List (Bool × Nat)) (w : World) (h1 : w.heap[c]? = some (.cells #[.int .i64 rise, .int .i64 fall, .slice (some ⟨g, 0, none⟩) L.length cap] 56 (0, 0))) (h2 : w.ownsRow base 34 2 (.slice (some ⟨g, 0, none⟩) L.length cap) L.length (pvals L)) (hn : L.length ≤ 900) :
    Calls Try.prog 15 #[.pointer (some ⟨c, 0, none⟩)] w fun e w' => ∃ c' bs', e = .returned (.pointer (some ⟨c', 0, none⟩)) ∧ Rs w' w.heap.size c' rise fall L bs' ∧ Below w.heap.size w w' := by
  have c0 : w.cell? ⟨c, 0, none⟩ = some (.int .i64 rise) := by simp [World.cell?, h1]
  have c1 : w.cell? ⟨c, 1, none⟩ = some (.int .i64 fall) := by simp [World.cell?, h1]
  have c2 : w.cell? ⟨c, 2, none⟩ = some (.slice (some ⟨g, 0, none⟩) L.length cap) := by simp [World.cell?, h1]
  obtain ⟨i0, hi, hz0, hz1, hz2⟩ := info_parts Try.info34
  have hB : Below w.heap.size w (w.alloc (.cells #[] 34 (0, 0))).drew := ((Below.refl _ w).alloc (Nat.le_refl _) _).drew
  have HB := hide2 hB
  have HN : Hid (∀ j u, (pvals L)[j]? = some u → (w.alloc (.cells #[] 34 (0, 0))).drew.cell? ((⟨g, 0, none⟩ : Addr).add j) = some u) := fun j u hj => cell_of_below hB (h2.cells rfl j u hj)
  have HL := hide2 (pvals_length L)
  obtain ⟨n, hnn⟩ : ∃ n, L.length = n := ⟨_, rfl⟩
  have HNN := hide2 hnn
  rw [hnn] at c2 hn
  have HC := hide2 (And.intro c0 (And.intro c1 c2))
  clear h1 h2 hB hnn
  go_enter Try.func15, Try.ntmps15
  go_wp2_with fail
  go_region_held3 (fun w' => w'.cell? ⟨c, 0, none⟩ = some (.int .i64 rise) ∧ w'.cell? ⟨c, 1, none⟩ = some (.int .i64 fall) ∧ w'.cell? ⟨c, 2, none⟩ = some (.slice (some ⟨g, 0, none⟩) n cap)) (go_keep)
    (first | (refine step_append_own rfl (.tmp 13) (.tmp 17) 22 rfl w.heap.size 34 i0 (.agg #[.bool false, .float .f64 0]) 2 16 Try.underlying22 hi hz0 hz1 hz2 rfl (by decide) _ 0 [] rfl (own_none w) ⟨g, 0, none⟩ n cap (pvals L) rfl (by rw [HL.out, HNN.out]) HN.out (pvals_one _) (by unfold maxLen; omega) (by omega) (by simp) ?_; intro v' w3 hown3 hgrow3; rw [Nat.zero_add] at hown3; obtain ⟨av, cv, rfl⟩ := own2_form hown3; have HB3 := hide2 (HB.out.grown hgrow3 HB.out.size (fun k h => by cases h; exact Nat.le_refl _)); have HO3 := hide2 hown3; have e0 := cell_of_below HB3.out HC.out.1; have e1 := cell_of_below HB3.out HC.out.2.1; have e2 := cell_of_below HB3.out HC.out.2.2; clear hown3 hgrow3))
  go_wp2
  go_ret
  have hB := (Below.refl w3.heap.size w3).alloc (Nat.le_refl _) (.cells #[.int .i64 rise, .int .i64 fall, .slice av n cv] 56 (0, 0))
  refine ⟨w3.heap.size, _, rfl, ⟨av, cv, ?_, ?_, HB3.out.size, rfl⟩, HB3.out.trans (hB.mono HB3.out.size)⟩
  · rw [HNN.out]; exact Go.heap_alloc_new _ _
  · have := HO3.out
    rw [List.nil_append] at this
    rw [HNN.out]
    exact own2_block this (fun k hk => hB.block k (this.lt k hk).2)
theorem rcopy_none (base c : Nat) (rise fall : Int) (w : World) (h1 : w.heap[c]? = some (.cells #[.int .i64 rise, .int .i64 fall, .slice none 0 0] 56 (0, 0))) :
    Calls Try.prog 15 #[.pointer (some ⟨c, 0, none⟩)] w fun e w' => ∃ c' bs', e = .returned (.pointer (some ⟨c', 0, none⟩)) ∧ Rs w' w.heap.size c' rise fall [] bs' ∧ Below w.heap.size w w' := by
  have c0 : w.cell? ⟨c, 0, none⟩ = some (.int .i64 rise) := by simp [World.cell?, h1]
  have c1 : w.cell? ⟨c, 1, none⟩ = some (.int .i64 fall) := by simp [World.cell?, h1]
  have c2 : w.cell? ⟨c, 2, none⟩ = some (.slice none 0 0) := by simp [World.cell?, h1]
  have hB : Below w.heap.size w (w.alloc (.cells #[] 34 (0, 0))).drew := ((Below.refl _ w).alloc (Nat.le_refl _) _).drew
  have HB := hide2 hB
  have HC := hide2 (And.intro c0 (And.intro c1 c2))
  clear h1 hB
  go_enter Try.func15, Try.ntmps15
  go_wp2_with fail
  go_region_held3 (fun w' => w'.cell? ⟨c, 0, none⟩ = some (.int .i64 rise) ∧ w'.cell? ⟨c, 1, none⟩ = some (.int .i64 fall) ∧ w'.cell? ⟨c, 2, none⟩ = some (.slice none 0 0)) (go_keep) (fail)
  go_wp2
  go_ret
  have hsz : (w.alloc (.cells #[] 34 (0, 0))).heap.size = w.heap.size + 1 := Array.size_push _
  have hB2 : Below (w.heap.size + 1) (w.alloc (.cells #[] 34 (0, 0))) ((w.alloc (.cells #[] 34 (0, 0))).alloc (.cells #[.int .i64 rise, .int .i64 fall, .slice (some ⟨w.heap.size, 0, none⟩) 0 0] 56 (0, 0))) := (Below.refl _ _).alloc (by rw [hsz]; omega) _
  refine ⟨w.heap.size + 1, _, rfl, ⟨some ⟨w.heap.size, 0, none⟩, 0, ?_, ?_, by omega, rfl⟩, (((Below.refl _ w).alloc (Nat.le_refl _) _).alloc (by simp) _).drew⟩
  · have := Go.heap_alloc_new (w.alloc (.cells #[] 34 (0, 0))) (.cells #[.int .i64 rise, .int .i64 fall, .slice (some ⟨w.heap.size, 0, none⟩) 0 0] 56 (0, 0))
    rw [hsz] at this
    exact this
  · exact own2_block (own_none w) (fun k hk => by cases hk; exact hB2.block _ (by simp))
theorem rcopy_nil (w : World) : Calls Try.prog 15 #[.pointer none] w fun e w' => e = .returned (.pointer none) ∧ w' = w := by
  go_enter Try.func15, Try.ntmps15
  go_wp2_with fail
  go_ret
  exact ⟨rfl, rfl⟩
/-- a copy of the document's state -/
theorem rcopy_any (v : Value) (base : Nat) (bs : List Nat) (o : Option St) (w : World) (h : Rv w base v bs o) :
    Calls Try.prog 15 #[v] w fun e w' => ∃ v' bs', e = .returned v' ∧ Rv w' w.heap.size v' bs' o ∧ Below w.heap.size w w' := by
  cases h with
  | nil =>
    refine (rcopy_nil w).mono ?_
    rintro e w' ⟨rfl, rfl⟩
    exact ⟨_, _, rfl, .nil, Below.refl _ _⟩
  | at_ c rise fall L bs h hT hn hL =>
    obtain ⟨a, cap, h1, h2, h6, rfl⟩ := h
    by_cases ha : a = none
    · subst ha
      have e : L.length = 0 ∧ cap = 0 := by
        rcases h2.2 with ⟨e, _⟩ | ⟨g, cp, cur, e, _⟩
        · injection e with _ e1 e2; exact ⟨e1, e2⟩
        · cases e
      obtain ⟨e1, rfl⟩ := e
      have e2 : L = [] := List.length_eq_zero_iff.1 e1
      subst e2
      refine (rcopy_none base c rise fall w h1).mono ?_
      rintro e w' ⟨c', bs', rfl, hr, hb⟩
      exact ⟨_, _, rfl, .at_ c' rise fall [] bs' hr hT (by simp) (by simp), hb⟩
    · have : ∃ g, a = some ⟨g, 0, none⟩ := by
        rcases h2.2 with ⟨e, _⟩ | ⟨g, cp, cur, e, _⟩
        · injection e with e1; exact absurd e1 ha
        · injection e with e1; exact ⟨g, e1⟩
      obtain ⟨g, rfl⟩ := this
      refine (rcopy_some base c rise fall g cap L w h1 h2 hn).mono ?_
      rintro e w' ⟨c', bs', rfl, hr, hb⟩
      exact ⟨_, _, rfl, .at_ c' rise fall L bs' hr hT hn hL, hb⟩
theorem Rv.keep {w w' : World} {base : Nat} {v : Value} {bs : List Nat} {o : Option St} (h : Rv w base v bs o) (hk : ∀ k ∈ bs, w'.heap[k]? = w.heap[k]?) : Rv w' base v bs o := by
  cases h with
  | nil => exact .nil
  | at_ c rise fall L bs h hT hn hL => exact .at_ c rise fall L bs (h.keep hk) hT hn hL
theorem Rv.lt {w : World} {base : Nat} {v : Value} {bs : List Nat} {o : Option St} (h : Rv w base v bs o) : ∀ k ∈ bs, base ≤ k ∧ k < w.heap.size := by
  cases h with
  | nil => intro k hk; cases hk
  | at_ c rise fall L bs h hT hn hL => exact h.lt
theorem Rv.below {w w' : World} {base : Nat} {v : Value} {bs : List Nat} {o : Option St} (h : Rv w base v bs o) (g : Below w.heap.size w w') : Rv w' base v bs o := h.keep fun k hk => g.block k (h.lt k hk).2
set_option maxRecDepth 100000 in
theorem rslower_any (v u : Value) (base base2 : Nat) (bs cs : List Nat) (o p : Option St) (w : World) (h : Rv w base v bs o) (g : Rv w base2 u cs p) (ho : tookO o < INF) (hp : tookO p < INF) :
    Calls Try.prog 18 #[v, u] w fun e w' => e = .returned (.bool (slowF o p)) ∧ Below w.heap.size w w' := by
  have hn := nowv_any base v bs o w h
  have hg := gt_pos ho hp
  have HG := hide2 g
  have st := st_float
  obtain ⟨R, hR⟩ : ∃ R, slowF o p = R := ⟨_, rfl⟩
  have HR := hide2 hR
  rw [hR]
  clear h g ho hp hR
  go_enter Try.func18, Try.ntmps18
  go_wp2_with (first
    | (go_at_call_of 31 [v]; refine hn.mono ?_; rintro e w1 ⟨rfl, hb1⟩; unfold nowV; obtain ⟨wa, hwa⟩ : ∃ wa, w1.alloc (.cells #[.bool (upO o), .int .i64 (rowO o), .float .f64 (tookO o), .int .i64 (timedO o), .int .i64 (turnsO o)] 61 (0, 0)) = wa := ⟨_, rfl⟩; have HA := hide2 hwa; have HB1 := hide2 (hb1.trans (hwa ▸ ((Below.refl _ w1).alloc (Nat.le_refl _) _).mono hb1.size)); have HK1 := hide2 (show wa.heap[w1.heap.size]? = some (.cells #[.bool (upO o), .int .i64 (rowO o), .float .f64 (tookO o), .int .i64 (timedO o), .int .i64 (turnsO o)] 61 (0, 0)) from hwa ▸ Go.heap_alloc_new _ _); have hn2 := nowv_any base2 u cs p _ (HG.out.below HB1.out); clear hn))
  refine hn2.mono ?_
  rintro e w2 ⟨rfl, hb2⟩
  unfold nowV
  obtain ⟨wb, hwb⟩ : ∃ wb, w2.alloc (.cells #[.bool (upO p), .int .i64 (rowO p), .float .f64 (tookO p), .int .i64 (timedO p), .int .i64 (turnsO p)] 61 (0, 0)) = wb := ⟨_, rfl⟩
  have hb3 : Below wa.heap.size wa wb := hb2.trans (hwb ▸ ((Below.refl _ w2).alloc (Nat.le_refl _) _).mono hb2.size)
  have HB2 := hide2 (HB1.out.trans (hb3.mono HB1.out.size))
  have hk1 : wb.heap[w1.heap.size]? = some (.cells #[.bool (upO o), .int .i64 (rowO o), .float .f64 (tookO o), .int .i64 (timedO o), .int .i64 (turnsO o)] 61 (0, 0)) := (hb3.block _ (lt_of_block HK1.out)).trans HK1.out
  have hk2 : wb.heap[w2.heap.size]? = some (.cells #[.bool (upO p), .int .i64 (rowO p), .float .f64 (tookO p), .int .i64 (timedO p), .int .i64 (turnsO p)] 61 (0, 0)) := hwb ▸ Go.heap_alloc_new _ _
  have m2 : wb.cell? ⟨w1.heap.size, 2, none⟩ = some (.float .f64 (tookO o)) := by simp [World.cell?, hk1]
  have m3 : wb.cell? ⟨w1.heap.size, 3, none⟩ = some (.int .i64 (timedO o)) := by simp [World.cell?, hk1]
  have n2 : wb.cell? ⟨w2.heap.size, 2, none⟩ = some (.float .f64 (tookO p)) := by simp [World.cell?, hk2]
  have n3 : wb.cell? ⟨w2.heap.size, 3, none⟩ = some (.int .i64 (timedO p)) := by simp [World.cell?, hk2]
  have HR2 : Hid (R = (decide (0 < timedO o) && (decide (0 < timedO p) && decide (tookO p < tookO o)))) := HR.out.symm
  clear hn2 hb2 hb3 hk1 hk2 HK1 hwa hb1
  generalize upO o = x0 at *
  generalize rowO o = x1 at *
  generalize tookO o = x2 at *
  generalize timedO o = x3 at *
  generalize turnsO o = x4 at *
  generalize upO p = y0 at *
  generalize rowO p = y1 at *
  generalize tookO p = y2 at *
  generalize timedO p = y3 at *
  generalize turnsO p = y4 at *
  by_cases a1 : 0 < x3
  · by_cases a2 : 0 < y3
    · cases hd : decide (y2 < x2) with
      | true =>
        have HE : Hid (R = true) := by unfold Hid; rw [HR2.out, decide_eq_true a1, decide_eq_true a2, hd]; rfl
        rw [hd] at hg
        clear hd HR2 HR
        go_wp2_with fail
        go_ret
        exact ⟨by rw [HE.out]; rfl, HB2.out⟩
      | false =>
        have HE : Hid (R = false) := by unfold Hid; rw [HR2.out, decide_eq_true a1, decide_eq_true a2, hd]; rfl
        rw [hd] at hg
        clear hd HR2 HR
        go_wp2_with fail
        go_ret
        exact ⟨by rw [HE.out]; rfl, HB2.out⟩
    · have HE : Hid (R = false) := by unfold Hid; rw [HR2.out, decide_eq_false a2]; simp
      clear HR2 HR hg
      go_wp2_with fail
      go_ret
      exact ⟨by rw [HE.out]; rfl, HB2.out⟩
  · have HE : Hid (R = false) := by unfold Hid; rw [HR2.out, decide_eq_false a1]; rfl
    clear HR2 HR hg
    go_wp2_with fail
    go_ret
    exact ⟨by rw [HE.out]; rfl, HB2.out⟩
end Go.Proofs.Ytlgpohjffahbcaa
