/- Both states behind a run. -/
import Derived.Test.YtlgpohjffahbcaaHg
import Derived.Test.YtlgpohjffahbcaaOp
namespace Go.Proofs.Ytlgpohjffahbcaa
open Go.RowKit Ieee
set_option linter.unusedVariables false
set_option linter.unusedSimpArgs false
abbrev Dt := Option (Int × Int × List (Bool × Nat))
inductive Rd (w : World) (base : Nat) : Value → List Nat → Dt → Prop
  | nil : Rd w base (.pointer none) [] none
  | at_ (c : Nat) (r f : Int) (L : List (Bool × Nat)) (bs : List Nat) (h : Rs w base c r f L bs) : Rd w base (.pointer (some ⟨c, 0, none⟩)) bs (some (r, f, L))
def stO (o : Dt) : Option St := o.map fun x => runL (St.new x.1 x.2.1) x.2.2
def addO (o : Dt) (ok : Bool) (t : Nat) : Dt := o.map fun x => (x.1, x.2.1, x.2.2 ++ [(ok, t)])
theorem stO_add (o : Dt) (ok : Bool) (t : Nat) : stO (addO o ok t) = (stO o).map (·.probe ok t) := by
  cases o with
  | none => rfl
  | some x => show some (runL _ (x.2.2 ++ [(ok, t)])) = some ((runL _ x.2.2).probe ok t); rw [runL_append]; rfl
structure OkD (o : Dt) (n : Nat) : Prop where
  ok : ∀ x, o = some x → okT x.1 x.2.1
  len : ∀ x, o = some x → x.2.2.length ≤ n
  lt : ∀ x, o = some x → ∀ p ∈ x.2.2, p.2 < 18446744073709551616
theorem OkD.add {o : Dt} {n : Nat} (h : OkD o n) (ok : Bool) (t : Nat) (ht : t < 18446744073709551616) : OkD (addO o ok t) (n + 1) := by
  cases o with
  | none => exact ⟨(fun x hx => by cases hx), (fun x hx => by cases hx), (fun x hx => by cases hx)⟩
  | some y =>
    refine ⟨(fun x hx => ?_), (fun x hx => ?_), (fun x hx p hp => ?_)⟩
    · injection hx with hx; subst hx; exact h.ok y rfl
    · injection hx with hx; subst hx
      have := h.len y rfl
      show (y.2.2 ++ [(ok, t)]).length ≤ n + 1
      simp; omega
    · injection hx with hx; subst hx
      rcases List.mem_append.1 hp with hp | hp
      · exact h.lt y rfl p hp
      · simp at hp; subst hp; exact ht
theorem OkD.st {o : Dt} {n : Nat} (h : OkD o n) : ∀ s, stO o = some s → Ok s n := by
  intro s hs
  cases o with
  | none => cases hs
  | some x =>
    have hs : some (runL (St.new x.1 x.2.1) x.2.2) = some s := hs
    injection hs with hs
    subst hs
    have h1 := (Ok.new (h.ok x rfl)).run (L := x.2.2)
    have h2 := h.len x rfl
    exact ⟨h1.f1, h1.r1, h1.u1, h1.d1, by have := h1.row; omega, by have := h1.turns; omega, h1.took, by have := h1.timed; omega⟩
theorem Rd.rv {w : World} {base : Nat} {u : Value} {bs : List Nat} {o : Dt} (h : Rd w base u bs o) (hO : OkD o 900) : Rv w base u bs (stO o) := by
  cases h with
  | nil => exact .nil
  | at_ c r f L bs h => exact .at_ c r f L bs h (hO.ok _ rfl) (hO.len _ rfl) (hO.lt _ rfl)
theorem Rd.lt {w : World} {base : Nat} {v : Value} {bs : List Nat} {o : Dt} (h : Rd w base v bs o) : ∀ k ∈ bs, base ≤ k ∧ k < w.heap.size := by
  cases h with
  | nil => intro k hk; cases hk
  | at_ c rise fall L bs h => exact h.lt
theorem Rd.keep {w w' : World} {base : Nat} {v : Value} {bs : List Nat} {o : Dt} (h : Rd w base v bs o) (hk : ∀ k ∈ bs, w'.heap[k]? = w.heap[k]?) : Rd w' base v bs o := by
  cases h with
  | nil => exact .nil
  | at_ c rise fall L bs h => exact .at_ c rise fall L bs (h.keep hk)
def errO {α : Type} (o : Option α) : Int := if o.isSome then 0 else 1
theorem pprobe_any (v : Value) (b : Option Nat) (o : Option St) (n : Nat) (ok : Bool) (t : Nat) (w : World) (h : Pv w v b o) (hs : ∀ s, o = some s → Ok s n) (hn : n ≤ 900000) (ht : t < 18446744073709551616) :
    Calls Try.prog 11 #[v, .bool ok, .float .f64 t] w fun e w' => e = .returned (.int .i64 (errO o)) ∧ Pv w' v b (o.map (·.probe ok t)) ∧ Stp w w' b.toList b.toList := by
  cases h with
  | nil =>
    refine (probe_nil ok t w).mono ?_
    rintro e w' ⟨rfl, rfl⟩
    exact ⟨rfl, .nil, Stp.refl _ _⟩
  | at_ b s h =>
    refine (probe_any b s n ok t w h (hs s rfl) hn ht).mono ?_
    rintro e w' ⟨rfl, h1, h2⟩
    exact ⟨rfl, .at_ b _ h1, h2⟩
theorem rprobeD_any (base : Nat) (v : Value) (bs : List Nat) (o : Dt) (ok : Bool) (t : Nat) (w : World) (h : Rd w base v bs o) (hbase : base ≤ w.heap.size) (hn : ∀ x, o = some x → x.2.2.length ≤ 1000000) :
    Calls Try.prog 12 #[v, .bool ok, .float .f64 t] w fun e w' => e = .returned (.int .i64 (errO o)) ∧ ∃ bs', Rd w' base v bs' (addO o ok t) ∧ Stp w w' bs bs' := by
  cases h with
  | nil =>
    refine (rprobe_nil ok t w).mono ?_
    rintro e w' ⟨rfl, rfl⟩
    exact ⟨rfl, [], .nil, Stp.refl _ _⟩
  | at_ c r f L bs h =>
    refine (rprobe_any base c r f L bs ok t w h hbase (hn _ rfl)).mono ?_
    rintro e w' ⟨rfl, bs', h1, h2⟩
    exact ⟨rfl, bs', .at_ c r f _ bs' h1, h2⟩
/-- the program's state and the document's, side by side -/
structure Two (w : World) (base : Nat) (v : Value) (b : Option Nat) (u : Value) (bs : List Nat) (o : Dt) : Prop where
  pv : Pv w v b (stO o)
  rd : Rd w base u bs o
  apart : ∀ k, b = some k → base ≤ k ∧ k ∉ bs
theorem Pv.lt {w : World} {v : Value} {b : Option Nat} {o : Option St} (h : Pv w v b o) : ∀ k, b = some k → k < w.heap.size := by
  cases h with
  | nil => intro k hk; cases hk
  | at_ b s h => intro k hk; cases hk; exact lt_of_block h
theorem Pv.keep {w w' : World} {v : Value} {b : Option Nat} {o : Option St} (h : Pv w v b o) (g : ∀ k, b = some k → w'.heap[k]? = w.heap[k]?) : Pv w' v b o := by
  cases h with
  | nil => exact .nil
  | at_ b s h => exact .at_ b s ((g b rfl).trans h)
theorem Two.below {w w' : World} {base : Nat} {v : Value} {b : Option Nat} {u : Value} {bs : List Nat} {o : Dt} (h : Two w base v b u bs o) (g : Below w.heap.size w w') : Two w' base v b u bs o :=
  ⟨h.pv.below g, h.rd.keep fun k hk => g.block k (h.rd.lt k hk).2, h.apart⟩
/-- the program's step done -/
structure Mid (w : World) (base : Nat) (v : Value) (b : Option Nat) (u : Value) (bs : List Nat) (o : Dt) (ok : Bool) (t : Nat) : Prop where
  pv : Pv w v b ((stO o).map (·.probe ok t))
  rd : Rd w base u bs o
  apart : ∀ k, b = some k → base ≤ k ∧ k ∉ bs
theorem Two.half {w w' : World} {base : Nat} {v : Value} {b : Option Nat} {u : Value} {bs : List Nat} {o : Dt} {ok : Bool} {t : Nat} (h : Two w base v b u bs o) (hp : Pv w' v b ((stO o).map (·.probe ok t))) (hs : Stp w w' b.toList b.toList) : Mid w' base v b u bs o ok t :=
  ⟨hp, h.rd.keep fun k hk => hs.old k (h.rd.lt k hk).2 (fun hm => by
    have : b = some k := by simpa using hm
    exact (h.apart k this).2 hk), h.apart⟩
theorem Mid.whole {w w' : World} {base : Nat} {v : Value} {b : Option Nat} {u : Value} {bs bs' : List Nat} {o : Dt} {ok : Bool} {t : Nat} (h : Mid w base v b u bs o ok t) (hr : Rd w' base u bs' (addO o ok t)) (hs : Stp w w' bs bs') : Two w' base v b u bs' (addO o ok t) :=
  ⟨by
    rw [stO_add]
    exact h.pv.keep fun k hk => hs.old k (h.pv.lt k hk) (h.apart k hk).2, hr, fun k hk => ⟨(h.apart k hk).1, fun hm => (hs.new k hm).elim (h.apart k hk).2 (fun h1 => by have := h.pv.lt k hk; omega)⟩⟩
theorem Mid.drew {w : World} {base : Nat} {v : Value} {b : Option Nat} {u : Value} {bs : List Nat} {o : Dt} {ok : Bool} {t : Nat} (h : Mid w base v b u bs o ok t) : Mid w.drew base v b u bs o ok t :=
  ⟨h.pv.keep fun _ _ => rfl, h.rd.keep fun _ _ => rfl, h.apart⟩
theorem Two.drew {w : World} {base : Nat} {v : Value} {b : Option Nat} {u : Value} {bs : List Nat} {o : Dt} (h : Two w base v b u bs o) : Two w.drew base v b u bs o :=
  ⟨h.pv.keep fun _ _ => rfl, h.rd.keep fun _ _ => rfl, h.apart⟩
def bothO (r : Ru) (n : Nat) : Dt := if okT r.rise r.fall then some (r.rise, r.fall, r.L.take n) else none
theorem bothO_ok {W : World} {r : Ru} (h : Rin W r) (n : Nat) : OkD (bothO r n) n := by
  unfold bothO
  split
  · rename_i hT
    refine ⟨(fun x hx => ?_), (fun x hx => ?_), (fun x hx p hp => ?_)⟩
    · cases hx; exact hT
    · cases hx
      show (r.L.take n).length ≤ n
      rw [List.length_take]; omega
    · cases hx; exact h.p.ok p (List.mem_of_mem_take hp)
  · exact ⟨(fun x hx => by cases hx), (fun x hx => by cases hx), (fun x hx => by cases hx)⟩
theorem take_one (L : List (Bool × Nat)) (k : Nat) (h : k < L.length) : L.take (k + 1) = L.take k ++ [L.getD k (false, 0)] := by
  rw [List.take_add_one, List.getD_eq_getElem?_getD, List.getElem?_eq_getElem h]; rfl
theorem bothO_more (r : Ru) (k : Nat) (h : k < r.L.length) : bothO r (k + 1) = addO (bothO r k) (r.L.getD k (false, 0)).1 (r.L.getD k (false, 0)).2 := by
  unfold bothO addO
  split
  · rw [take_one _ _ h]; rfl
  · rfl
def newV (o : Dt) (k : Nat) : Value := if o.isSome then .pointer (some ⟨k, 0, none⟩) else .pointer none
def newE (o : Dt) : Int := if o.isSome then 0 else 2
/-- New, of both -/
theorem new_two (r : Ru) (W w : World) (hR : Rin W r) : Calls Try.prog 9 #[.int .i64 r.rise, .int .i64 r.fall] w fun e w1 => ∃ v b, e = .returned (.tuple #[v, .int .i64 (newE (bothO r 0))]) ∧ Pv w1 v b (stO (bothO r 0)) ∧ (∀ k, b = some k → k = w.heap.size) ∧ Below w.heap.size w w1 ∧ (v = .pointer none ↔ bothO r 0 = none) := by
  by_cases hT : okT r.rise r.fall
  · have e0 : bothO r 0 = some (r.rise, r.fall, []) := by unfold bothO; rw [if_pos hT]; rfl
    rw [e0]
    refine (new_ok r.rise r.fall w hT).mono ?_
    rintro e w1 ⟨rfl, h1, h2⟩
    exact ⟨_, some w.heap.size, rfl, .at_ _ _ h1, (fun k hk => by cases hk; rfl), h2, by simp⟩
  · have e0 : bothO r 0 = none := by unfold bothO; rw [if_neg hT]
    rw [e0]
    refine (new_no r.rise r.fall w hR.r1 hR.f1 hT).mono ?_
    rintro e w1 ⟨rfl, rfl⟩
    exact ⟨_, none, rfl, .nil, (fun k hk => by cases hk), Below.refl _ _, by simp⟩
theorem rnew_two (r : Ru) (W w : World) (hR : Rin W r) : Calls Try.prog 10 #[.int .i64 r.rise, .int .i64 r.fall] w fun e w1 => ∃ u bs, e = .returned (.tuple #[u, .int .i64 (newE (bothO r 0))]) ∧ (∀ base, base ≤ w.heap.size → Rd w1 base u bs (bothO r 0)) ∧ (∀ k ∈ bs, k = w.heap.size) ∧ Below w.heap.size w w1 ∧ (u = .pointer none ↔ bothO r 0 = none) := by
  by_cases hT : okT r.rise r.fall
  · have e0 : bothO r 0 = some (r.rise, r.fall, []) := by unfold bothO; rw [if_pos hT]; rfl
    rw [e0]
    refine (rnew_ok r.rise r.fall w hT).mono ?_
    rintro e w1 ⟨rfl, h1, h2⟩
    exact ⟨_, [w.heap.size], rfl, (fun base hb => .at_ _ _ _ _ _ (h1 base hb)), (fun k hk => by simpa using hk), h2, by simp⟩
  · have e0 : bothO r 0 = none := by unfold bothO; rw [if_neg hT]
    rw [e0]
    refine (rnew_no r.rise r.fall w hR.r1 hR.f1 hT).mono ?_
    rintro e w1 ⟨rfl, rfl⟩
    exact ⟨_, [], rfl, (fun base hb => .nil), (fun k hk => by cases hk), Below.refl _ _, by simp⟩
end Go.Proofs.Ytlgpohjffahbcaa
