import Derived.Test.YthfmepnlbaifcaaDoorRj
import Derived.Test.YthfmepnlbaifcaaDoorRw
import Derived.Test.YthfmepnlbaifcaaDoorFu
import Derived.Test.YthfmepnlbaifcaaDoorDt
import Derived.Laws.BitsAllLaws
/-
  The classes of words, and what the comparisons say of each; reals that are the same.
-/
namespace Go.Proofs.YthfmepnlbaifcaaDoor
open Go.RowKit Ieee
set_option linter.unusedVariables false
set_option linter.unusedSimpArgs false
theorem ng_split {x : Nat} (hx : x < 18446744073709551616) : x = rg x + (if ng x = true then 9223372036854775808 else 0) := by
  unfold rg ng
  cases h : (x / 2 ^ 63 % 2 == 1) with
  | true => rw [if_pos rfl]; rw [beq_iff_eq] at h; omega
  | false => rw [if_neg (by decide)]; rw [beq_eq_false_iff_ne] at h; omega
theorem rg_bd (x : Nat) : rg x < 9223372036854775808 := by unfold rg; omega
theorem word_cases {x : Nat} (hx : x < 18446744073709551616) : INF < rg x ∨ x = INF ∨ x = NINF ∨ x = 0 ∨ x = MZ ∨ (0 < rg x ∧ rg x < INF) := by
  have h := ng_split hx
  rcases Nat.lt_trichotomy (rg x) INF with hl | hl | hl
  · rcases Nat.eq_zero_or_pos (rg x) with hz | hz
    · rw [hz] at h
      split at h
      · exact .inr (.inr (.inr (.inr (.inl h))))
      · exact .inr (.inr (.inr (.inl h)))
    · exact .inr (.inr (.inr (.inr (.inr ⟨hz, hl⟩))))
  · rw [hl] at h
    split at h
    · exact .inr (.inr (.inl h))
    · exact .inr (.inl h)
  · exact .inl hl
theorem nan_self {x : Nat} (h : INF < rg x) : (FloatKind.f64.format.order x x != some .eq) = true := by
  show (double.order x x != some .eq) = true
  rw [order_nan x x (.inl h)]; rfl
theorem num_self {x : Nat} (hx : x < 18446744073709551616) (h : ¬ INF < rg x) : (FloatKind.f64.format.order x x != some .eq) = false := by
  rcases word_cases hx with h1 | rfl | rfl | rfl | rfl | h1
  · exact absurd h1 h
  · decide +kernel
  · decide +kernel
  · decide +kernel
  · decide +kernel
  · show (double.order x x != some .eq) = false
    rw [order_self h1.2]; rfl
theorem sv_nmax : sv 18442240474082181119 = -(V MAX : Int) := by
  unfold sv
  rw [show ng 18442240474082181119 = true by decide, show rg 18442240474082181119 = MAX by decide, if_pos rfl]
theorem ord_gt {x y : Nat} (hx : rg x < INF) (hy : rg y < INF) : (double.order x y == some .gt) = decide (sv y < sv x) := by
  rw [order_fin x y hx hy]
  show (compare _ _ == .gt) = _
  rw [cmp_gt]
theorem ord_lt {x y : Nat} (hx : rg x < INF) (hy : rg y < INF) : (double.order x y == some .lt) = decide (sv x < sv y) := by
  rw [order_fin x y hx hy]
  show (compare _ _ == .lt) = _
  rw [cmp_lt]
theorem ord_eq {x y : Nat} (hx : rg x < INF) (hy : rg y < INF) : (double.order x y == some .eq) = decide (sv x = sv y) := by
  rw [order_fin x y hx hy]
  show (compare _ _ == .eq) = _
  rw [cmp_eq]
/-- what the comparisons say of a word that is neither nought nor infinite -/
structure Fin1 (x : Nat) : Prop where
  self : (FloatKind.f64.format.order x x != some .eq) = false
  max : (FloatKind.f64.format.order x 9218868437227405311 == some .gt) = false
  min : (FloatKind.f64.format.order x 18442240474082181119 == some .lt) = false
  zero : (FloatKind.f64.format.order x 0 == some .eq) = false
  low : (FloatKind.f64.format.order x 0 == some .lt) = ng x
theorem fin1 {x : Nat} (h : 0 < rg x ∧ rg x < INF) : Fin1 x := by
  have hv := V_pos h.1
  refine ⟨?_, ?_, ?_, ?_, ?_⟩
  · show (double.order x x != some .eq) = false
    rw [order_self h.2]; rfl
  · exact (ord_gt h.2 (by decide)).trans (decide_eq_false (Int.not_lt.2 (sv_le h.2)))
  · refine (ord_lt h.2 (by decide)).trans (decide_eq_false ?_)
    rw [sv_nmax]
    have hm := V_le h.2
    unfold sv
    generalize V MAX = M at *
    split <;> omega
  · show (double.order x 0 == some .eq) = false
    rw [order_fin x 0 h.2 (by decide), sv_zero]
    show (compare _ _ == .eq) = false
    rw [cmp_eq, decide_eq_false_iff_not]
    unfold sv
    split <;> omega
  · show (double.order x 0 == some .lt) = ng x
    rw [order_fin x 0 h.2 (by decide), sv_zero]
    show (compare _ _ == .lt) = ng x
    rw [cmp_lt]
    unfold sv
    cases ng x with
    | true => rw [if_pos rfl, decide_eq_true_eq]; omega
    | false => rw [if_neg (by decide), decide_eq_false_iff_not]; omega
theorem belB_ng {x : Nat} (hx : x < 18446744073709551616) (h : ¬ INF < rg x) : belB x = ng x := by
  rcases word_cases hx with h1 | rfl | rfl | rfl | rfl | h1
  · exact absurd h1 h
  · decide +kernel
  · decide +kernel
  · decide +kernel
  · decide +kernel
  · have f := fin1 h1
    unfold belB
    rw [show (double.order x 0 == some .lt) = ng x from f.low, show (double.order x 0 == some .eq) = false from f.zero]
    simp
/-- the same reals -/
def smR (x y : Nat) : Bool := ((double.order x x != some .eq) && (double.order y y != some .eq)) || ((double.order x y == some .eq) && (belB x == belB y))
end Go.Proofs.YthfmepnlbaifcaaDoor

/-
  The program's text of a real.
-/
namespace Go.Proofs.YthfmepnlbaifcaaDoor
open Go.RowKit Ieee
set_option linter.unusedVariables false
set_option linter.unusedSimpArgs false
def endD : Option (Nat × Int) → Ending
  | some (M, k) => .returned (.tuple #[.int .u64 M, .int .i64 k, .int .i64 0])
  | none => .returned (.tuple #[.int .u64 0, .int .i64 0, .int .i64 2])
theorem decA_ex (x : Nat) : ∃ d, DecA x (endD d) := by
  have : ∀ n : Nat, (∃ d, DecA x (endD d)) ∨ ∀ k' M', 22 - (n : Int) < k' → k' ≤ 22 → ¬ Hit x k' M' := by
    intro n
    induction n with
    | zero => right; intro k' M' h1 h2; omega
    | succ n ih =>
      rcases ih with h | h
      · exact .inl h
      · by_cases hk : -22 ≤ 22 - (n : Int)
        · by_cases hM : ∃ M, Hit x (22 - (n : Int)) M
          · obtain ⟨M, hM⟩ := hM
            exact .inl ⟨some (M, 22 - (n : Int)), .inl ⟨_, M, hk, by omega, hM, h, rfl⟩⟩
          · right
            intro k' M' h1 h2
            by_cases e : k' = 22 - (n : Int)
            · subst e; exact fun hh => hM ⟨M', hh⟩
            · exact h k' M' (by omega) h2
        · exact .inl ⟨none, .inr ⟨fun k' M' h1 h2 => h k' M' (by omega) h2, rfl⟩⟩
  rcases this 45 with h | h
  · exact h
  · exact ⟨none, .inr ⟨fun k' M' h1 h2 => h k' M' (by omega) h2, rfl⟩⟩
theorem decA_some {x M : Nat} {k : Int} (h : DecA x (endD (some (M, k)))) : -22 ≤ k ∧ k ≤ 22 ∧ Hit x k M := by
  rcases h with ⟨k', M', k1, k2, hh, _, e⟩ | ⟨_, e⟩
  · simp [endD] at e
    obtain ⟨e1, e2⟩ := e
    have e1 : M = M' := by omega
    subst e1 e2
    exact ⟨k1, k2, hh⟩
  · simp [endD] at e
theorem decT_len {m : Nat} {k : Int} (hm2 : m < 1000000000000000) (k1 : -22 ≤ k) (k2 : k ≤ 22) : (decT m k).length ≤ 1000 := by
  have n2 : (Lib.decDigits m).length ≤ 15 := dd_len (j := 15) (by omega) (by decide)
  unfold decT
  generalize Lib.decDigits m = d at *
  split
  · simp only [List.length_append, List.length_cons, List.length_take, List.length_drop, List.length_replicate]
    omega
  · split
    · simp only [List.length_append, List.length_cons, List.length_replicate, List.length_nil]
      omega
    · have p1 : (Lib.decDigits k.natAbs).length ≤ 2 := dd_len (by omega) (by decide)
      have p2 : (Lib.decDigits (k.natAbs + d.length - 1)).length ≤ 2 := dd_len (by omega) (by decide)
      split
      · simp only [List.length_append, List.length_cons, List.length_nil]
        omega
      · simp only [List.length_append, List.length_cons, List.length_take, List.length_drop]
        omega
def sg (b : Bool) (l : List UInt8) : List UInt8 := if b = true then 45 :: l else l
def realT (x : Nat) (d : Option (Nat × Int)) : List UInt8 :=
  if INF < rg x then [46, 110, 97, 110]
  else if rg x = INF then sg (ng x) [46, 105, 110, 102]
  else if rg x = 0 then sg (ng x) [48, 46, 48]
  else match d with
  | none => []
  | some (M, k) => sg (ng x) (decT M k)
def realE (x : Nat) (d : Option (Nat × Int)) : Int := if 0 < rg x ∧ rg x < INF ∧ d = none then 2 else 0
theorem bits_not {x : Nat} (hx : x < 18446744073709551616) : bits BinOp.andNot IntKind.u64 (x : Int) 9223372036854775808 = (rg x : Int) := by
  have h := u64_andNot_nat x 9223372036854775808 hx (by decide)
  have e : (x &&& (18446744073709551615 - 9223372036854775808)) = rg x := by
    show (x &&& (2 ^ 63 - 1)) = rg x
    rw [Nat.and_two_pow_sub_one_eq_mod]
    rfl
  rw [e] at h
  exact h
theorem abs_any (x : Nat) (hx : x < 18446744073709551616) (w : World) : Calls Tryd.prog 50 #[.float .f64 x] w fun e w' => e = .returned (.float .f64 (rg x)) ∧ w' = w := by
  have hb := bits_run x w
  have hn := bits_not hx
  have hf := from_run (rg x : Int) w
  rw [Int.toNat_natCast] at hf
  go_enter Tryd.func50, Tryd.ntmps50
  go_wp2
  go_ret
  exact ⟨rfl, rfl⟩
theorem quo_mz : floatBits .quo .f64 ONE MZ = some NINF := by decide +kernel
theorem quo_z : floatBits .quo .f64 ONE 0 = some INF := by decide +kernel
set_option maxRecDepth 100000 in
theorem rtext_none (x : Nat) (w : World) (hx : x < 18446744073709551616) (h : 0 < rg x ∧ rg x < INF) (hd : DecA (rg x) (endD none)) :
    Calls Tryd.prog 29 #[.float .f64 x] w fun e w' => e = .returned (.tuple #[.string ⟨#[]⟩, .int .i64 2]) ∧ Below w.heap.size w w' := by
  have HD := hide2 (And.intro h hd)
  obtain ⟨c1, c2, c3, c4, c5⟩ := fin1 h
  have ha := abs_any x hx w
  have hdec : Calls Tryd.prog 19 #[.float .f64 (rg x)] w fun e w' => e = .returned (.tuple #[.int .u64 0, .int .i64 0, .int .i64 2]) ∧ w' = w := by
    refine (dec_yes w h.1 h.2).mono ?_
    rintro e w' ⟨he, rfl⟩
    exact ⟨he.one hd, rfl⟩
  clear hd h hx c5
  generalize rg x = y at *
  go_enter Tryd.func29, Tryd.ntmps29
  go_wp2_with (first
    | (go_at_call 50; refine ha.mono ?_; rintro e w' ⟨rfl, rfl⟩)
    | (go_at_call 19; refine hdec.mono ?_; rintro e w' ⟨rfl, rfl⟩))
  go_ret2
  exact ⟨rfl, Below.refl _ _⟩
set_option maxRecDepth 100000 in
theorem rtext_some (x M : Nat) (k : Int) (w : World) (hT : T10 w) (hx : x < 18446744073709551616) (h : 0 < rg x ∧ rg x < INF) (hd : DecA (rg x) (endD (some (M, k)))) :
    Calls Tryd.prog 29 #[.float .f64 x] w fun e w' => e = .returned (.tuple #[.string ⟨(sg (ng x) (decT M k)).toArray⟩, .int .i64 0]) ∧ Below w.heap.size w w' := by
  obtain ⟨c1, c2, c3, c4, c5⟩ := fin1 h
  have ha := abs_any x hx w
  obtain ⟨k1, k2, hh⟩ := decA_some hd
  have hdt := dtext_any M k w hh.1 hh.2.1 k1 k2 hT
  have hdec : Calls Tryd.prog 19 #[.float .f64 (rg x)] w fun e w' => e = .returned (.tuple #[.int .u64 M, .int .i64 k, .int .i64 0]) ∧ w' = w := by
    refine (dec_yes w h.1 h.2).mono ?_
    rintro e w' ⟨he, rfl⟩
    exact ⟨he.one hd, rfl⟩
  have hl : (decT M k).length ≤ 1000 := decT_len hh.2.1 k1 k2
  clear hd h hx hT hh
  generalize rg x = y at *
  generalize decT M k = t at *
  cases hg : ng x with
  | true =>
    rw [hg] at c5
    clear hg
    go_enter Tryd.func29, Tryd.ntmps29
    go_wp2_with (first
      | (go_at_call 50; refine ha.mono ?_; rintro e w' ⟨rfl, rfl⟩)
      | (go_at_call 19; refine hdec.mono ?_; rintro e w' ⟨rfl, rfl⟩)
      | (go_at_call 51; refine hdt.mono ?_; rintro e w' ⟨rfl, hb⟩))
    go_ret2
    refine ⟨?_, hb⟩
    rw [sadd]
    rfl
  | false =>
    rw [hg] at c5
    clear hg
    go_enter Tryd.func29, Tryd.ntmps29
    go_wp2_with (first
      | (go_at_call 50; refine ha.mono ?_; rintro e w' ⟨rfl, rfl⟩)
      | (go_at_call 19; refine hdec.mono ?_; rintro e w' ⟨rfl, rfl⟩)
      | (go_at_call 51; refine hdt.mono ?_; rintro e w' ⟨rfl, hb⟩))
    go_ret2
    exact ⟨rfl, hb⟩
set_option maxRecDepth 100000 in
theorem rtext_nan (x : Nat) (w : World) (h : INF < rg x) :
    Calls Tryd.prog 29 #[.float .f64 x] w fun e w' => e = .returned (.tuple #[.string ⟨[46, 110, 97, 110].toArray⟩, .int .i64 0]) ∧ Below w.heap.size w w' := by
  have c1 := nan_self h
  clear h
  go_enter Tryd.func29, Tryd.ntmps29
  go_wp2
  go_ret2
  exact ⟨rfl, Below.refl _ _⟩
set_option maxRecDepth 100000 in
theorem rtext_inf (w : World) :
    Calls Tryd.prog 29 #[.float .f64 INF] w fun e w' => e = .returned (.tuple #[.string ⟨[46, 105, 110, 102].toArray⟩, .int .i64 0]) ∧ Below w.heap.size w w' := by
  have c1 : (FloatKind.f64.format.order 9218868437227405312 9218868437227405312 != some .eq) = false := by decide +kernel
  have c2 : (FloatKind.f64.format.order 9218868437227405312 9218868437227405311 == some .gt) = true := by decide +kernel
  go_enter Tryd.func29, Tryd.ntmps29
  go_wp2
  go_ret2
  exact ⟨rfl, Below.refl _ _⟩
set_option maxRecDepth 100000 in
theorem rtext_ninf (w : World) :
    Calls Tryd.prog 29 #[.float .f64 NINF] w fun e w' => e = .returned (.tuple #[.string ⟨[45, 46, 105, 110, 102].toArray⟩, .int .i64 0]) ∧ Below w.heap.size w w' := by
  have c1 : (FloatKind.f64.format.order 18442240474082181120 18442240474082181120 != some .eq) = false := by decide +kernel
  have c2 : (FloatKind.f64.format.order 18442240474082181120 9218868437227405311 == some .gt) = false := by decide +kernel
  have c3 : (FloatKind.f64.format.order 18442240474082181120 18442240474082181119 == some .lt) = true := by decide +kernel
  go_enter Tryd.func29, Tryd.ntmps29
  go_wp2
  go_ret2
  exact ⟨rfl, Below.refl _ _⟩
set_option maxRecDepth 100000 in
theorem rtext_z (w : World) :
    Calls Tryd.prog 29 #[.float .f64 0] w fun e w' => e = .returned (.tuple #[.string ⟨[48, 46, 48].toArray⟩, .int .i64 0]) ∧ Below w.heap.size w w' := by
  have c1 : (FloatKind.f64.format.order 0 0 != some .eq) = false := by decide +kernel
  have c2 : (FloatKind.f64.format.order 0 9218868437227405311 == some .gt) = false := by decide +kernel
  have c3 : (FloatKind.f64.format.order 0 18442240474082181119 == some .lt) = false := by decide +kernel
  have c4 : (FloatKind.f64.format.order 0 0 == some .eq) = true := by decide +kernel
  have c5 : (FloatKind.f64.format.order 9218868437227405312 0 == some .lt) = false := by decide +kernel
  have rQ : (binOp .quo 23 (.float .f64 4607182418800017408) (.float .f64 0)).run Tryd.prog w = .ok (.float .f64 9218868437227405312) w := run_float_arith w .quo 23 .f64 _ _ _ quo_z
  go_enter Tryd.func29, Tryd.ntmps29
  go_wp2
  go_ret2
  exact ⟨rfl, Below.refl _ _⟩
set_option maxRecDepth 100000 in
theorem rtext_mz (w : World) :
    Calls Tryd.prog 29 #[.float .f64 MZ] w fun e w' => e = .returned (.tuple #[.string ⟨[45, 48, 46, 48].toArray⟩, .int .i64 0]) ∧ Below w.heap.size w w' := by
  have c1 : (FloatKind.f64.format.order 9223372036854775808 9223372036854775808 != some .eq) = false := by decide +kernel
  have c2 : (FloatKind.f64.format.order 9223372036854775808 9218868437227405311 == some .gt) = false := by decide +kernel
  have c3 : (FloatKind.f64.format.order 9223372036854775808 18442240474082181119 == some .lt) = false := by decide +kernel
  have c4 : (FloatKind.f64.format.order 9223372036854775808 0 == some .eq) = true := by decide +kernel
  have c5 : (FloatKind.f64.format.order 18442240474082181120 0 == some .lt) = true := by decide +kernel
  have rQ : (binOp .quo 23 (.float .f64 4607182418800017408) (.float .f64 9223372036854775808)).run Tryd.prog w = .ok (.float .f64 18442240474082181120) w := run_float_arith w .quo 23 .f64 _ _ _ quo_mz
  go_enter Tryd.func29, Tryd.ntmps29
  go_wp2
  go_ret2
  exact ⟨rfl, Below.refl _ _⟩
theorem rtext_any (x : Nat) (d : Option (Nat × Int)) (w : World) (hT : T10 w) (hx : x < 18446744073709551616) (hd : DecA (rg x) (endD d)) :
    Calls Tryd.prog 29 #[.float .f64 x] w fun e w' => e = .returned (.tuple #[.string ⟨(realT x d).toArray⟩, .int .i64 (realE x d)]) ∧ Below w.heap.size w w' := by
  unfold realT realE
  rcases word_cases hx with h | rfl | rfl | rfl | rfl | h
  · rw [if_pos h, if_neg (by omega)]
    exact rtext_nan x w h
  · exact rtext_inf w
  · exact rtext_ninf w
  · exact rtext_z w
  · exact rtext_mz w
  · rw [if_neg (by omega), if_neg (by omega), if_neg (by omega)]
    cases d with
    | none => rw [if_pos ⟨h.1, h.2, rfl⟩]; exact rtext_none x w hx h hd
    | some p =>
      rw [if_neg (by simp)]
      exact rtext_some x p.1 p.2 w hT hx h hd
end Go.Proofs.YthfmepnlbaifcaaDoor

/-
  The document's least and Decimal.
-/
namespace Go.Proofs.YthfmepnlbaifcaaDoor
open Go.RowKit Ieee
set_option linter.unusedVariables false
set_option linter.unusedSimpArgs false
/-- what least answers -/
def IsL (x : Nat) (k : Int) (l : Nat) : Prop :=
  (l = 0 ∧ ∀ M, 1 ≤ M → M < 1000000000000000 → V (scF M k) < V x) ∨ (1 ≤ l ∧ l < 1000000000000000 ∧ (∀ M, 1 ≤ M → M < l → V (scF M k) < V x) ∧ V x ≤ V (scF l k))
theorem rsc_at (m : Nat) (M : Int) (hM : (m : Int) = M) (k : Int) (v : Nat) (hv : scF m k = v) (w : World) (hm : m < 1000000000000000) (k1 : -22 ≤ k) (k2 : k ≤ 22) :
    Calls Tryd.prog 47 #[.int .u64 M, .int .i64 k] w fun e w' => e = .returned (.tuple #[.float .f64 v, .int .i64 0]) ∧ w' = w := by
  subst hM hv
  have := rScaled_any m k w (by omega)
  rwa [scE, if_pos ⟨hm, k1, k2⟩] at this
set_option maxRecDepth 100000 in
theorem least_any (x : Nat) (k : Int) (w : World) (hx : x < INF) (k1 : -22 ≤ k) (k2 : k ≤ 22) :
    Calls Tryd.prog 68 #[.float .f64 x, .int .i64 k] w fun e w' => (∃ l : Nat, IsL x k l ∧ e = .returned (.int .u64 l)) ∧ w' = w := by
  have HX := hide2 hx
  clear hx
  go_enter Tryd.func68, Tryd.ntmps68
  go_wp2
  go_loop [5, 6] (fun a b => ∃ L H : Nat, a = .int .u64 L ∧ b = .int .u64 H ∧ 1 ≤ L ∧ L ≤ H ∧ H ≤ 1000000000000000 ∧ (∀ M, 1 ≤ M → M < L → V (scF M k) < V x) ∧ (H = 1000000000000000 ∨ V x ≤ V (scF H k))) (fun a b => (intOf b - intOf a).toNat)
  case atStart => exact ⟨1, 1000000000000000, rfl, rfl, by omega, by omega, by omega, (fun M h1 h2 => by omega), .inl rfl⟩
  case round =>
    obtain ⟨L, H, rfl, rfl, hL1, hLH, hH, hlow, hhigh⟩ := hrel
    have HL := hide2 hlow
    have HH := hide2 hhigh
    clear hlow hhigh
    obtain ⟨l, hl⟩ : ∃ l : Int, (L : Int) = l := ⟨_, rfl⟩
    obtain ⟨h, hh⟩ : ∃ h : Int, (H : Int) = h := ⟨_, rfl⟩
    rw [hl, hh]
    have l1 : 1 ≤ l := by omega
    have lh : l ≤ h := by omega
    have h15 : h ≤ 1000000000000000 := by omega
    have HB := hide2 (And.intro hl (And.intro hh (And.intro hL1 (And.intro hLH hH))))
    by_cases hlt : l < h
    · obtain ⟨m, hm, hm1, hm2⟩ : ∃ m : Nat, (m : Int) = l + (h - l) / 2 ∧ L ≤ m ∧ m < H := ⟨L + (H - L) / 2, by omega, by omega, by omega⟩
      have hmb : m < 1000000000000000 := by omega
      have hmp : 1 ≤ m := by omega
      have hsc := rsc_at m _ hm k _ rfl w hmb k1 k2
      obtain ⟨hf, _⟩ := scF_fin hmp hmb k1 k2
      have hord : (FloatKind.f64.format.order (scF m k) x == some .lt) = decide (V (scF m k) < V x) := lt_word hf HX.out
      have HM := hide2 (And.intro hm (And.intro hm1 hm2))
      by_cases hv : V (scF m k) < V x
      · rw [decide_eq_true hv] at hord
        have HV : Hid (∀ M, 1 ≤ M → M < m + 1 → V (scF M k) < V x) := fun M a b => by
          rcases Nat.lt_or_eq_of_le (show M ≤ m by omega) with c | c
          · exact Nat.lt_trans (scF_rise a c hmb k1 k2) hv
          · subst c; exact hv
        obtain ⟨v, hve⟩ : ∃ v, scF m k = v := ⟨_, rfl⟩
        rw [hve] at hsc hord
        clear hve hv hf hm hm1 hm2 hmb hmp hl hh hL1 hLH hH
        go_wp2_with (go_at_call 47; refine hsc.mono ?_; rintro e w' ⟨rfl, rfl⟩)
        go_round
        case rel =>
          obtain ⟨hl, hh, hL1, hLH, hH⟩ := HB.out
          obtain ⟨hm, hm1, hm2⟩ := HM.out
          exact ⟨m + 1, H, by congr 1; omega, by rw [hh], by omega, by omega, hH, HV.out, HH.out⟩
        case measure => simp [intOf]; omega
      · rw [decide_eq_false hv] at hord
        have HV : Hid (V x ≤ V (scF m k)) := by show _ ≤ _; omega
        obtain ⟨v, hve⟩ : ∃ v, scF m k = v := ⟨_, rfl⟩
        rw [hve] at hsc hord
        have HE := hide2 hve
        clear hve hv hf hm hm1 hm2 hmb hmp hl hh hL1 hLH hH
        go_wp2_with (go_at_call 47; refine hsc.mono ?_; rintro e w' ⟨rfl, rfl⟩)
        go_round
        case rel =>
          obtain ⟨hl, hh, hL1, hLH, hH⟩ := HB.out
          obtain ⟨hm, hm1, hm2⟩ := HM.out
          exact ⟨L, m, by rw [hl], by rw [hm], hL1, by omega, by omega, HL.out, .inr HV.out⟩
        case measure => simp [intOf]; omega
    · by_cases he : l = 1000000000000000
      · clear hl hh hL1 hLH hH
        go_wp2
        go_ret
        refine ⟨⟨0, .inl ⟨rfl, ?_⟩, rfl⟩, rfl⟩
        obtain ⟨hl, hh, hL1, hLH, hH⟩ := HB.out
        exact fun M a b => HL.out M a (by omega)
      · clear hl hh hL1 hLH hH
        go_wp2
        go_ret
        obtain ⟨hl, hh, hL1, hLH, hH⟩ := HB.out
        have hLH' : L = H := by omega
        refine ⟨⟨L, .inr ⟨hL1, by omega, HL.out, ?_⟩, by rw [hl]; rfl⟩, rfl⟩
        rcases HH.out with hq | hq
        · omega
        · rw [hLH']; exact hq
end Go.Proofs.YthfmepnlbaifcaaDoor

/-
  The document's Decimal, whole; the walk of ScalarScales.
-/
namespace Go.Proofs.YthfmepnlbaifcaaDoor
open Go.RowKit Ieee
set_option linter.unusedVariables false
set_option linter.unusedSimpArgs false
theorem rdec_no {x : Nat} (w : World) (h : ¬ (0 < rg x ∧ rg x < INF ∧ ng x = false)) :
    Calls Tryd.prog 52 #[.float .f64 x] w fun e w' => e = .returned (.tuple #[.int .u64 0, .int .i64 0, .int .i64 2]) ∧ ∃ q, w' = w.drewN q := by
  cases h1 : (FloatKind.f64.format.order x 0 == some .gt) with
  | false =>
    go_enter Tryd.func52, Tryd.ntmps52
    go_wp2
    go_ret3
    exact ⟨rfl, 0, by simp [World.drewN]⟩
  | true =>
    have hinf : INF ≤ rg x := by
      rcases not_pos h with h2 | h2
      · have : (double.order x 0 == some .gt) = true := h1
        rw [this] at h2; cases h2
      · rw [le_max, decide_eq_false_iff_not] at h2
        omega
    obtain ⟨r, hr, hrun⟩ := run_nan x x w (sub_none x hinf)
    have hq : (FloatKind.f64.format.order r 0 == some .eq) = false := by
      show (double.order r 0 == some .eq) = false
      rw [order_nan r 0 (.inl hr)]; rfl
    have hq2 : (FloatKind.f64.format.order r 0 != some .eq) = true := by rw [bne, hq]; rfl
    clear h hr hinf
    go_enter Tryd.func52, Tryd.ntmps52
    go_wp2
    go_ret3
    exact ⟨rfl, 1, rfl⟩
theorem no_hit {x : Nat} {k : Int} {l : Nat} (k1 : -22 ≤ k) (k2 : k ≤ 22) (hl : IsL x k l) (hne : ¬ (1 ≤ l ∧ scF l k = x)) : ∀ M, ¬ Hit x k M := by
  rintro M ⟨h1, h2, h3⟩
  rcases hl with ⟨_, hall⟩ | ⟨l1, l2, hall, hge⟩
  · have := hall M h1 h2
    rw [h3] at this
    omega
  · rcases Nat.lt_trichotomy M l with hc | hc | hc
    · have := hall M h1 hc
      rw [h3] at this
      omega
    · subst hc; exact hne ⟨l1, h3⟩
    · have := scF_rise l1 hc h2 k1 k2
      rw [h3] at this
      omega
theorem rdec_yes {x : Nat} (w : World) (h0 : 0 < x) (hx : x < INF) :
    Calls Tryd.prog 52 #[.float .f64 x] w fun e w' => DecA x e ∧ w' = w := by
  obtain ⟨g1, g2⟩ := pos_gt h0 hx
  have g1' : (FloatKind.f64.format.order x 0 == some .gt) = true := g1
  have hr := rg_lt (Nat.le_of_lt hx)
  have rS : (binOp .sub 23 (.float .f64 x) (.float .f64 x)).run Tryd.prog w = .ok (.float .f64 0) w := run_float_arith w .sub 23 .f64 _ _ _ (sub_self x (by rw [hr.1]; exact hx))
  have hq : (FloatKind.f64.format.order 0 0 == some .eq) = true := by decide +kernel
  have hq2 : (FloatKind.f64.format.order 0 0 != some .eq) = false := by rw [bne, hq]; rfl
  have HX := hide2 (And.intro h0 hx)
  clear g1 g2 h0 hx hr
  go_enter Tryd.func52, Tryd.ntmps52
  go_wp2
  go_loop [5] (fun t => ∃ k : Int, t = .int .i64 k ∧ -23 ≤ k ∧ k ≤ 22 ∧ ∀ k' M', k < k' → k' ≤ 22 → ¬ Hit x k' M') (fun t => (intOf t + 23).toNat)
  case atStart => exact ⟨22, rfl, by omega, by omega, fun k' M' h1 h2 => by omega⟩
  case round =>
    obtain ⟨k, rfl, hk1, hk2, hno⟩ := hrel
    have HN := hide2 hno
    clear hno
    by_cases hk : -22 ≤ k
    · have hle := least_any x k w HX.out.2 hk hk2
      go_wp2_with (go_at_call 68; refine hle.mono ?_; rintro e w' ⟨⟨l, hl, rfl⟩, rfl⟩)
      have hlb : l < 1000000000000000 := by
        rcases hl with ⟨h, _⟩ | ⟨_, h, _⟩
        · omega
        · exact h
      clear hle
      obtain ⟨z, hz⟩ : ∃ z : Int, (l : Int) = z := ⟨_, rfl⟩
      rw [hz]
      have z0 : 0 ≤ z := by omega
      by_cases hh : 1 ≤ l ∧ scF l k = x
      · have hsc := rsc_at l z hz k x hh.2 w' hlb hk hk2
        have heq : (FloatKind.f64.format.order x x == some .eq) = true := by
          have := eq_word HX.out.2 HX.out.2
          rw [decide_eq_true rfl] at this
          exact this
        have z1 : 0 < z := by omega
        have HH := hide2 (And.intro hz (And.intro hh hlb))
        clear hh hz hlb hl
        refine hsc.mono ?_
        rintro e w2 ⟨rfl, rfl⟩
        clear hsc
        go_wp2
        go_ret3
        obtain ⟨hz, hh, hlb⟩ := HH.out
        refine ⟨.inl ⟨k, l, hk, hk2, ⟨hh.1, hlb, hh.2⟩, HN.out, ?_⟩, rfl⟩
        rw [hz]
        rfl
      · have HNo := hide2 (no_hit hk hk2 hl hh)
        rcases Nat.eq_zero_or_pos l with hl0 | hl0
        · have hsc := rsc_at l z hz k _ rfl w' hlb hk hk2
          obtain ⟨v, hv⟩ : ∃ v, scF l k = v := ⟨_, rfl⟩
          rw [hv] at hsc
          have z1 : z = 0 := by omega
          subst z1
          clear hh hz hlb hl hl0 hv
          refine hsc.mono ?_
          rintro e w2 ⟨rfl, rfl⟩
          clear hsc
          go_wp2
          go_round
          case rel =>
            refine ⟨k - 1, rfl, by omega, by omega, fun k' M' h1 h2 => ?_⟩
            by_cases e : k' = k
            · subst e; exact HNo.out M'
            · exact HN.out k' M' (by omega) h2
          case measure => simp [intOf]; omega
        · have hsc := rsc_at l z hz k _ rfl w' hlb hk hk2
          have hne : (FloatKind.f64.format.order (scF l k) x == some .eq) = false := by
            have := eq_word (scF_fin hl0 hlb hk hk2).1 HX.out.2
            refine this.trans ?_
            rw [decide_eq_false_iff_not]
            exact fun e => hh ⟨hl0, e⟩
          obtain ⟨v, hv⟩ : ∃ v, scF l k = v := ⟨_, rfl⟩
          rw [hv] at hsc hne
          have z1 : 0 < z := by omega
          clear hh hz hlb hl hl0 hv
          refine hsc.mono ?_
          rintro e w2 ⟨rfl, rfl⟩
          clear hsc
          go_wp2
          go_round
          case rel =>
            refine ⟨k - 1, rfl, by omega, by omega, fun k' M' h1 h2 => ?_⟩
            by_cases e : k' = k
            · subst e; exact HNo.out M'
            · exact HN.out k' M' (by omega) h2
          case measure => simp [intOf]; omega
    · go_wp2
      go_ret3
      refine ⟨.inr ⟨fun k' M' h1 h2 => HN.out k' M' (by omega) h2, rfl⟩, rfl⟩
end Go.Proofs.YthfmepnlbaifcaaDoor

/-
  M times ten, again and again, as reals: whether it comes to ten to the fifteenth.
-/
namespace Go.Proofs.YthfmepnlbaifcaaDoor
open Go.RowKit Ieee
set_option linter.unusedVariables false
set_option linter.unusedSimpArgs false
structure Lg (m i x : Nat) : Prop where
  fin : x < INF
  ex : m * 10 ^ i < 1000000000000000 → V x = m * 10 ^ i * pw 1074
  big : 1000000000000000 ≤ m * 10 ^ i → 1000000000000000 * pw 1074 ≤ V x
  low : pw 1074 ≤ V x
  high : V x < pw (1124 + 5 * i)
theorem Lg.start {m : Nat} (h1 : 1 ≤ m) (h2 : m < 1000000000000000) : Lg m 0 (floatOfInt .f64 (m : Int)) := by
  obtain ⟨hf, hv⟩ := ofInt_v h2
  refine ⟨hf, fun _ => by simpa using hv, fun h => by simp at h; omega, by rw [hv]; exact pw_le_mul h1, ?_⟩
  rw [hv]
  exact pw_mul_lt (a := 1074) (c := 50) (by omega)
theorem Lg.step {m i x : Nat} (h1 : 1 ≤ m) (h : Lg m i x) (hi : i ≤ 22) : ∃ y, floatBits .mul .f64 x TEN = some y ∧ Lg m (i + 1) y := by
  obtain ⟨tf, tv⟩ := fpow_v (k := 1) (by decide)
  have et : fpow 1 = TEN := by decide +kernel
  rw [et] at tf tv
  have hb : pw 900 ≤ V x := Nat.le_trans (pw_mono (by decide)) h.low
  obtain ⟨N, hm, hN⟩ := mul_near h.fin tf hb (by rw [tv]; exact Nat.le_trans (pw_mono (by decide)) (pw_le_mul (by decide)))
  have hN' : N = 10 * V x := by
    rw [tv, Nat.pow_one, ← Nat.mul_assoc, Nat.mul_comm (V x) 10] at hN
    exact Nat.eq_of_mul_eq_mul_right (pw_pos 1074) hN
  have hlow := h.low
  have hN0 : N ≠ 0 := by have := pw_pos 1074; omega
  have hhigh : N < pw (1124 + 5 * i + 4) := by
    have e : pw (1124 + 5 * i + 4) = 16 * pw (1124 + 5 * i) := by rw [← pw_add, show pw 4 = 16 by rw [← pw_def], Nat.mul_comm]
    rw [e, hN']
    have := h.high
    omega
  obtain ⟨rf, ru, rl⟩ := R_err N (p52_le (by rw [hN']; omega)) (log2_big hhigh (by omega) hN0)
  have ep : m * 10 ^ (i + 1) = 10 * (m * 10 ^ i) := by rw [Nat.pow_succ, ← Nat.mul_assoc, Nat.mul_comm]
  refine ⟨R N, hm, rf, ?_, ?_, ?_, ?_⟩
  · intro hs
    have hx := h.ex (by omega)
    have hNN : N = m * 10 ^ (i + 1) * pw 1074 := by rw [hN', hx, ep, Nat.mul_assoc 10]
    have := (ex_pw 1074 (m * 10 ^ (i + 1)) (by omega) (by decide)).R
    rw [← hNN] at this
    rw [this.2, hNN]
  · intro hs
    by_cases hc : 1000000000000000 ≤ m * 10 ^ i
    · have := h.big hc
      generalize pw 1074 = P at *
      omega
    · have hx := h.ex (by omega)
      have hNN : N = m * 10 ^ (i + 1) * pw 1074 := by rw [hN', hx, ep, Nat.mul_assoc 10]
      by_cases h53 : m * 10 ^ (i + 1) < 2 ^ 53
      · have := (ex_pw 1074 (m * 10 ^ (i + 1)) h53 (by decide)).R
        rw [← hNN] at this
        rw [this.2, hNN]
        exact Nat.mul_le_mul_right _ hs
      · have : 2 ^ 53 * pw 1074 ≤ N := by rw [hNN]; exact Nat.mul_le_mul_right _ (by omega)
        generalize pw 1074 = P at *
        omega
  · generalize pw 1074 = P at *
    omega
  · have e : pw (1124 + 5 * (i + 1)) = 2 * pw (1124 + 5 * i + 4) := by rw [show 1124 + 5 * (i + 1) = 1124 + 5 * i + 4 + 1 by omega, pw_two]
    rw [e]
    generalize pw (1124 + 5 * i + 4) = Q at *
    omega
theorem Lg.ge {m i x : Nat} (h : Lg m i x) : (FloatKind.f64.format.order x 4831355200913801216 == some .gt || FloatKind.f64.format.order x 4831355200913801216 == some .eq) = decide (1000000000000000 ≤ m * 10 ^ i) := by
  show (double.order x TG == some .gt || double.order x TG == some .eq) = _
  have ht := tg_v
  have r1 := rg_lt (Nat.le_of_lt h.fin)
  have r2 := rg_lt (Nat.le_of_lt ht.2.1)
  rw [ord_gt (by rw [r1.1]; exact h.fin) (by rw [r2.1]; exact ht.2.1), ord_eq (by rw [r1.1]; exact h.fin) (by rw [r2.1]; exact ht.2.1), sv_lt (Nat.le_of_lt h.fin), sv_lt (Nat.le_of_lt ht.2.1), ht.2.2]
  have hp := pw_pos 1074
  by_cases hs : 1000000000000000 ≤ m * 10 ^ i
  · have := h.big hs
    rw [decide_eq_true hs, Bool.or_eq_true, decide_eq_true_eq, decide_eq_true_eq]
    generalize pw 1074 = P at *
    omega
  · have := h.ex (by omega)
    rw [decide_eq_false hs, Bool.or_eq_false_iff, decide_eq_false_iff_not, decide_eq_false_iff_not, this]
    have h2 := Nat.mul_lt_mul_of_pos_right (show m * 10 ^ i < 1000000000000000 by omega) hp
    generalize m * 10 ^ i * pw 1074 = X at *
    generalize pw 1074 = P at *
    omega
end Go.Proofs.YthfmepnlbaifcaaDoor
