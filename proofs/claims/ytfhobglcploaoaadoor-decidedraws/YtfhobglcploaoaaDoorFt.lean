/-
  Reals in order: what is above the greater is above the less: plain.
-/
import Derived.Test.YtfhobglcploaoaaDoorDa
namespace Go.Proofs.YtfhobglcploaoaaDoor
open Go.RowKit Ieee
set_option linter.unusedVariables false
set_option linter.unusedSimpArgs false
theorem signed_add (s : Bool) (m a c : Nat) : signed s m (a + c) = signed s m a * ((2 ^ c : Nat) : Int) := by
  unfold signed
  cases s
  · simp only [Bool.false_eq_true, if_false]
    rw [← Int.natCast_mul]; congr 1; rw [Nat.shiftLeft_eq, Nat.shiftLeft_eq, Nat.pow_add, Nat.mul_assoc]
  · simp only [if_true]
    rw [Int.neg_mul, ← Int.natCast_mul]; congr 2; rw [Nat.shiftLeft_eq, Nat.shiftLeft_eq, Nat.pow_add, Nat.mul_assoc]
theorem cmp_mul (x y : Int) (c : Nat) (hc : 0 < c) : compare (x * (c : Int)) (y * (c : Int)) = compare x y := by
  have hc' : (0 : Int) < c := by omega
  rcases Int.lt_trichotomy x y with h | h | h
  · rw [Int.compare_eq_lt.2 h, Int.compare_eq_lt.2 (Int.mul_lt_mul_of_pos_right h hc')]
  · rw [h]; rw [Int.compare_eq_eq.2 rfl, Int.compare_eq_eq.2 rfl]
  · rw [Int.compare_eq_gt.2 h, Int.compare_eq_gt.2 (Int.mul_lt_mul_of_pos_right h hc')]
theorem order_base (s t : Bool) (m n : Nat) (i j B : Int) (hi : B ≤ i) (hj : B ≤ j) : (Datum.number s m i).order (Datum.number t n j) = some (compare (signed s m (i - B).toNat) (signed t n (j - B).toNat)) := by
  unfold Datum.order
  dsimp only
  have e1 : (i - B).toNat = (i - min i j).toNat + (min i j - B).toNat := by omega
  have e2 : (j - B).toNat = (j - min i j).toNat + (min i j - B).toNat := by omega
  rw [e1, e2, signed_add, signed_add, cmp_mul _ _ _ (Nat.two_pow_pos _)]
theorem datum_trans (a b c : Datum) (h1 : a.order c = some .gt) (h2 : b.order c = some .lt ∨ b.order c = some .eq) : a.order b = some .gt := by
  cases a with
  | nan => cases c <;> simp [Datum.order] at h1
  | infinity s =>
    cases b with
    | nan => cases c <;> simp [Datum.order] at h2
    | infinity t =>
      cases c with
      | nan => simp [Datum.order] at h1
      | infinity r => revert h1 h2; cases s <;> cases t <;> cases r <;> simp [Datum.order] <;> decide
      | number r k l => revert h1 h2; cases s <;> cases t <;> simp [Datum.order] <;> decide
    | number t n j =>
      cases c with
      | nan => simp [Datum.order] at h1
      | infinity r => revert h1 h2; cases s <;> cases r <;> simp [Datum.order] <;> decide
      | number r k l => revert h1 h2; cases s <;> simp [Datum.order]
  | number s m i =>
    cases b with
    | nan => cases c <;> simp [Datum.order] at h2
    | infinity t =>
      cases c with
      | nan => simp [Datum.order] at h1
      | infinity r => revert h1 h2; cases t <;> cases r <;> simp [Datum.order] <;> decide
      | number r k l => revert h1 h2; cases t <;> simp [Datum.order]
    | number t n j =>
      cases c with
      | nan => simp [Datum.order] at h1
      | infinity r => revert h1 h2; cases r <;> simp [Datum.order]
      | number r k l =>
        have hB : ∃ B : Int, B ≤ i ∧ B ≤ j ∧ B ≤ l := ⟨min i (min j l), by omega, by omega, by omega⟩
        obtain ⟨B, b1, b2, b3⟩ := hB
        rw [order_base s r m k i l B b1 b3] at h1
        rw [order_base t r n k j l B b2 b3] at h2
        rw [order_base s t m n i j B b1 b2]
        simp only [Option.some.injEq] at h1 h2 ⊢
        rw [Int.compare_eq_gt] at h1 ⊢
        rw [Int.compare_eq_lt, Int.compare_eq_eq] at h2
        omega
def leF (u v : Nat) : Bool := FloatKind.f64.format.order u v == some .lt || FloatKind.f64.format.order u v == some .eq
theorem gt_le {x u v : Nat} (h1 : gtF x v = true) (h2 : leF u v = true) : gtF x u = true := by
  unfold gtF at h1 ⊢
  unfold leF at h2
  rw [Bool.or_eq_true] at h2
  simp only [beq_iff_eq] at h1 h2 ⊢
  exact datum_trans _ _ _ h1 h2
theorem plF_le {l : List Sh} {u v : Nat} (h : leF u v = true) : plF l u ≤ plF l v := by
  unfold plF
  rcases Nat.lt_or_ge (l.findIdx fun s => gtF s.up v) l.length with hlt | hge
  · refine Nat.le_of_not_lt fun hn => ?_
    have h2 := List.findIdx_getElem (w := hlt)
    have h3 := List.not_of_lt_findIdx hn
    have h4 := gt_le h2 h
    rw [h3] at h4; cases h4
  · exact Nat.le_trans List.findIdx_le_length hge
theorem shF_pl {l : List Sh} {u : Nat} {o : Sh} (h : l[plF l u]? = some o) : shF l u = o.sv := by
  unfold shF
  have := (List.getElem?_eq_some_iff.1 h).1
  rw [show min (plF l u) (l.length - 1) = plF l u by omega, h]
theorem plF_len (l : List Sh) (u : Nat) : plF l u ≤ l.length := List.findIdx_le_length
end Go.Proofs.YtfhobglcploaoaaDoor
