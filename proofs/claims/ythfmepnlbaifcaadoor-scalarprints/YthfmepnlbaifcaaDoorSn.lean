/-
  What the scanner holds at each of its labels.
-/
import Derived.Test.YthfmepnlbaifcaaDoorSj
namespace Go.Proofs.YthfmepnlbaifcaaDoor
open Go.RowKit
set_option linter.unusedVariables false
set_option linter.unusedSimpArgs false
def W2 (w : World) (m : Bool) (a b : List UInt8) (k : Int) : World := (w.alloc (.cells #[.bool false, .string ⟨#[]⟩, .string ⟨#[]⟩, .int .i64 0] 69)).alloc (.cells #[.bool m, .string ⟨a.toArray⟩, .string ⟨b.toArray⟩, .int .i64 k] 69)
def fM (l : List UInt8) : Nat := if hasM l = true then 1 else 0
/-- what holds at each label: 0 the whole part ended at a nought, 1 within it, 2 an int ended, 3 it is wrong, 4 within the rest -/
def Jn (l : List UInt8) (w : World) : Nat → Act → World → Prop
  | 0, a, W => Fr l w.heap.size a (fM l + 1) (fM l) ∧ W = W2 w (hasM l) [] [] 0 ∧ (unM l).head? = some 48
  | 1, a, W => ∃ k, Fr l w.heap.size a (fM l + k) (fM l) ∧ W = W2 w (hasM l) [] [] 0 ∧ (unM l).head? ≠ some 48 ∧ k ≤ (unM l).length ∧ (∀ c ∈ (unM l).take k, dg c = true)
  | 2, a, W => ∃ p f, Fr l w.heap.size a p f ∧ W = W2 w (hasM l) (wholeOf (unM l)) [] 0 ∧ (unM l).drop (wholeOf (unM l)).length = []
  | 3, a, W => ∃ p f m x y, Fr l w.heap.size a p f ∧ W = W2 w m x y 0 ∧ scanF l = none
  | 4, a, W => ∃ k A r, Fr l w.heap.size a (fM l + A.length + 1 + k) (fM l + A.length + 1) ∧ W = W2 w (hasM l) A [] 0 ∧ A = wholeOf (unM l) ∧ A ≠ [] ∧ unM l = A ++ 46 :: r ∧ k ≤ r.length ∧ (∀ c ∈ r.take k, dg c = true)
  | _, _, _ => False
def μn (l : List UInt8) : Nat → Act → World → Nat
  | 0, _, _ => 2 * l.length + 4
  | 1, a, _ => 2 * l.length + 5 + (l.length - (intOf (a.tmps.getD 5 undef)).toNat)
  | 4, a, _ => l.length + 3 + (l.length - (intOf (a.tmps.getD 5 undef)).toNat)
  | 2, _, _ => 1
  | _, _, _ => 0
def nmV : Option Nm → Array Value
  | some n => #[.bool n.minus, .string ⟨n.whole.toArray⟩, .string ⟨n.rest.toArray⟩, .int .i64 n.power]
  | none => #[.bool false, .string ⟨#[]⟩, .string ⟨#[]⟩, .int .i64 0]
theorem is_at (l : List UInt8) (k : Nat) (z : Int) (hz : (k : Int) = z) (c : Nat) (y : Int) (hy : (c : Int) = y) (b : Bool) (hb : atB l k c = b) (w : World) (hs : l.length ≤ 2 ^ 47) (hk : k ≤ 2 ^ 48) (hc : c ≤ 255) :
    Calls Tryd.prog 55 #[.string ⟨l.toArray⟩, .int .i64 z, .int .u8 y] w fun e w' => e = .returned (.bool b) ∧ w' = w := by
  subst hz hy hb
  exact isAt_any l k c w (by omega) hc (by omega)
theorem dg_at (l : List UInt8) (k : Nat) (z : Int) (hz : (k : Int) = z) (b : Bool) (hb : dgB l k = b) (w : World) (hs : l.length ≤ 2 ^ 47) (hk : k ≤ 2 ^ 48) :
    Calls Tryd.prog 56 #[.string ⟨l.toArray⟩, .int .i64 z] w fun e w' => e = .returned (.bool b) ∧ w' = w := by
  subst hz hb
  exact isDigitAt_any l k w (by omega) (by omega)
theorem at_two {l : List UInt8} (hs : l.length ≤ 2 ^ 47) {m b : Bool} (h1 : atB l 0 45 = m) {f : Nat} (hf : f ≤ 1) (h2 : atB l f 48 = b) (z y : Int) (r : Bool)
    (h : (y = 45 ∧ z = 0 ∧ r = m) ∨ (y = 48 ∧ z = (f : Int) ∧ r = b)) (w : World) :
    Calls Tryd.prog 55 #[.string ⟨l.toArray⟩, .int .i64 z, .int .u8 y] w fun e w' => e = .returned (.bool r) ∧ w' = w := by
  rcases h with ⟨rfl, rfl, rfl⟩ | ⟨rfl, rfl, rfl⟩
  · exact is_at l 0 0 rfl 45 45 rfl _ h1 w hs (by decide) (by decide)
  · exact is_at l f f rfl 48 48 rfl _ h2 w hs (by omega) (by decide)
theorem atB_M (l : List UInt8) : atB l 0 45 = hasM l := by
  cases l with
  | nil => rfl
  | cons c r =>
    show decide ((c.toNat : Int) = 45) = decide (some c = some 45)
    rw [decide_eq_decide]
    simp [← UInt8.toNat_inj]
    omega
theorem drop_M (l : List UInt8) : unM l = l.drop (fM l) := by
  unfold fM
  cases h : hasM l with
  | true =>
    have := hasM_cons h
    rw [if_pos rfl]
    conv => rhs; rw [this]
    rfl
  | false => rw [if_neg (by decide), (hasM_not h).2]; rfl
theorem fM_le (l : List UInt8) : fM l ≤ l.length ∧ fM l ≤ 1 ∧ (unM l).length + fM l = l.length := by
  cases hm : hasM l with
  | true =>
    have e : fM l = 1 := by rw [fM, hm]; rfl
    have h2 : l.length = (unM l).length + 1 := congrArg List.length (hasM_cons hm)
    omega
  | false =>
    have e : fM l = 0 := by rw [fM, hm]; rfl
    have h2 := congrArg List.length (hasM_not hm).2
    omega
theorem at_un (l : List UInt8) (k : Nat) : l[fM l + k]? = (unM l)[k]? := by rw [drop_M, List.getElem?_drop]
theorem dgB_un (l : List UInt8) (k : Nat) : dgB l (fM l + k) = dgB (unM l) k := by rw [dgB, dgB, at_un]
theorem atB_un (l : List UInt8) (k c : Nat) : atB l (fM l + k) c = atB (unM l) k c := by rw [atB, atB, at_un]
theorem atB_0 (r : List UInt8) : atB r 0 48 = decide (r.head? = some 48) := by
  cases r with
  | nil => rfl
  | cons c r =>
    show decide ((c.toNat : Int) = 48) = decide (some c = some 48)
    rw [decide_eq_decide]
    simp [← UInt8.toNat_inj]
    omega
end Go.Proofs.YthfmepnlbaifcaaDoor
