/-
  Which pattern covers which, and how two of hosts stand: the program's.
-/
import Derived.Test.YtplbdnndpgfljabPk
namespace Go.Proofs.Ytplbdnndpgfljab
open Go.RowKit
set_option linter.unusedVariables false
set_option linter.unusedSimpArgs false
set_option maxRecDepth 100000
def covM (a b : List UInt8) : Bool := covF (srtF a) (srtF b)
def ordM (a b : List UInt8) : Int := cmpF (srtF a) (srtF b)
def cpM (a b : List UInt8) : Bool := ppB a && ppB b && ((a == b) || begF a (starT b))
def cmM (a b : List UInt8) : Bool := mpB b && ((a == [42]) || (a == b))
theorem coversHost_any (a b : List UInt8) (w : World) (h1 : a.length ≤ 2 ^ 62) (h2 : b.length ≤ 2 ^ 62) : Calls Try.prog 8 #[.string ⟨a.toArray⟩, .string ⟨b.toArray⟩] w fun e w' => e = .returned (.bool (covM a b)) ∧ Below w.heap.size w w' := by
  have hA := fun w => patternOf_any a w h1
  have hB := fun w => patternOf_any b w h2
  have hC := fun w => covers_any (srtF a).1 (srtF b).1 (srtF a).2 (srtF b).2 w (srt_low a) (srt_low b) (Nat.le_trans (srt_len a) h1) (Nat.le_trans (srt_len b) h2)
  have hE : covM a b = covF (srtF a) (srtF b) := rfl
  rw [show ((srtF a).1, (srtF a).2) = srtF a from rfl, show ((srtF b).1, (srtF b).2) = srtF b from rfl] at hC
  generalize covF (srtF a) (srtF b) = r at hC hE
  generalize patV (srtF a) = v1 at hA hC
  generalize patV (srtF b) = v2 at hB hC
  have HE := hide2 hE
  clear hE
  go_enter Try.func8, Try.ntmps8
  go_wp2_with fail
  refine (hA _).mono ?_
  rintro e w1 ⟨rfl, hb⟩
  have HB := hide2 hb
  clear hb
  go_wp2_with fail
  refine (hB _).mono ?_
  rintro e w2 ⟨rfl, hb⟩
  replace HB := hide2 (below_two HB.out hb)
  clear hb
  go_wp2_with fail
  refine (hC _).mono ?_
  rintro e w3 ⟨rfl, hb⟩
  replace HB := hide2 (below_two HB.out hb)
  clear hb
  go_wp2
  go_ret
  exact ⟨ret_bool HE.out.symm, HB.out⟩
theorem order_any (a b : List UInt8) (w : World) (h1 : a.length ≤ 2 ^ 62) (h2 : b.length ≤ 2 ^ 62) : Calls Try.prog 6 #[.string ⟨a.toArray⟩, .string ⟨b.toArray⟩] w fun e w' => e = .returned (.int .i64 (ordM a b)) ∧ Below w.heap.size w w' := by
  have hA := fun w => patternOf_any a w h1
  have hB := fun w => patternOf_any b w h2
  have hC := fun w => compare_any (srtF a).1 (srtF b).1 (srtF a).2 (srtF b).2 w (Nat.le_trans (srt_len a) h1) (Nat.le_trans (srt_len b) h2)
  have hE : ordM a b = cmpF (srtF a) (srtF b) := rfl
  rw [show ((srtF a).1, (srtF a).2) = srtF a from rfl, show ((srtF b).1, (srtF b).2) = srtF b from rfl] at hC
  generalize cmpF (srtF a) (srtF b) = r at hC hE
  generalize patV (srtF a) = v1 at hA hC
  generalize patV (srtF b) = v2 at hB hC
  have HE := hide2 hE
  clear hE
  go_enter Try.func6, Try.ntmps6
  go_wp2_with fail
  refine (hA _).mono ?_
  rintro e w1 ⟨rfl, hb⟩
  have HB := hide2 hb
  clear hb
  go_wp2_with fail
  refine (hB _).mono ?_
  rintro e w2 ⟨rfl, hb⟩
  replace HB := hide2 (below_two HB.out hb)
  clear hb
  go_wp2_with fail
  refine (hC _).mono ?_
  rintro e w3 ⟨rfl, hb⟩
  replace HB := hide2 (below_two HB.out hb)
  clear hb
  go_wp2
  go_ret
  exact ⟨ret_int HE.out.symm, HB.out⟩
end Go.Proofs.Ytplbdnndpgfljab
