/-
  Lists of reals that came in, opened.
-/
import Derived.Test.YtfolfeaednmcoabOpen
import Derived.Test.YtfolfeaednmcoabFls
import Derived.Deep.Slices
namespace Go.Proofs.Ytfolfeaednmcoab
open Go.ChangeShapes Go.WideShapes Go.ChangeAt Go.RowKit
set_option linter.unusedVariables false
set_option linter.unusedSimpArgs false
theorem bytes28 : Try.prog.bytesOf 28 = 8 := by kernel_rfl
theorem real_of {H : Type} {enc : TypeId × Value → H} {W : World} {n : Nat} {v : Value} {x : DataW H × List MemPlace} (h : DataW.trod enc Try.prog W 0 (fun _ => true) true n 28 [v] = some x) : ∃ b, v = .float .f64 b := by
  cases n with
  | zero => simp [DataW.trod] at h
  | succ n =>
    cases v <;> simp [DataW.trod, Try.underlying28] at h
    rename_i k b
    cases k
    · simp at h
    · exact ⟨b, rfl⟩
theorem open_reals {H : Type} {enc : TypeId × Value → H} {W : World} {a : Option Addr} {len cap : Nat} {d : DataW H} {p : List MemPlace} {ts : List TypeId} {ds : List (DataW H)} {j : Nat}
    (h : DataW.Trod enc Try.prog W 0 (fun _ => true) true 22 (.slice a len cap) d p) (hsz : (DataW.weightsEach Try.prog ts ds).all (· ≤ reachBytes) = true) (ht : ts[j]? = some 22) (hd : ds[j]? = some d) :
    ∃ zs, Fl W a len zs ∧ (a = none → cap = 0) ∧ len ≤ 17592186043904 ∧ len ≤ cap ∧ cap ≤ maxLen := by
  obtain ⟨fuel, hf⟩ := h
  rcases Go.Deep.open_slice1 Try.underlying22 (by kernel_rfl) hf with ⟨hcs, _⟩ | ⟨x, l, c, m, n, V, D, Pl, hcs, _, hl, hm, hmm, hx, hV⟩
  · simp [Value.cells] at hcs
    obtain ⟨rfl, rfl, rfl⟩ := hcs
    exact ⟨[], Fl.nil W, fun _ => rfl, by decide, by decide, by decide⟩
  · simp [Value.cells] at hcs
    obtain ⟨rfl, rfl, rfl⟩ := hcs
    simp only [Prod.mk.injEq] at hx
    obtain ⟨rfl, _⟩ := hx
    simp only [if_true] at hmm
    subst hmm
    have hs := sized_slice hsz (j := j) (t := 22) (e := 28) ht hd Try.underlying22
    rw [bytes28] at hs
    simp only [List.length_map, List.length_range, reachBytes] at hs
    have hr : ∀ i, i < m → ∃ b, V i = .float .f64 b := fun i hi => real_of (hV i hi).2
    refine ⟨(List.range len).map (fun i => match V i with | .float .f64 b => b | _ => 0), ⟨by simp, ?_, by omega⟩, (fun h => by cases h), by omega, hl, hm⟩
    by_cases h0 : len = 0
    · exact .inl h0
    · obtain ⟨b, off, spot⟩ := x
      have hspot : spot = none := by simpa [Addr.add] using World.cell?_spot (hV 0 (by omega)).1
      subst hspot
      refine .inr ⟨b, off, rfl, fun i hi => ?_⟩
      have h1 := (hV i (by omega)).1
      obtain ⟨z, hz⟩ := hr i (by omega)
      rw [Go.WideShapes.add_plain] at h1
      rw [h1, hz]
      simp [List.getD, hi, hz]
end Go.Proofs.Ytfolfeaednmcoab
