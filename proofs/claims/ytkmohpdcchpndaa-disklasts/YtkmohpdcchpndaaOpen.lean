/-
  What the rows' frames share: bytes and numbers that came in, a struct of five, opened.
-/
import Derived.Test.YtkmohpdcchpndaaBase
import Derived.ProofKit
import Derived.ChangeOld
import Derived.JoinedCond
import Derived.SizedLaws
import Derived.Lib.SmallJoins
namespace Go.Proofs.Ytkmohpdcchpndaa
open Go.ChangeShapes Go.WideShapes Go.ChangeAt Go.RowKit Go.Deep
set_option linter.unusedVariables false
set_option linter.unusedSimpArgs false
theorem own : ownKnob Try.prog.godebug = none := by kernel_rfl
theorem laidOut : laidOutB Try.prog = true := by kernel_rfl
theorem bytes5 : Try.prog.bytesOf 5 = 1 := by kernel_rfl
theorem bytes3 : Try.prog.bytesOf 3 = 8 := by kernel_rfl
theorem octets_of_wf {zs : List Int} (h : ∀ n ∈ zs, (Lit.int .u8 n).wf = true) : Octets zs := fun i => by
  by_cases hi : i < zs.length
  · have := bounds_u8 (h zs[i] (List.getElem_mem hi))
    simp [hi]; omega
  · simp [Nat.le_of_not_lt hi]
/-- a slice of bytes, opened -/
structure InB (W : World) (v : Value) (a : Option Addr) (n c : Nat) (zs : List Int) : Prop where
  val : v = .slice a n c
  len : zs.length = n
  has : Has W a zs
  oct : Octets zs
  bare : a = none → c = 0
  fits : n ≤ c
  cap : c ≤ maxLen
  few : c ≤ 140737488351232
theorem open_bytes {H : Type} {enc : TypeId × Value → H} {W : World} {fuel : Nat} {v : Value} {y : DataW H × List MemPlace} {ts : List TypeId} {ds : List (DataW H)} {j : Nat}
    (hf : DataW.trod enc Try.prog W 0 (fun _ => true) true fuel 32 [v] = some y) (hsz : (DataW.weightsEach Try.prog ts ds).all (· ≤ reachBytes) = true) (ht : ts[j]? = some 32) (hd : ds[j]? = some y.1) :
    ∃ a len cap zs, InB W v a len cap zs := by
  rcases open_ints Try.underlying32 Try.underlying5 (by kernel_rfl) hf with ⟨hcs, _⟩ | ⟨x, l, c, zs, hcs, _, hl, hm, hz, hx, hcell, hwz⟩
  · simp at hcs
    exact ⟨none, 0, 0, [], hcs, rfl, .inl ⟨rfl, rfl⟩, fun j => by simp, fun _ => rfl, Nat.le_refl _, Nat.zero_le _, Nat.zero_le _⟩
  · simp at hcs
    subst hx
    have hs := sized_slice hsz (j := j) (t := 32) (e := 5) ht hd Try.underlying32
    rw [bytes5] at hs
    simp only [lits, List.length_map, List.length_take, List.length_drop, reachBytes] at hs
    have hzl : zs.length = c := by simpa using hz
    refine ⟨some x, l, c, zs.take l, hcs, by simp; omega, ?_, (octets_of_wf hwz).take l, (fun h => by cases h), hl, hm, by omega⟩
    refine .inr ⟨x, rfl, fun j hj => ?_⟩
    have hj' : j < l := by simp at hj; omega
    rw [hcell j (by omega)]; simp [List.getD, hj']
/-- a slice of numbers, opened -/
structure InN (W : World) (v : Value) (a : Option Addr) (n c : Nat) (cs : List Int) : Prop where
  val : v = .slice a n c
  len : cs.length = n
  has : (a = none ∧ cs = []) ∨ ∃ x, a = some x ∧ ∀ j, j < cs.length → W.cell? (x.add j) = some (.int .i64 (cs.getD j 0))
  bare : a = none → c = 0
  fits : n ≤ c
  few : c ≤ 17592186043904
  rng : ∀ c ∈ cs, -9223372036854775808 ≤ c ∧ c ≤ 9223372036854775807
theorem open_nums {H : Type} {enc : TypeId × Value → H} {W : World} {fuel : Nat} {v : Value} {y : DataW H × List MemPlace} {ts : List TypeId} {ds : List (DataW H)} {j : Nat}
    (hf : DataW.trod enc Try.prog W 0 (fun _ => true) true fuel 23 [v] = some y) (hsz : (DataW.weightsEach Try.prog ts ds).all (· ≤ reachBytes) = true) (ht : ts[j]? = some 23) (hd : ds[j]? = some y.1) :
    ∃ a len cap cs, InN W v a len cap cs := by
  rcases open_ints Try.underlying23 Try.underlying3 (by kernel_rfl) hf with ⟨hcs, _⟩ | ⟨x, l, c, zs, hcs, _, hl, hm, hz, hx, hcell, hwz⟩
  · simp at hcs
    exact ⟨none, 0, 0, [], hcs, rfl, .inl ⟨rfl, rfl⟩, fun _ => rfl, Nat.le_refl _, Nat.zero_le _, fun c hc => by cases hc⟩
  · simp at hcs
    subst hx
    have hs := sized_slice hsz (j := j) (t := 23) (e := 3) ht hd Try.underlying23
    rw [bytes3] at hs
    simp only [lits, List.length_map, List.length_take, List.length_drop, reachBytes] at hs
    have hzl : zs.length = c := by simpa using hz
    refine ⟨some x, l, c, zs.take l, hcs, by simp; omega, ?_, (fun h => by cases h), hl, by omega, fun n hn => bounds_i64 (hwz n (List.mem_of_mem_take hn))⟩
    refine .inr ⟨x, rfl, fun j hj => ?_⟩
    have hj' : j < l := by simp at hj; omega
    rw [hcell j (by omega)]; simp [List.getD, hj']
theorem array5 {α : Type} {cs : Array α} (h : cs.size = 5) : ∃ c0 c1 c2 c3 c4, cs = #[c0, c1, c2, c3, c4] := by
  obtain ⟨l⟩ := cs
  match l, h with
  | [c0, c1, c2, c3, c4], _ => exact ⟨c0, c1, c2, c3, c4, rfl⟩
section
variable {H : Type} {enc : TypeId × Value → H} {P : Program} {w : World} {base : Nat} {spare : Nat → Bool} {held : Bool}
theorem open_agg5 {r : Reach} {b0 : Nat} {t : TypeId} {f0 f1 f2 f3 f4 : Field} {v : Value} {d : DataW H} {p : List MemPlace} (hs : P.underlying t = some (.struct #[f0, f1, f2, f3, f4])) (hone : oneCellFields P #[f0, f1, f2, f3, f4] = true) (hC : P.cellsOf t = 5)
    (hv : Value.okWide P w r b0 t v) (h : DataW.Trod enc P w base spare held t v d p) :
    ∃ (v0 v1 v2 v3 v4 : Value) (y0 y1 y2 y3 y4 : DataW H × List MemPlace) (n : Nat), v = .agg #[v0, v1, v2, v3, v4] ∧ d = .agg [y0.1, y1.1, y2.1, y3.1, y4.1] ∧
      DataW.trod enc P w base spare held n f0.type [v0] = some y0 ∧ DataW.trod enc P w base spare held n f1.type [v1] = some y1 ∧ DataW.trod enc P w base spare held n f2.type [v2] = some y2 ∧ DataW.trod enc P w base spare held n f3.type [v3] = some y3 ∧ DataW.trod enc P w base spare held n f4.type [v4] = some y4 := by
  obtain ⟨cs, rfl, hsz⟩ := okWide_struct hs hv
  obtain ⟨c0, c1, c2, c3, c4, rfl⟩ := array5 (hsz.trans hC)
  obtain ⟨fuel, hf⟩ := h
  obtain ⟨xs, n, _, hx, hl, hlen, hff⟩ := DataW.trod_struct hs hf
  obtain ⟨o0, k0⟩ := hone_of hone 0 f0 rfl
  obtain ⟨o1, k1⟩ := hone_of hone 1 f1 rfl
  obtain ⟨o2, k2⟩ := hone_of hone 2 f2 rfl
  obtain ⟨o3, k3⟩ := hone_of hone 3 f3 rfl
  obtain ⟨o4, k4⟩ := hone_of hone 4 f4 rfl
  match xs, hlen with
  | [y0, y1, y2, y3, y4], _ =>
    simp only [Prod.mk.injEq] at hx
    exact ⟨c0, c1, c2, c3, c4, y0, y1, y2, y3, y4, n, rfl, by simpa using hx.1, by simpa [Value.cells, o0, k0] using hff 0 f0 rfl, by simpa [Value.cells, o1, k1] using hff 1 f1 rfl, by simpa [Value.cells, o2, k2] using hff 2 f2 rfl, by simpa [Value.cells, o3, k3] using hff 3 f3 rfl, by simpa [Value.cells, o4, k4] using hff 4 f4 rfl⟩
end
end Go.Proofs.Ytkmohpdcchpndaa
