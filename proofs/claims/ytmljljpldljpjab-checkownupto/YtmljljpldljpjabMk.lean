/-
  Maps from keys to places.
-/
import Derived.Test.YtmljljpldljpjabOl
import Derived.Maps.OwnSet
import Derived.DeepKeys4
namespace Go.Proofs.Ytmljljpldljpjab
open Go.RowKit
set_option linter.unusedVariables false
set_option linter.unusedSimpArgs false
set_option maxRecDepth 100000
theorem kl_ex (k : Int) (s : ByteArray) (h : (Lit.int .i64 k).wf = true) (hs : s.size ≤ maxLen) : ∃ l, keyOf Try.prog 53 (.agg #[.int .i64 k, .string s]) = some l := by
  have h1 : Try.prog.keyType 53 = true := by kernel_rfl
  have h2 : Value.formed Try.prog 53 (Value.agg #[Value.int IntKind.i64 k, Value.string s]) = true := by
    have c74 : Try.prog.cellsOf 53 = 2 := by kernel_rfl
    simp [Value.formed, Try.underlying53, c74]
  have h3 : ∀ d, ∃ a, Try.prog.keyLits (d + 2) 53 [Value.int IntKind.i64 k, Value.string s] = some a := by
    intro d
    have c3 : Try.prog.cellsOf 3 = 1 := by kernel_rfl
    have c9 : Try.prog.cellsOf 9 = 1 := by kernel_rfl
    have c74 : Try.prog.cellsOf 53 = 2 := by kernel_rfl
    simp [Program.keyLits, Try.underlying53, Try.underlying3, Try.underlying9, c3, c9, c74, h, hs]
  obtain ⟨a, ha⟩ := h3 141
  unfold keyOf
  rw [Try.underlying53]
  simp only [h1, h2, Bool.and_self, if_true]
  exact ⟨_, congrArg (Option.map _) ha⟩
theorem keyed74 : Go.Maps.Keyed Try.prog 53 := Go.Maps.Keyed.of_law (deep_law_laid (by kernel_rfl) (m := 141) (by decide) (of_decide_eq_true (by kernel_rfl)) (by kernel_rfl) (by kernel_rfl))
/-- a key that may be -/
def okK (k : Int × ByteArray) : Prop := (-9223372036854775808 ≤ k.1 ∧ k.1 ≤ 9223372036854775807) ∧ okS k.2
theorem Rok.key {o : Rs} (h : Rok o) : okK o.key := ⟨h.k1, h.n1⟩
theorem wf64 {n : Int} (h : -9223372036854775808 ≤ n ∧ n ≤ 9223372036854775807) : (Lit.int .i64 n).wf = true := by
  simp [Lit.wf, IntKind.min, IntKind.max, IntKind.bits, IntKind.signed]; omega
theorem okK.lit {k : Int × ByteArray} (h : okK k) : ∃ l, keyOf Try.prog 53 (keyV k) = some l := kl_ex k.1 k.2 (wf64 h.1) (by have := h.2; unfold okS at this; unfold maxLen; omega)
/-- a map that says so of each key -/
structure Mp (W : World) (m N : Nat) (f : Int × ByteArray → Option Nat) : Prop where
  ex : ∃ D : DataW Unit, W.ownsMap Try.prog 53 (plainElem Try.prog 3) m N D ∧ Go.Maps.Tidy D ∧ ∀ k, okK k → ∀ l, keyOf Try.prog 53 (keyV k) = some l → (∀ i, f k = some i → ∀ z, D.atKey l z = .lit (.int .i64 i)) ∧ (f k = none → ∀ z, D.atKey l z = z)
theorem Mp.lt {W : World} {m N : Nat} {f : Int × ByteArray → Option Nat} (h : Mp W m N f) : m < W.heap.size := by obtain ⟨D, h1, _⟩ := h.ex; exact h1.lt
theorem Mp.keep {W W' : World} {m N : Nat} {f : Int × ByteArray → Option Nat} (h : Mp W m N f) (hb : W'.heap[m]? = W.heap[m]?) : Mp W' m N f := by
  obtain ⟨D, ⟨es, clock, h2, rest⟩, h3⟩ := h.ex
  exact ⟨D, ⟨es, clock, hb.trans h2, rest⟩, h3⟩
theorem Mp.below {W W' : World} {m N : Nat} {f : Int × ByteArray → Option Nat} (h : Mp W m N f) (hb : Below W.heap.size W W') : Mp W' m N f := h.keep (hb.block m h.lt)
theorem Mp.made (W : World) : Mp (W.alloc (.map #[] 0)) W.heap.size 0 (fun _ => none) :=
  ⟨.map [], World.ownsMap_made (H := Unit) W Try.prog 53 _, Go.Maps.tidy_empty, fun k _ l _ => ⟨(fun i h => by cases h), (fun _ z => rfl)⟩⟩
theorem Mp.mono {W : World} {m N N' : Nat} {f : Int × ByteArray → Option Nat} (h : Mp W m N f) (hn : N ≤ N') : Mp W m N' f := by
  obtain ⟨D, h1, h3⟩ := h.ex
  exact ⟨D, h1.mono hn, h3⟩
theorem zero3 (w : World) : (zeroValue 3).run Try.prog w = .ok (.int .i64 0) w := by kernel_rfl
theorem Mp.look {W : World} {m N : Nat} {f : Int × ByteArray → Option Nat} (h : Mp W m N f) {k : Int × ByteArray} (hk : okK k) (c : Bool) :
    (∀ i, f k = some i → (Instr.lookup 50 (.map (some m)) (keyV k) c).run Try.prog W = .ok (if c then .tuple #[.int .i64 i, .bool true] else .int .i64 i) W) ∧
    (f k = none → (Instr.lookup 50 (.map (some m)) (keyV k) c).run Try.prog W = .ok (if c then .tuple #[.int .i64 0, .bool false] else .int .i64 0) W) := by
  obtain ⟨D, ⟨es, clock, hb, F, _, hD⟩, _, hf⟩ := h.ex
  obtain ⟨l, hl⟩ := hk.lit
  obtain ⟨h1, h2⟩ := hf k hk l hl
  rcases Go.Maps.fit_look c keyed74 Try.underlying50 (zero3 W) hb F hl with ⟨hrun, _, hat⟩ | ⟨e0, y, _, _, hrun, hRv, hat, _⟩
  · refine ⟨fun i hi => ?_, fun _ => hrun⟩
    have := h1 i hi .nil
    rw [hD, hat .nil] at this
    cases this
  · obtain ⟨c', hv, hy, hwc⟩ := plainElem_int_inv Try.underlying3 hRv
    refine ⟨fun i hi => ?_, fun hn => ?_⟩
    · have := h1 i hi .nil
      rw [hD, hat .nil, hy] at this
      injection this with this
      injection this with _ this
      rw [hrun, hv, this]
    · have := h2 hn .nil
      rw [hD, hat .nil, hy] at this
      cases this
def setF (f : Int × ByteArray → Option Nat) (k : Int × ByteArray) (i : Nat) : Int × ByteArray → Option Nat := fun k' => if k' = k then some i else f k'
theorem keyV_inj {a b : Int × ByteArray} (h : keyV a = keyV b) : a = b := by
  unfold keyV at h
  injection h with h
  have := congrArg Array.toList h
  simp at this
  exact Prod.ext this.1 this.2
theorem Mp.put {W : World} {m N : Nat} {f : Int × ByteArray → Option Nat} (h : Mp W m N f) {k : Int × ByteArray} (hk : okK k) (i : Nat) (hi : i ≤ 1000000000) (hN : N < maxLen) :
    ∃ w', (Instr.mapUpdate 50 (.map (some m)) (keyV k) (.int .i64 i)).run Try.prog W = .ok () w' ∧ Mp w' m (N + 1) (setF f k i) ∧ W.grownBy w' (some m) := by
  obtain ⟨D, h1, h2, hf⟩ := h.ex
  obtain ⟨l, hl⟩ := hk.lit
  obtain ⟨w', e1, e2, e3⟩ := h1.update keyed74 Try.underlying50 hN hl (plainElem_int Try.underlying3 (wf64 (n := i) (by omega)))
  refine ⟨w', e1, ⟨_, e2, h2.put (keyed74.key hl) _, fun k' hk' l' hl' => ?_⟩, e3⟩
  unfold setF
  by_cases e : k' = k
  · subst e
    rw [hl] at hl'; cases hl'
    rw [if_pos rfl]
    exact ⟨fun i' hi' z => by cases hi'; exact Go.Maps.atKey_put_same h2.isMap (keyed74.key hl) _ z, fun h => by cases h⟩
  · rw [if_neg e]
    have hne : l' ≠ l := fun e' => by subst e'; exact e (keyV_inj (keyed74.inj hl' hl))
    obtain ⟨a1, a2⟩ := hf k' hk' l' hl'
    exact ⟨fun i' hi' z => by rw [Go.Maps.atKey_put_other hne]; exact a1 i' hi' z, fun hn z => by rw [Go.Maps.atKey_put_other hne]; exact a2 hn z⟩
/-- the first place of each key -/
def firstsF (l : List Rs) (k : Int × ByteArray) : Option Nat := l.findIdx? (fun r => decide (r.key = k))
end Go.Proofs.Ytmljljpldljpjab
