/- Sets of texts; each text at its first place alone. -/
import Derived.Test.YtidpglbokpgpbaaRd
namespace Go.Proofs.Ytidpglbokpgpbaa
open Go.RowKit
set_option linter.unusedVariables false
set_option linter.unusedSimpArgs false
set_option maxRecDepth 100000
theorem zero88 (w : World) : (zeroValue 88).run Try.prog w = .ok (.agg #[]) w := by kernel_rfl
/-- how a mark reads -/
def Rz : Value → Option (DataW Unit × List MemPlace)
  | .agg ⟨[]⟩ => some (.lit (.bool true), [])
  | _ => none
theorem rz_inv {v : Value} {d : DataW Unit} {ps : List MemPlace} (h : Rz v = some (d, ps)) : v = .agg #[] ∧ d = .lit (.bool true) := by
  unfold Rz at h
  split at h
  · simp at h
    exact ⟨rfl, h.1.symm⟩
  · cases h
/-- a set of texts -/
structure Ss (W : World) (m N : Nat) (f : ByteArray → Bool) : Prop where
  ex : ∃ D : DataW Unit, W.ownsMap Try.prog 9 Rz m N D ∧ Go.Maps.Tidy D ∧ ∀ k, okS k → ∀ l, keyOf Try.prog 9 (.string k) = some l → (f k = true → ∀ z, D.atKey l z = .lit (.bool true)) ∧ (f k = false → ∀ z, D.atKey l z = z)
theorem Ss.lt {W : World} {m N : Nat} {f : ByteArray → Bool} (h : Ss W m N f) : m < W.heap.size := by obtain ⟨D, h1, _⟩ := h.ex; exact h1.lt
theorem Ss.keep {W W' : World} {m N : Nat} {f : ByteArray → Bool} (h : Ss W m N f) (hb : W'.heap[m]? = W.heap[m]?) : Ss W' m N f := by
  obtain ⟨D, ⟨es, clock, h2, rest⟩, h3⟩ := h.ex
  exact ⟨D, ⟨es, clock, hb.trans h2, rest⟩, h3⟩
theorem Ss.below {W W' : World} {m N : Nat} {f : ByteArray → Bool} (h : Ss W m N f) (hb : Below W.heap.size W W') : Ss W' m N f := h.keep (hb.block m h.lt)
theorem Ss.made (W : World) : Ss (W.alloc (.map #[] 0)) W.heap.size 0 (fun _ => false) :=
  ⟨.map [], World.ownsMap_made (H := Unit) W Try.prog 9 _, Go.Maps.tidy_empty, fun k _ l _ => ⟨(fun h => by cases h), (fun _ z => rfl)⟩⟩
theorem Ss.isMap {W : World} {m N : Nat} {f : ByteArray → Bool} (h : Ss W m N f) : ∃ es c, W.heap[m]? = some (.map es c) := by obtain ⟨D, ⟨es, clock, h2, rest⟩, _⟩ := h.ex; exact ⟨es, clock, h2⟩
theorem Ss.look {W : World} {m N : Nat} {f : ByteArray → Bool} (h : Ss W m N f) {k : ByteArray} (hk : okS k) :
    (Instr.lookup 87 (.map (some m)) (.string k) true).run Try.prog W = .ok (.tuple #[.agg #[], .bool (f k)]) W := by
  obtain ⟨D, ⟨es, clock, hb, F, _, hD⟩, _, hf⟩ := h.ex
  obtain ⟨l, hl⟩ := (okS_lit hk)
  obtain ⟨h1, h2⟩ := hf k hk l hl
  rcases Go.Maps.fit_look true keyed9 Try.underlying87 (zero88 W) hb F hl with ⟨hrun, _, hat⟩ | ⟨e0, y, _, _, hrun, hRv, hat, _⟩
  · cases e : f k with
    | false => exact hrun
    | true =>
      have := h1 e .nil
      rw [hD, hat .nil] at this
      cases this
  · obtain ⟨hv, hy⟩ := rz_inv hRv
    cases e : f k with
    | true => rw [hrun, hv]; rfl
    | false =>
      have := h2 e .nil
      rw [hD, hat .nil, hy] at this
      cases this
def setB (f : ByteArray → Bool) (k : ByteArray) : ByteArray → Bool := fun k' => if k' = k then true else f k'
theorem Ss.put {W : World} {m N : Nat} {f : ByteArray → Bool} (h : Ss W m N f) {k : ByteArray} (hk : okS k) (hN : N < maxLen) :
    ∃ w', (Instr.mapUpdate 87 (.map (some m)) (.string k) (.agg #[])).run Try.prog W = .ok () w' ∧ Ss w' m (N + 1) (setB f k) ∧ W.grownBy w' (some m) := by
  obtain ⟨D, h1, h2, hf⟩ := h.ex
  obtain ⟨l, hl⟩ := (okS_lit hk)
  obtain ⟨w', e1, e2, e3⟩ := h1.update keyed9 Try.underlying87 hN hl (val := .agg #[]) (d := .lit (.bool true)) (ps := []) rfl
  refine ⟨w', e1, ⟨_, e2, h2.put (keyed9.key hl) _, fun k' hk' l' hl' => ?_⟩, e3⟩
  unfold setB
  by_cases e : k' = k
  · subst e
    rw [hl] at hl'; cases hl'
    rw [if_pos rfl]
    exact ⟨fun _ z => Go.Maps.atKey_put_same h2.isMap (keyed9.key hl) _ z, fun h => by cases h⟩
  · rw [if_neg e]
    have hne : l' ≠ l := fun e' => by subst e'; exact e (by have := keyed9.inj hl' hl; injection this)
    obtain ⟨a1, a2⟩ := hf k' hk' l' hl'
    exact ⟨fun hi' z => by rw [Go.Maps.atKey_put_other hne]; exact a1 hi' z, fun hn z => by rw [Go.Maps.atKey_put_other hne]; exact a2 hn z⟩
theorem makeMapE_n (n : Nat) (w : World) : (Instr.makeMap 87 (some (.int .i64 (n : Int)))).run Try.prog w = .ok (.map (some w.heap.size)) (w.alloc (.map #[] 0)) := by
  simp [Instr.makeMap, run_underlying Try.underlying87, Result.andThen, go_sem]
open Classical in
/-- each at its first place -/
noncomputable def uniqA (acc : List ByteArray) : List ByteArray → List ByteArray
  | [] => acc
  | s :: l => uniqA (if s ∈ acc then acc else acc ++ [s]) l
noncomputable def uniq (l : List ByteArray) : List ByteArray := uniqA [] l
theorem uniqA_append (acc l m : List ByteArray) : uniqA acc (l ++ m) = uniqA (uniqA acc l) m := by
  induction l generalizing acc with
  | nil => rfl
  | cons a l ih => simp only [List.cons_append, uniqA, ih]
open Classical in
theorem uniq_snoc (l : List ByteArray) (s : ByteArray) : uniq (l ++ [s]) = if s ∈ uniq l then uniq l else uniq l ++ [s] := by
  unfold uniq; rw [uniqA_append]; rfl
theorem uniqA_mem (acc l : List ByteArray) (x : ByteArray) : x ∈ uniqA acc l ↔ x ∈ acc ∨ x ∈ l := by
  induction l generalizing acc with
  | nil => simp [uniqA]
  | cons a l ih =>
    rw [uniqA, ih]
    by_cases h : a ∈ acc
    · rw [if_pos h, List.mem_cons]
      constructor
      · rintro (h1 | h1)
        · exact .inl h1
        · exact .inr (.inr h1)
      · rintro (h1 | rfl | h1)
        · exact .inl h1
        · exact .inl h
        · exact .inr h1
    · rw [if_neg h, List.mem_append, List.mem_singleton, List.mem_cons, or_assoc]
theorem uniq_mem (l : List ByteArray) (x : ByteArray) : x ∈ uniq l ↔ x ∈ l := by unfold uniq; rw [uniqA_mem]; simp
theorem uniqA_len (acc l : List ByteArray) : (uniqA acc l).length ≤ acc.length + l.length := by
  induction l generalizing acc with
  | nil => simp [uniqA]
  | cons a l ih =>
    rw [uniqA]
    refine Nat.le_trans (ih _) ?_
    split <;> simp <;> omega
theorem uniq_len (l : List ByteArray) : (uniq l).length ≤ l.length := by
  have := uniqA_len [] l
  simpa [uniq] using this
theorem uniqA_nodup (acc l : List ByteArray) (h : acc.Nodup) : (uniqA acc l).Nodup := by
  induction l generalizing acc with
  | nil => exact h
  | cons a l ih =>
    rw [uniqA]
    refine ih _ ?_
    split
    · exact h
    · rename_i hn
      rw [List.nodup_append]
      exact ⟨h, by simp, fun x hx y hy e => by simp at hy; subst hy; subst e; exact hn hx⟩
theorem uniq_nodup (l : List ByteArray) : (uniq l).Nodup := uniqA_nodup [] l List.nodup_nil
end Go.Proofs.Ytidpglbokpgpbaa
