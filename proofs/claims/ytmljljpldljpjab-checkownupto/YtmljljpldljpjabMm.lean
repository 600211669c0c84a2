/-
  Documents merged into a configuration: plain.
-/
import Derived.Test.YtmljljpldljpjabDm
namespace Go.Proofs.Ytmljljpldljpjab
open Go.RowKit
set_option linter.unusedVariables false
set_option linter.unusedSimpArgs false
/-- whether the one at i may stand there -/
def okAt (C : List Rs) (i : Nat) (r : Rs) : Bool := decide (1 ≤ r.kd) && decide (r.kd ≤ 4) && !r.del && (decide (i = 0) || (match C[i - 1]? with | some q => lessB q r | none => true))
def badI (C : List Rs) (i : Nat) : Bool := match C[i]? with | some r => !okAt C i r | none => false
/-- the first one out of order; how many there are, if none is -/
def astF (C : List Rs) : Nat := ((List.range C.length).find? (badI C)).getD C.length
theorem find_range {p : Nat → Bool} {n i : Nat} (h1 : ∀ j, j < i → p j = false) (h2 : p i = true) (hi : i < n) : (List.range n).find? p = some i := by
  rw [List.find?_eq_some_iff_append]
  refine ⟨h2, List.range i, (List.range n).drop (i + 1), ?_, fun j hj => by rw [h1 j (by simpa using hj)]; rfl⟩
  apply List.ext_getElem?
  intro j
  by_cases hj : j < i
  · rw [List.getElem?_append_left (by simpa using hj)]
    simp [List.getElem?_range, hj, Nat.lt_trans hj hi]
  · rw [List.getElem?_append_right (by simp; omega)]
    simp only [List.length_range]
    rcases hji : j - i with _ | k
    · have : j = i := by omega
      subst this; simp [hi]
    · have : j = i + 1 + k := by omega
      subst this
      simp [List.getElem?_drop]
theorem find_none {p : Nat → Bool} {n : Nat} (h : ∀ j, j < n → p j = false) : (List.range n).find? p = none := by
  rw [List.find?_eq_none]
  intro j hj
  rw [h j (by simpa using hj)]; simp
theorem astF_stop {C : List Rs} {i : Nat} {r : Rs} (h1 : ∀ (j : Nat) (x : Rs), j < i → C[j]? = some x → okAt C j x = true) (h2 : C[i]? = some r) (h3 : okAt C i r = false) : astF C = i := by
  have hi := (List.getElem?_eq_some_iff.1 h2).1
  unfold astF
  rw [find_range (i := i) (fun j hj => ?_) ?_ hi]
  · rfl
  · unfold badI; rw [h2]; simp [h3]
  · unfold badI
    have : j < C.length := by omega
    rw [List.getElem?_eq_getElem this]
    simp [h1 j _ hj (List.getElem?_eq_getElem this)]
theorem astF_all {C : List Rs} (h1 : ∀ (j : Nat) (x : Rs), C[j]? = some x → okAt C j x = true) : astF C = C.length := by
  unfold astF
  rw [find_none (fun j hj => ?_)]
  · rfl
  · unfold badI
    rw [List.getElem?_eq_getElem hj]
    simp [h1 j _ (List.getElem?_eq_getElem hj)]
theorem astF_le (C : List Rs) : astF C ≤ C.length := by
  unfold astF
  rcases h : (List.range C.length).find? (badI C) with _ | i
  · exact Nat.le_refl _
  · have := List.mem_of_find?_eq_some h
    simp at this
    exact Nat.le_of_lt this
theorem astF_ok {C : List Rs} (h : astF C = C.length) : ∀ (j : Nat) (x : Rs), C[j]? = some x → okAt C j x = true := by
  intro j x hj
  have hjl := (List.getElem?_eq_some_iff.1 hj).1
  rcases hf : (List.range C.length).find? (badI C) with _ | i
  · have := List.find?_eq_none.1 hf j (by simpa using hjl)
    unfold badI at this
    rw [hj] at this
    simpa using this
  · exfalso
    have e : astF C = i := by unfold astF; rw [hf]; rfl
    have := List.mem_of_find?_eq_some hf
    simp at this
    omega
/-- what is in order -/
structure Ordd (C : List Rs) : Prop where
  ks : KS C
  kind : ∀ r ∈ C, 1 ≤ r.kd ∧ r.kd ≤ 4 ∧ r.del = false
theorem astF_ord {C : List Rs} (h : astF C = C.length) : Ordd C := by
  have hok := astF_ok h
  refine ⟨?_, fun r hr => ?_⟩
  · unfold KS
    rw [List.pairwise_iff_getElem]
    intro i j hi hj hij
    induction j with
    | zero => omega
    | succ j ih =>
      have hs := hok (j + 1) _ (List.getElem?_eq_getElem hj)
      unfold okAt at hs
      simp only [Nat.add_sub_cancel, Bool.and_eq_true, Bool.or_eq_true] at hs
      have hl : lessB C[j] C[j + 1] = true := by
        rcases hs.2 with h0 | h0
        · simp at h0
        · rw [List.getElem?_eq_getElem (by omega : j < C.length)] at h0; exact h0
      have hk := (lessB_iff _ _).1 hl
      by_cases hij' : i = j
      · subst hij'; exact hk
      · exact klt_trans (ih (by omega) (by omega)) hk
  · obtain ⟨i, hi⟩ := List.getElem?_of_mem hr
    have := hok i r hi
    unfold okAt at this
    simp only [Bool.and_eq_true, decide_eq_true_iff, Bool.not_eq_true'] at this
    exact ⟨this.1.1.1, this.1.1.2, this.1.2⟩
/-- what is wrong with the document at i: 0: nothing -/
def errF (C D : List Rs) (i : Nat) (r : Rs) : Int := if r.kd < 1 ∨ 4 < r.kd then 2 else if firstsF D r.key ≠ some i then 91 else if r.del = true ∧ firstsF C r.key = none then 290 else 0
def wrongF (C D : List Rs) : Option (Nat × Int) := match (List.range D.length).find? (fun i => match D[i]? with | some r => decide (errF C D i r ≠ 0) | none => false) with | some i => some (i, match D[i]? with | some r => errF C D i r | none => 0) | none => none
theorem wrongF_stop {C D : List Rs} {i : Nat} {r : Rs} (h1 : ∀ (j : Nat) (x : Rs), j < i → D[j]? = some x → errF C D j x = 0) (h2 : D[i]? = some r) (h3 : errF C D i r ≠ 0) : wrongF C D = some (i, errF C D i r) := by
  have hi := (List.getElem?_eq_some_iff.1 h2).1
  unfold wrongF
  rw [find_range (i := i) (fun j hj => ?_) ?_ hi]
  · simp [h2]
  · rw [h2]; simpa using h3
  · have : j < D.length := by omega
    rw [List.getElem?_eq_getElem this]
    simp [h1 j _ hj (List.getElem?_eq_getElem this)]
theorem wrongF_none {C D : List Rs} (h1 : ∀ (j : Nat) (x : Rs), D[j]? = some x → errF C D j x = 0) : wrongF C D = none := by
  unfold wrongF
  rw [find_none (fun j hj => ?_)]
  rw [List.getElem?_eq_getElem hj]
  simp [h1 j _ (List.getElem?_eq_getElem hj)]
/-- what is merged, unsorted -/
def mergL (C D : List Rs) : List Rs := C.filter (fun r => (firstsF D r.key).isNone) ++ D.filter (fun r => !r.del)
def dropK (l : List Rs) (k : Int × ByteArray) : List Rs := match firstsF l k with | some j => l.take j ++ l.drop (j + 1) | none => l
def stepM (all : List Rs) (d : Rs) : List Rs := if d.del = true then dropK all d.key else putM (dropK all d.key) d
def allM (C D : List Rs) (i : Nat) : List Rs := (D.take i).foldl stepM C
theorem allM_step {C D : List Rs} {i : Nat} {d : Rs} (h : D[i]? = some d) : allM C D (i + 1) = stepM (allM C D i) d := by
  unfold allM; rw [take_snoc h, List.foldl_append]; rfl
theorem dropK_KS {l : List Rs} (h : KS l) (k : Int × ByteArray) : KS (dropK l k) := by
  unfold dropK
  split
  · rename_i j _
    have : (l.take j ++ l.drop (j + 1)).Sublist l := by
      have h1 : (l.drop (j + 1)).Sublist (l.drop j) := by
        have e : l.drop (j + 1) = (l.drop j).drop 1 := by rw [List.drop_drop]
        rw [e]; exact List.drop_sublist 1 (l.drop j)
      have := (List.Sublist.refl (l.take j)).append h1
      rwa [List.take_append_drop] at this
    exact h.sublist this
  · exact h
end Go.Proofs.Ytmljljpldljpjab
