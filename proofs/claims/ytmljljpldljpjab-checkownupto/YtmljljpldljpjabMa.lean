/-
  What is merged, step by step: plain.
-/
import Derived.Test.YtmljljpldljpjabMm
namespace Go.Proofs.Ytmljljpldljpjab
open Go.RowKit
set_option linter.unusedVariables false
set_option linter.unusedSimpArgs false
theorem firstsF_none_iff {l : List Rs} {k : Int × ByteArray} : firstsF l k = none ↔ ∀ x ∈ l, x.key ≠ k := by
  unfold firstsF
  rw [List.findIdx?_eq_none_iff]
  constructor
  · intro h x hx; simpa using h x hx
  · intro h x hx; simpa using h x hx
theorem firstsF_get {l : List Rs} {k : Int × ByteArray} {j : Nat} (h : firstsF l k = some j) : ∃ r, l[j]? = some r ∧ r.key = k := by
  unfold firstsF at h
  obtain ⟨hj, h3, _⟩ := List.findIdx?_eq_some_iff_getElem.1 h
  exact ⟨l[j], List.getElem?_eq_getElem _, by simpa using h3⟩
theorem dropK_mem {l : List Rs} (h : KS l) {k : Int × ByteArray} {x : Rs} : x ∈ dropK l k ↔ x ∈ l ∧ x.key ≠ k := by
  unfold dropK
  rcases hf : firstsF l k with _ | j
  · dsimp only
    rw [firstsF_none_iff] at hf
    exact ⟨fun hx => ⟨hx, hf x hx⟩, fun hx => hx.1⟩
  · dsimp only
    obtain ⟨r, hr, hk⟩ := firstsF_get hf
    have hj := (List.getElem?_eq_some_iff.1 hr).1
    have hrj := (List.getElem?_eq_some_iff.1 hr).2
    have e : l = l.take j ++ r :: l.drop (j + 1) := by
      have := List.take_append_drop j l
      rw [List.drop_eq_getElem_cons hj, hrj] at this
      exact this.symm
    have hks : KS (l.take j ++ r :: l.drop (j + 1)) := by rw [← e]; exact h
    rw [KS, List.pairwise_append] at hks
    obtain ⟨_, h2, h3⟩ := hks
    obtain ⟨h4, _⟩ := List.pairwise_cons.1 h2
    have hne : ∀ y, y ∈ l.take j ++ l.drop (j + 1) → y.key ≠ k := by
      intro y hy
      rcases List.mem_append.1 hy with hy | hy
      · intro e'
        have := h3 y hy r (by simp)
        rw [e', hk] at this
        exact klt_irrefl _ this
      · intro e'
        have := h4 y hy
        rw [e', hk] at this
        exact klt_irrefl _ this
    constructor
    · intro hx
      refine ⟨?_, hne x hx⟩
      rw [e]
      rcases List.mem_append.1 hx with hx | hx
      · exact List.mem_append.2 (.inl hx)
      · exact List.mem_append.2 (.inr (by simp [hx]))
    · rintro ⟨hx, hxk⟩
      rw [e] at hx
      rcases List.mem_append.1 hx with hx | hx
      · exact List.mem_append.2 (.inl hx)
      · rcases List.mem_cons.1 hx with hx | hx
        · subst hx; exact absurd hk hxk
        · exact List.mem_append.2 (.inr hx)
/-- what stands behind i documents of which none is wrong -/
structure AllI (C D : List Rs) (i : Nat) : Prop where
  ks : KS (allM C D i)
  mem : ∀ x, x ∈ allM C D i ↔ (x ∈ C ∧ ∀ d ∈ D.take i, d.key ≠ x.key) ∨ (x ∈ D.take i ∧ x.del = false)
theorem AllI.zero {C D : List Rs} (h : KS C) : AllI C D 0 := ⟨h, fun x => by simp [allM]⟩
theorem AllI.step {C D : List Rs} {i : Nat} {d : Rs} (h : AllI C D i) (hd : D[i]? = some d) (hf : firstsF D d.key = some i) : AllI C D (i + 1) := by
  have hnew : ∀ x ∈ D.take i, x.key ≠ d.key := by
    intro x hx e
    obtain ⟨j, hj⟩ := List.getElem?_of_mem hx
    have hji : j < i := by have := (List.getElem?_eq_some_iff.1 hj).1; simp at this; omega
    rw [List.getElem?_take_of_lt hji] at hj
    unfold firstsF at hf
    obtain ⟨_, _, h3⟩ := List.findIdx?_eq_some_iff_getElem.1 hf
    have := h3 j hji
    have e2 := (List.getElem?_eq_some_iff.1 hj).2
    rw [e2] at this
    simp [e] at this
  have hdk : ∀ x, x ∈ dropK (allM C D i) d.key ↔ x ∈ allM C D i ∧ x.key ≠ d.key := fun x => dropK_mem h.ks
  have hks := dropK_KS h.ks d.key
  have hmem : ∀ x, x ∈ dropK (allM C D i) d.key ↔ (x ∈ C ∧ ∀ e ∈ D.take (i + 1), e.key ≠ x.key) ∨ (x ∈ D.take i ∧ x.del = false) := by
    intro x
    rw [hdk x, h.mem, take_snoc hd]
    constructor
    · rintro ⟨h1 | h1, h2⟩
      · refine .inl ⟨h1.1, fun e he => ?_⟩
        rcases List.mem_append.1 he with he | he
        · exact h1.2 e he
        · simp at he; subst he; exact fun e' => h2 e'.symm
      · exact .inr h1
    · rintro (h1 | h1)
      · exact ⟨.inl ⟨h1.1, fun e he => h1.2 e (List.mem_append.2 (.inl he))⟩, fun e' => h1.2 d (by simp) e'.symm⟩
      · exact ⟨.inr h1, hnew x h1.1⟩
  constructor
  · rw [allM_step hd]
    unfold stepM
    split
    · exact hks
    · refine putM_KS hks (fun x hx => ?_)
      exact ((hdk x).1 hx).2
  · intro x
    rw [allM_step hd]
    unfold stepM
    by_cases hdel : d.del = true
    · rw [if_pos hdel, hmem, take_snoc hd]
      constructor
      · rintro (h1 | h1)
        · exact .inl h1
        · exact .inr ⟨List.mem_append.2 (.inl h1.1), h1.2⟩
      · rintro (h1 | ⟨h1, h2⟩)
        · exact .inl h1
        · rcases List.mem_append.1 h1 with h1 | h1
          · exact .inr ⟨h1, h2⟩
          · simp at h1; subst h1; rw [hdel] at h2; cases h2
    · have hdel' : d.del = false := by simpa using hdel
      rw [if_neg hdel, putM_mem, hmem, take_snoc hd]
      constructor
      · rintro (h1 | h1 | h1)
        · subst h1; exact .inr ⟨by simp, hdel'⟩
        · exact .inl h1
        · exact .inr ⟨List.mem_append.2 (.inl h1.1), h1.2⟩
      · rintro (h1 | ⟨h1, h2⟩)
        · exact .inr (.inl h1)
        · rcases List.mem_append.1 h1 with h1 | h1
          · exact .inr (.inr ⟨h1, h2⟩)
          · simp at h1; exact .inl h1
/-- whether a key stands there -/
theorem AllI.has {C D : List Rs} {i : Nat} {d : Rs} (h : AllI C D i) (hd : D[i]? = some d) (hf : firstsF D d.key = some i) : firstsF (allM C D i) d.key = none ↔ firstsF C d.key = none := by
  rw [firstsF_none_iff, firstsF_none_iff]
  have hnew : ∀ x ∈ D.take i, x.key ≠ d.key := by
    intro x hx e
    obtain ⟨j, hj⟩ := List.getElem?_of_mem hx
    have hji : j < i := by have := (List.getElem?_eq_some_iff.1 hj).1; simp at this; omega
    rw [List.getElem?_take_of_lt hji] at hj
    unfold firstsF at hf
    obtain ⟨_, _, h3⟩ := List.findIdx?_eq_some_iff_getElem.1 hf
    have := h3 j hji
    have e2 := (List.getElem?_eq_some_iff.1 hj).2
    rw [e2] at this
    simp [e] at this
  constructor
  · intro hn x hx e
    exact hn x ((h.mem x).2 (.inl ⟨hx, fun d' hd' e' => hnew d' hd' (e'.trans e)⟩)) e
  · intro hn x hx e
    rcases (h.mem x).1 hx with h1 | h1
    · exact hn x h1.1 e
    · exact hnew x h1.1 e
end Go.Proofs.Ytmljljpldljpjab
