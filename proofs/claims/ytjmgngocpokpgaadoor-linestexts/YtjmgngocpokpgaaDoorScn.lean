/-
  A plain scalar: what the program asks and what the document asks are the same.
-/
import Derived.Test.YtjmgngocpokpgaaDoorSc1
namespace Go.Proofs.YtjmgngocpokpgaaDoor
open Go.RowKit
set_option linter.unusedVariables false
set_option linter.unusedSimpArgs false
theorem endG_ge : ∀ (r : List UInt8) (k e : Nat), e ≤ k → e ≤ endG r k e
  | [], k, e, h => Nat.le_refl _
  | c :: r, k, e, h => by
    rw [endG]
    split
    · exact Nat.le_refl _
    · split
      · exact endG_ge r (k + 1) e (by omega)
      · exact Nat.le_trans (by omega) (endG_ge r (k + 1) (k + 1) (Nat.le_refl _))
theorem endG_le : ∀ (r : List UInt8) (k e : Nat), e ≤ k → endG r k e ≤ k + r.length
  | [], k, e, h => by rw [endG]; simp; omega
  | c :: r, k, e, h => by
    rw [endG]
    split
    · simp; omega
    · split
      · have := endG_le r (k + 1) e (by omega); simp; omega
      · have := endG_le r (k + 1) (k + 1) (Nat.le_refl _); simp; omega
theorem end_one (c : UInt8) (r : List UInt8) (hc : ¬ c = 32) : endG (c :: r) 0 0 = endG r 1 1 := by
  rw [endG, if_neg (fun h => hc h.1), if_neg hc]
theorem cutF_cons (c : UInt8) (r : List UInt8) (hc : ¬ c = 32) : cutF (c :: r) = c :: r.take (endG r 1 1 - 1) := by
  rw [cutF_end, end_one c r hc]
  have := endG_ge r 1 1 (Nat.le_refl _)
  obtain ⟨m, hm⟩ : ∃ m, endG r 1 1 = m + 1 := ⟨endG r 1 1 - 1, by omega⟩
  rw [hm]
  simp
theorem itm_cut (c : UInt8) (r : List UInt8) (hc : ¬ c = 32) : itmF (cutF (c :: r)) = itmF (c :: r) := by
  rw [cutF_cons c r hc]
  by_cases h45 : c = 45
  · subst h45
    rcases r with _ | ⟨e, s⟩
    · rfl
    · by_cases he : e = 32
      · subst he
        rcases hm : endG (32 :: s) 1 1 - 1 with _ | m
        · simp [itmF, Lib.hasPrefix, List.isPrefixOf]
        · simp [itmF, Lib.hasPrefix, List.isPrefixOf]
      · have h2 : 2 ≤ endG (e :: s) 1 1 := by
          rw [endG, if_neg (fun h => he h.1), if_neg he]
          exact endG_ge s 2 2 (Nat.le_refl _)
        obtain ⟨m, hm⟩ : ∃ m, endG (e :: s) 1 1 - 1 = m + 1 := ⟨endG (e :: s) 1 1 - 2, by omega⟩
        rw [hm]
        simp [itmF, Lib.hasPrefix, List.isPrefixOf, Ne.symm he]
  · have e1 : (c == (45 : UInt8)) = false := by rw [beq_eq_false_iff_ne]; exact h45
    have e2 : ((45 : UInt8) == c) = false := by rw [beq_eq_false_iff_ne]; exact Ne.symm h45
    simp [itmF, Lib.hasPrefix, List.isPrefixOf, e1, e2]
theorem nop_iff : ∀ n : Fin 256, (0 ≤ Lib.indexByte nopL (UInt8.ofNat n.val)) ↔ (n.val = 32 ∨ ∃ j : Fin 18, badD j.val = UInt8.ofNat n.val) := by decide +kernel
theorem pln_ref (c : UInt8) (r : List UInt8) (hc : ¬ c = 32) :
    (fstF c (c :: r) = true ∧ ¬ ColB (cutF (c :: r)) ∧ ¬ cutF (c :: r) = [45, 45, 45] → plnF (c :: r) = cutF (c :: r)) ∧ (¬ (fstF c (c :: r) = true ∧ ¬ ColB (cutF (c :: r)) ∧ ¬ cutF (c :: r) = [45, 45, 45]) → plnF (c :: r) = []) := by
  have hi := itm_cut c r hc
  have hcol := col_iff (cutF (c :: r))
  have hn : (0 ≤ Lib.indexByte nopL c) ↔ ∃ j : Fin 18, badD j.val = c := by
    have := nop_iff ⟨c.toNat, c.toNat_lt⟩
    simp only [UInt8.ofNat_toNat] at this
    rw [this]
    constructor
    · rintro (h | h)
      · exact absurd (UInt8.toNat_inj.1 (by show c.toNat = 32; exact h)) hc
      · exact h
    · exact .inr
  have hf : fstF c (c :: r) = true ↔ (¬ 0 ≤ Lib.indexByte nopL c) ∧ itmF (cutF (c :: r)) = false := by
    unfold fstF
    rw [hi, hn, Bool.and_eq_true, decide_eq_true_iff]
    simp
  rw [hf, ← hcol]
  unfold plnF
  have ht := cutF_cons c r hc
  rw [ht]
  generalize r.take (endG r 1 1 - 1) = s
  unfold plnG
  dsimp only
  constructor
  · rintro ⟨⟨a, b⟩, d, e⟩
    rw [if_neg (by simpa using e), if_neg (by rw [b]; simp), if_neg a, if_neg (fun h => d (.inl h)), if_neg (fun h => d (.inr h))]
  · intro h
    split
    · rfl
    · rename_i h1
      split
      · rfl
      · rename_i h2
        split
        · rfl
        · rename_i h3
          split
          · rfl
          · rename_i h4
            split
            · rfl
            · rename_i h5
              exact absurd ⟨⟨h3, by simpa using h2⟩, fun h => h.elim h4 h5, by simpa using h1⟩ h
end Go.Proofs.YtjmgngocpokpgaaDoor
