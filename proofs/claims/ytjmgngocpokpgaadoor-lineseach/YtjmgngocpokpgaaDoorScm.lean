/-
  A plain scalar as the document's own reader finds it.
-/
import Derived.Test.YtjmgngocpokpgaaDoorRf6
import Derived.Test.YtjmgngocpokpgaaDoorPlm
namespace Go.Proofs.YtjmgngocpokpgaaDoor
open Go.RowKit
set_option linter.unusedVariables false
set_option linter.unusedSimpArgs false
/-- Where a plain scalar ends: from place k on, the end so far e. -/
def endG : List UInt8 → Nat → Nat → Nat
  | [], k, e => e
  | c :: r, k, e => if c = 32 ∧ r.head? = some 35 then e else endG r (k + 1) (if c = 32 then e else k + 1)
theorem trimR_pre (p : List UInt8) : Lib.trimRightB p 32 = p.take (Lib.trimRightB p 32).length := by
  unfold Lib.trimRightB
  have h : (p.reverse.dropWhile (· == 32)).reverse <+: p := by
    have := List.reverse_prefix.2 (List.dropWhile_suffix (l := p.reverse) (· == (32 : UInt8)))
    rwa [List.reverse_reverse] at this
  obtain ⟨t, ht⟩ := h
  conv => lhs; rw [← List.take_left (l₁ := (p.reverse.dropWhile (· == 32)).reverse) (l₂ := t), ht]
theorem trimR_snoc (p : List UInt8) (c : UInt8) : (Lib.trimRightB (p ++ [c]) 32).length = if c = 32 then (Lib.trimRightB p 32).length else p.length + 1 := by
  unfold Lib.trimRightB
  rw [List.reverse_append]
  simp only [List.reverse_cons, List.reverse_nil, List.nil_append, List.cons_append]
  by_cases h : c = 32
  · rw [if_pos h, List.dropWhile_cons_of_pos (by simpa using h)]
  · rw [if_neg h, List.dropWhile_cons_of_neg (by simpa using h)]
    simp
theorem cut_blank (r : List UInt8) : (Lib.cut (32 :: 35 :: r) [32, 35]).1 = [] := by
  have h : Lib.index (32 :: 35 :: r) [32, 35] = 0 := by simp [Lib.index, List.isPrefixOf]
  unfold Lib.cut
  rw [h]
  rfl
theorem cut_step (c : UInt8) (r : List UInt8) (h : ¬ (c = 32 ∧ r.head? = some 35)) : (Lib.cut (c :: r) [32, 35]).1 = c :: (Lib.cut r [32, 35]).1 := by
  have hp : ([32, 35] : List UInt8).isPrefixOf (c :: r) = false := by
    rw [Bool.eq_false_iff]
    intro hh
    apply h
    rcases r with _ | ⟨d, r⟩
    · simp [List.isPrefixOf] at hh
    · simp [List.isPrefixOf] at hh
      exact ⟨hh.1.symm, by simp [hh.2.symm]⟩
  have hi : Lib.index (c :: r) [32, 35] = if Lib.index r [32, 35] == -1 then -1 else Lib.index r [32, 35] + 1 := by
    conv => lhs; unfold Lib.index
    rw [hp]
    rfl
  unfold Lib.cut
  rw [hi]
  rcases Lib.index_spec r [32, 35] with ⟨e, _⟩ | ⟨i, e, _⟩
  · rw [e]
    simp
  · rw [e]
    have : ((i : Int) == -1) = false := by rw [beq_eq_false_iff_ne]; omega
    have h1 : ((i : Int) + 1).toNat = i + 1 := by omega
    have h2 : (if ((i : Int) == -1) = true then (-1 : Int) else (i : Int) + 1) = (i : Int) + 1 := by rw [this]; rfl
    rw [h2, if_pos (by omega), if_pos (by omega), h1]
    simp
theorem cut_end : ∀ (r p : List UInt8), Lib.trimRightB (p ++ (Lib.cut r [32, 35]).1) 32 = (p ++ r).take (endG r p.length (Lib.trimRightB p 32).length)
  | [], p => by
    have : (Lib.cut [] [32, 35]).1 = [] := rfl
    rw [this, List.append_nil]
    exact trimR_pre p
  | c :: r, p => by
    by_cases h : c = 32 ∧ r.head? = some 35
    · obtain ⟨rfl, hr⟩ := h
      rcases r with _ | ⟨d, r⟩
      · cases hr
      · cases hr
        rw [cut_blank, List.append_nil, endG, if_pos ⟨rfl, rfl⟩, List.take_append_of_le_length (trimR_le p)]
        exact trimR_pre p
    · rw [cut_step c r h, endG, if_neg h]
      have ih := cut_end r (p ++ [c])
      rw [trimR_snoc] at ih
      simpa using ih
/-- The text of a plain scalar. -/
theorem cutF_end (d : List UInt8) : cutF d = d.take (endG d 0 0) := by
  have := cut_end d []
  simpa [cutF, Lib.trimRightB] using this
/-- A colon that would make it a key. -/
def ColB (t : List UInt8) : Prop := ∃ k, t[k]? = some 58 ∧ (k + 1 = t.length ∨ t[k + 1]? = some 32)
theorem col_iff (t : List UInt8) : (Lib.contains t [58, 32] = true ∨ Lib.hasSuffix t [58] = true) ↔ ColB t := by
  constructor
  · rintro (h | h)
    · unfold Lib.contains at h
      have h' := of_decide_eq_true h
      rcases Lib.index_spec t [58, 32] with ⟨e, _⟩ | ⟨i, e, _, ho, _⟩
      · rw [e] at h'; omega
      · unfold Lib.occAt at ho
        obtain ⟨y, hy⟩ := List.isPrefixOf_iff_prefix.1 ho
        have h0 : (t.drop i)[0]? = some 58 := by rw [← hy]; rfl
        have h1 : (t.drop i)[1]? = some 32 := by rw [← hy]; rfl
        rw [List.getElem?_drop] at h0 h1
        exact ⟨i, by simpa using h0, .inr h1⟩
    · unfold Lib.hasSuffix at h
      obtain ⟨x, hx⟩ := List.isSuffixOf_iff_suffix.1 h
      refine ⟨x.length, ?_, .inl ?_⟩
      · rw [← hx]; simp
      · rw [← hx]; simp
  · rintro ⟨k, hk, h | h⟩
    · refine .inr ?_
      unfold Lib.hasSuffix
      rw [List.isSuffixOf_iff_suffix]
      refine ⟨t.take k, ?_⟩
      have hd := drop_cons hk
      have hn : t.drop (k + 1) = [] := List.drop_eq_nil_of_le (by omega)
      rw [hn] at hd
      rw [← hd]
      exact List.take_append_drop k t
    · refine .inl ?_
      have hd := drop_cons hk
      rw [drop_cons h] at hd
      have := index_mid (t.take k) [58, 32] (t.drop (k + 2))
      unfold Lib.contains
      refine decide_eq_true ?_
      have e : t.take k ++ ([58, 32] ++ t.drop (k + 2)) = t := by
        have := List.take_append_drop k t
        rw [hd] at this
        exact this
      rwa [e] at this
end Go.Proofs.YtjmgngocpokpgaaDoor
