/-
  What holds of patterns together: plain facts, no program.
-/
import Derived.Test.YtplbdnndpgfljaaPp
namespace Go.Proofs.Ytplbdnndpgfljaa
open Go.RowKit
set_option linter.unusedVariables false
set_option linter.unusedSimpArgs false
theorem srt_two' (l : List UInt8) (h : (srtF l).1 = 2) : (srtF l).2 = [] := by
  rcases srt_cases l with rfl | ⟨r, rfl, hh, hE⟩ | ⟨r, rfl, hh, hE⟩ | ⟨h1, h2, hh, hE⟩ | ⟨h1, h2, hh, hE⟩
  · rw [srt_all]
  all_goals rw [hE] at h; simp at h
/-- a sorted pattern, as they come -/
def Pat (p : Int × List UInt8) : Prop := (p.1 = 0 ∨ p.1 = 1 ∨ p.1 = 2 ∨ p.1 = 3) ∧ (p.1 = 2 → p.2 = [])
theorem pat_of (l : List UInt8) : Pat (srtF l) := ⟨srt_low l, srt_two' l⟩
theorem bel_iff (h a : List UInt8) : belF h a = true ↔ (46 :: a) <:+ h := by rw [belF, suf_iff]
theorem bel_nil (a : List UInt8) : ¬ belF [] a = true := by
  rw [bel_iff]; intro h; have := h.length_le; simp at this
theorem bel_trans {h a b : List UInt8} (h1 : belF h a = true) (h2 : belF a b = true) : belF h b = true := by
  rw [bel_iff] at *
  exact h2.trans ((List.suffix_cons 46 a).trans h1)
theorem bel_len {h a : List UInt8} (h1 : belF h a = true) : a.length < h.length := by
  rw [bel_iff] at h1; have := h1.length_le; simp at this; omega
theorem cov_iff (p q : Int × List UInt8) : covF p q = true ↔ p.1 ≠ 3 ∧ q.1 ≠ 3 ∧ (p.1 = 2 ∨ p = q ∨ (p.1 = 1 ∧ belF q.2 p.2 = true)) := by
  unfold covF
  simp only [Bool.and_eq_true, Bool.or_eq_true, Bool.not_eq_true', beq_eq_false_iff_ne, beq_iff_eq, ne_eq]
  constructor
  · rintro ⟨⟨h1, h2⟩, (h | h) | h⟩
    · exact ⟨h1, h2, .inl h⟩
    · exact ⟨h1, h2, .inr (.inl h)⟩
    · exact ⟨h1, h2, .inr (.inr h)⟩
  · rintro ⟨h1, h2, h | h | h⟩
    · exact ⟨⟨h1, h2⟩, .inl (.inl h)⟩
    · exact ⟨⟨h1, h2⟩, .inl (.inr h)⟩
    · exact ⟨⟨h1, h2⟩, .inr h⟩
theorem tak_iff (p : Int × List UInt8) (h : List UInt8) : takF p h = true ↔ (p.1 = 0 ∧ h = p.2) ∨ (p.1 = 1 ∧ belF h p.2 = true) ∨ p.1 = 2 := by
  unfold takF
  by_cases h0 : p.1 = 0
  · simp [h0]
  · by_cases h1 : p.1 = 1
    · simp [h1]
    · simp [h0, h1]
theorem within_pat {p q : Int × List UInt8} {h : List UInt8} (hq : Pat q) (h1 : covF p q = true) (h2 : takF q h = true) : takF p h = true := by
  rw [cov_iff] at h1
  rw [tak_iff] at h2 ⊢
  obtain ⟨a1, a2, h | h | ⟨h, hb⟩⟩ := h1
  · exact .inr (.inr h)
  · subst h; exact h2
  · refine .inr (.inl ⟨h, ?_⟩)
    rcases h2 with ⟨_, rfl⟩ | ⟨_, hc⟩ | hc
    · exact hb
    · exact bel_trans hc hb
    · rw [hq.2 hc] at hb; exact absurd hb (bel_nil _)
theorem within_host (a b s : List UInt8) (h1 : covM a b = true) (h2 : hostM b s = true) : hostM a s = true := by
  unfold hostM at h2 ⊢
  simp only [Bool.and_eq_true] at h2 ⊢
  exact ⟨h2.1, within_pat (pat_of b) h1 h2.2⟩
theorem beg_iff (a s : List UInt8) : begF a s = true ↔ starB a = true ∧ starT a <+: s := by
  unfold begF; rw [Bool.and_eq_true, pre_iff]
theorem starT_pre (a : List UInt8) : starT a <+: a := by
  unfold starT Lib.trimSuffix
  split
  · exact List.take_prefix _ _
  · exact List.prefix_refl _
theorem star_split {a : List UInt8} (h : starB a = true) : a = starT a ++ [42] := by
  have h2 := starT_yes h
  rw [starB, suf_iff] at h
  obtain ⟨p, rfl⟩ := h
  rw [h2]; simp
theorem cp_iff (a b : List UInt8) : cpM a b = true ↔ ppB a = true ∧ ppB b = true ∧ (a = b ∨ (starB a = true ∧ starT a <+: starT b)) := by
  unfold cpM
  simp only [Bool.and_eq_true, Bool.or_eq_true, beq_iff_eq, beg_iff]
  constructor
  · rintro ⟨⟨h1, h2⟩, h3⟩; exact ⟨h1, h2, h3⟩
  · rintro ⟨h1, h2, h3⟩; exact ⟨⟨h1, h2⟩, h3⟩
theorem pm_iff (a s : List UInt8) : pathM a s = true ↔ ppB a = true ∧ pathB s = true ∧ (a = s ∨ (starB a = true ∧ starT a <+: s)) := by
  unfold pathM
  simp only [Bool.and_eq_true, Bool.or_eq_true, beq_iff_eq, beg_iff]
  constructor
  · rintro ⟨⟨h1, h2⟩, h3⟩; exact ⟨h1, h2, h3⟩
  · rintro ⟨h1, h2, h3⟩; exact ⟨⟨h1, h2⟩, h3⟩
theorem within_path (a b s : List UInt8) (h1 : cpM a b = true) (h2 : pathM b s = true) : pathM a s = true := by
  rw [cp_iff] at h1
  rw [pm_iff] at h2 ⊢
  obtain ⟨c1, c2, h | ⟨h3, h4⟩⟩ := h1
  · subst h; exact h2
  · obtain ⟨e1, e2, rfl | ⟨_, h6⟩⟩ := h2
    · exact ⟨c1, e2, .inr ⟨h3, h4.trans (starT_pre _)⟩⟩
    · exact ⟨c1, e2, .inr ⟨h3, h4.trans h6⟩⟩
theorem within_meth (a b s : List UInt8) (h1 : cmM a b = true) (h2 : methM b s = true) : methM a s = true := by
  unfold cmM at h1
  unfold methM at h2 ⊢
  simp only [Bool.and_eq_true, Bool.or_eq_true, beq_iff_eq] at *
  obtain ⟨_, rfl | rfl⟩ := h1
  · exact ⟨h2.1, .inl rfl⟩
  · exact h2
theorem hp_iff (a : List UInt8) : hpB a = true ↔ (srtF a).1 ≠ 3 := by
  unfold hpB
  have := srt_low a
  simp only [decide_eq_true_eq]; omega
theorem cov_refl (a : List UInt8) : covM a a = hpB a := by
  rw [Bool.eq_iff_iff, hp_iff, covM, cov_iff]
  exact ⟨fun h => h.1, fun h => ⟨h, h, .inr (.inl rfl)⟩⟩
theorem cp_refl (a : List UInt8) : cpM a a = ppB a := by simp [cpM]
theorem cm_refl (a : List UInt8) : cmM a a = mpB a := by simp [cmM]
theorem cov_trans {a b c : List UInt8} (h1 : covM a b = true) (h2 : covM b c = true) : covM a c = true := by
  have hb := pat_of b
  unfold covM at *
  generalize srtF a = p at *
  generalize srtF b = q at *
  generalize srtF c = r at *
  rw [cov_iff] at *
  obtain ⟨a1, a2, h | h | ⟨h, hc⟩⟩ := h1
  · exact ⟨a1, h2.2.1, .inl h⟩
  · subst h; exact h2
  · obtain ⟨_, a4, h' | h' | ⟨h', hd⟩⟩ := h2
    · rw [hb.2 h'] at hc; exact absurd hc (bel_nil _)
    · subst h'; exact ⟨a1, a2, .inr (.inr ⟨h, hc⟩)⟩
    · exact ⟨a1, a4, .inr (.inr ⟨h, bel_trans hd hc⟩)⟩
theorem cp_trans {a b c : List UInt8} (h1 : cpM a b = true) (h2 : cpM b c = true) : cpM a c = true := by
  rw [cp_iff] at *
  obtain ⟨a1, a2, rfl | ⟨h3, h4⟩⟩ := h1
  · exact h2
  · obtain ⟨_, a4, rfl | ⟨h5, h6⟩⟩ := h2
    · exact ⟨a1, a4, .inr ⟨h3, h4⟩⟩
    · exact ⟨a1, a4, .inr ⟨h3, h4.trans h6⟩⟩
theorem cp_anti {a b : List UInt8} (h1 : cpM a b = true) (h2 : cpM b a = true) : a = b := by
  rw [cp_iff] at *
  obtain ⟨_, _, h | ⟨h3, h4⟩⟩ := h1
  · exact h
  obtain ⟨_, _, h | ⟨h5, h6⟩⟩ := h2
  · exact h.symm
  have e : starT a = starT b := h4.eq_of_length (Nat.le_antisymm h4.length_le h6.length_le)
  rw [star_split h3, star_split h5, e]
theorem cov_eq {p q : Int × List UInt8} (hp : Pat p) (hq : Pat q) (h1 : covF p q = true) (h2 : covF q p = true) : p = q := by
  rw [cov_iff] at *
  obtain ⟨a1, a2, h | h | ⟨h, hc⟩⟩ := h1
  · obtain ⟨_, _, h' | h' | ⟨h', hd⟩⟩ := h2
    · exact Prod.ext (h.trans h'.symm) ((hp.2 h).trans (hq.2 h').symm)
    · exact h'.symm
    · rw [hp.2 h] at hd; exact absurd hd (bel_nil _)
  · exact h
  · obtain ⟨_, _, h' | h' | ⟨h', hd⟩⟩ := h2
    · rw [hq.2 h'] at hc; exact absurd hc (bel_nil _)
    · exact h'.symm
    · have := bel_len hc; have := bel_len hd; omega
theorem cI_neg (x y : Int) : Lib.compareInt x y = - Lib.compareInt y x := by
  unfold Lib.compareInt
  split <;> split <;> (try split) <;> (try split) <;> omega
theorem cI_le (x y : Int) : Lib.compareInt x y ≤ 0 ↔ x ≤ y := by
  unfold Lib.compareInt
  split <;> (try split) <;> omega
theorem cI_zero (x y : Int) : Lib.compareInt x y = 0 ↔ x = y := by
  unfold Lib.compareInt
  split <;> (try split) <;> omega
theorem cI_bd (x y : Int) : -1 ≤ Lib.compareInt x y ∧ Lib.compareInt x y ≤ 1 := by
  unfold Lib.compareInt
  split <;> (try split) <;> omega
theorem cB_neg : ∀ l u : List UInt8, Lib.compareBytes l u = - Lib.compareBytes u l
  | [], [] => rfl
  | [], _ :: _ => rfl
  | _ :: _, [] => rfl
  | a :: l, b :: u => by
    have ih := cB_neg l u
    simp only [Lib.compareBytes, UInt8.lt_iff_toNat_lt]
    split <;> split <;> (try split) <;> omega
theorem cB_bd : ∀ l u : List UInt8, -1 ≤ Lib.compareBytes l u ∧ Lib.compareBytes l u ≤ 1
  | [], [] => by simp [Lib.compareBytes]
  | [], _ :: _ => by simp [Lib.compareBytes]
  | _ :: _, [] => by simp [Lib.compareBytes]
  | a :: l, b :: u => by
    have ih := cB_bd l u
    simp only [Lib.compareBytes]
    split <;> (try split) <;> omega
theorem cB_refl : ∀ l : List UInt8, Lib.compareBytes l l = 0
  | [] => rfl
  | a :: l => by
    have ih := cB_refl l
    simp only [Lib.compareBytes, UInt8.lt_iff_toNat_lt]
    split <;> omega
theorem cB_trans : ∀ {l u v : List UInt8}, Lib.compareBytes l u ≤ 0 → Lib.compareBytes u v ≤ 0 → Lib.compareBytes l v ≤ 0
  | [], _, [], _, _ => by simp [Lib.compareBytes]
  | [], _, _ :: _, _, _ => by simp [Lib.compareBytes]
  | _ :: _, [], _, h, _ => by simp [Lib.compareBytes] at h
  | _ :: _, _ :: _, [], _, h => by simp [Lib.compareBytes] at h
  | a :: l, b :: u, c :: v, h1, h2 => by
    have ih := @cB_trans l u v
    simp only [Lib.compareBytes, UInt8.lt_iff_toNat_lt] at *
    split at h1 <;> split at h2 <;> (try split at h1) <;> (try split at h2) <;> split <;> (try split) <;> omega
/-- what stands behind the sort -/
def keyF (p : Int × List UInt8) : Int := if p.1 = 1 then -(p.2.length : Int) else 0
theorem cmp_lex (p q : Int × List UInt8) : cmpF p q = if p.1 = q.1 then if keyF p = keyF q then Lib.compareBytes p.2 q.2 else Lib.compareInt (keyF p) (keyF q) else Lib.compareInt p.1 q.1 := by
  show (if Lib.compareInt p.1 q.1 = 0 then if (if p.1 = 1 then Lib.compareInt q.2.length p.2.length else 0) = 0 then Lib.compareBytes p.2 q.2 else (if p.1 = 1 then Lib.compareInt q.2.length p.2.length else 0) else Lib.compareInt p.1 q.1) = _
  by_cases h : p.1 = q.1
  · rw [if_pos ((cI_zero _ _).2 h), if_pos h]
    by_cases h1 : p.1 = 1
    · have k1 : keyF p = -(p.2.length : Int) := if_pos h1
      have k2 : keyF q = -(q.2.length : Int) := if_pos (h ▸ h1)
      have e : Lib.compareInt (-(p.2.length : Int)) (-(q.2.length : Int)) = Lib.compareInt q.2.length p.2.length := by
        unfold Lib.compareInt
        split <;> split <;> (try split) <;> (try split) <;> omega
      rw [if_pos h1, k1, k2, e]
      by_cases h2 : (-(p.2.length : Int)) = -(q.2.length : Int)
      · rw [if_pos h2, if_pos ((cI_zero _ _).2 (by omega))]
      · rw [if_neg h2, if_neg (fun h' => h2 (by have := (cI_zero _ _).1 h'; omega))]
    · have k1 : keyF p = 0 := if_neg h1
      have k2 : keyF q = 0 := if_neg (by rw [← h]; exact h1)
      rw [if_neg h1, k1, k2]
      simp
  · rw [if_neg (fun h' => h ((cI_zero _ _).1 h')), if_neg h]
theorem cmp_neg (p q : Int × List UInt8) : cmpF p q = - cmpF q p := by
  rw [cmp_lex, cmp_lex]
  by_cases h : p.1 = q.1
  · rw [if_pos h, if_pos h.symm]
    by_cases h2 : keyF p = keyF q
    · rw [if_pos h2, if_pos h2.symm]; exact cB_neg _ _
    · rw [if_neg h2, if_neg (Ne.symm h2)]; exact cI_neg _ _
  · rw [if_neg h, if_neg (Ne.symm h)]; exact cI_neg _ _
theorem cmp_refl (p : Int × List UInt8) : cmpF p p = 0 := by
  rw [cmp_lex, if_pos rfl, if_pos rfl]; exact cB_refl _
theorem cmp_bd (p q : Int × List UInt8) : -1 ≤ cmpF p q ∧ cmpF p q ≤ 1 := by
  rw [cmp_lex]
  split
  · split
    · exact cB_bd _ _
    · exact cI_bd _ _
  · exact cI_bd _ _
theorem cmp_le (p q : Int × List UInt8) : cmpF p q ≤ 0 ↔ p.1 < q.1 ∨ (p.1 = q.1 ∧ (keyF p < keyF q ∨ (keyF p = keyF q ∧ Lib.compareBytes p.2 q.2 ≤ 0))) := by
  rw [cmp_lex]
  by_cases h : p.1 = q.1
  · rw [if_pos h]
    by_cases h2 : keyF p = keyF q
    · rw [if_pos h2]; omega
    · rw [if_neg h2, cI_le]; omega
  · rw [if_neg h, cI_le]; omega
theorem cmp_trans {p q r : Int × List UInt8} (h1 : cmpF p q ≤ 0) (h2 : cmpF q r ≤ 0) : cmpF p r ≤ 0 := by
  rw [cmp_le] at *
  rcases h1 with h1 | ⟨h1, h1' | ⟨h1', h1''⟩⟩ <;> rcases h2 with h2 | ⟨h2, h2' | ⟨h2', h2''⟩⟩
  all_goals first
    | (left; omega)
    | (right; refine ⟨by omega, ?_⟩; left; omega)
    | (right; refine ⟨by omega, ?_⟩; right; exact ⟨by omega, cB_trans h1'' h2''⟩)
theorem cov_order {p q : Int × List UInt8} (hp : Pat p) (hq : Pat q) (h : covF p q = true) : cmpF q p ≤ 0 := by
  rw [cov_iff] at h
  obtain ⟨a1, a2, h | h | ⟨h, hb⟩⟩ := h
  · rw [cmp_le]
    rcases hq.1 with c | c | c | c
    · left; omega
    · left; omega
    · have e : p = q := Prod.ext (h.trans c.symm) ((hp.2 h).trans (hq.2 c).symm)
      subst e
      right; exact ⟨rfl, .inr ⟨rfl, by rw [cB_refl]; omega⟩⟩
    · exact absurd c a2
  · subst h; rw [cmp_refl]; omega
  · rw [cmp_le]
    rcases hq.1 with c | c | c | c
    · left; omega
    · right
      refine ⟨by omega, .inl ?_⟩
      have := bel_len hb
      unfold keyF
      rw [if_pos c, if_pos h]; omega
    · rw [hq.2 c] at hb; exact absurd hb (bel_nil _)
    · exact absurd c a2
theorem none_behind {p q : Int × List UInt8} (hp : Pat p) (h1 : p.1 ≠ 3) (h2 : q.1 = 3) : cmpF p q = -1 := by
  rw [cmp_lex, if_neg (by rw [h2]; exact h1)]
  have := hp.1
  unfold Lib.compareInt
  rw [if_pos (by omega)]
end Go.Proofs.Ytplbdnndpgfljaa
