import Derived.Test.YtmmnpnhffgpchaaGreatDoorBn14
import Derived.Test.YtmmnpnhffgpchaaGreatDoorBn17
/-
  What may stand plain is read as itself.
-/
namespace Go.Proofs.YtmmnpnhffgpchaaGreatDoor.Ln
open Go.RowKit
set_option linter.unusedVariables false
set_option linter.unusedSimpArgs false
theorem occ_mid (x sub y : List UInt8) : Lib.occAt (x ++ (sub ++ y)) sub x.length = true := by
  unfold Lib.occAt
  rw [List.drop_left]
  simp [List.isPrefixOf_iff_prefix]
theorem index_mid (x sub y : List UInt8) : 0 ≤ Lib.index (x ++ (sub ++ y)) sub := by
  rcases Lib.index_spec (x ++ (sub ++ y)) sub with ⟨_, h⟩ | ⟨i, h, _⟩
  · have := h x.length (by simp)
    rw [occ_mid] at this
    cases this
  · rw [h]; omega
theorem trim_parts : ∀ r : List UInt8, ∃ k, r = List.replicate k 32 ++ Lib.trimLeftB r 32
  | [] => ⟨0, rfl⟩
  | c :: r => by
    by_cases h : c = 32
    · subst h
      obtain ⟨k, hk⟩ := trim_parts r
      refine ⟨k + 1, ?_⟩
      have : Lib.trimLeftB (32 :: r) 32 = Lib.trimLeftB r 32 := by simp [Lib.trimLeftB]
      rw [this, List.replicate_succ, List.cons_append, ← hk]
    · exact ⟨0, by simp [Lib.trimLeftB, h]⟩
theorem nul_cases (r : List UInt8) (h : nulF r = true) : r = [] ∨ (∃ x, r = x ++ [32]) ∨ ∃ x y, r = x ++ ([32, 35] ++ y) := by
  obtain ⟨k, hk⟩ := trim_parts r
  unfold nulF at h
  rcases ht : Lib.trimLeftB r 32 with _ | ⟨c, p⟩
  · rw [ht, List.append_nil] at hk
    rcases k with _ | k
    · exact .inl hk
    · exact .inr (.inl ⟨List.replicate k 32, by rw [hk, List.replicate_succ']⟩)
  · rw [ht] at h hk
    have h' := of_decide_eq_true h
    obtain ⟨h1, h2⟩ := h'
    have hc : c = 35 := UInt8.toNat_inj.1 (by show c.toNat = 35; omega)
    subst hc
    rcases k with _ | k
    · have := congrArg List.length hk
      simp at this
      omega
    · exact .inr (.inr ⟨List.replicate k 32, p, by rw [hk, List.replicate_succ', List.append_assoc]; rfl⟩)
theorem trimR_last (x : List UInt8) : (Lib.trimRightB (x ++ [32]) 32).length ≤ x.length := by
  unfold Lib.trimRightB
  rw [List.reverse_append]
  simp only [List.reverse_cons, List.reverse_nil, List.nil_append, List.cons_append, List.length_reverse]
  rw [List.dropWhile_cons_of_pos (by simp)]
  have := (List.dropWhile_sublist (fun x => x == (32 : UInt8)) (l := x.reverse)).length_le
  simpa using this
theorem nop_fin : ∀ n : Fin 256, ¬ 0 ≤ Lib.indexByte nopL (UInt8.ofNat n.val) → n.val ≠ 32 ∧ n.val ≠ 35 ∧ quoF (n.val : Int) = false := by decide +kernel
theorem plnF_self (s : List UInt8) (hne : s ≠ []) (hp : plnF s = s) : cutF s = s ∧ s ≠ [45, 45, 45] ∧ itmF s = false ∧ (∃ c r, s = c :: r ∧ c ≠ 32 ∧ (c.toNat : Int) ≠ 35 ∧ quoF c.toNat = false) ∧ Lib.contains s [58, 32] = false ∧ Lib.hasSuffix s [58] = false := by
  unfold plnF at hp
  rcases hc : cutF s with _ | ⟨c, r⟩
  · rw [hc] at hp; exact absurd hp.symm hne
  · rw [hc] at hp
    unfold plnG at hp
    dsimp only at hp
    split at hp
    · exact absurd hp.symm hne
    · rename_i h1
      split at hp
      · exact absurd hp.symm hne
      · rename_i h2
        split at hp
        · exact absurd hp.symm hne
        · rename_i h3
          split at hp
          · exact absurd hp.symm hne
          · rename_i h4
            split at hp
            · exact absurd hp.symm hne
            · rename_i h5
              have := nop_fin ⟨c.toNat, c.toNat_lt⟩ (by simpa using h3)
              obtain ⟨n1, n2, n3⟩ := this
              rw [← hp]
              refine ⟨rfl, by simpa using h1, by simpa using h2, ⟨c, r, rfl, ?_, ?_, n3⟩, by simpa using h4, by simpa using h5⟩
              · rintro rfl; exact n1 rfl
              · intro e; apply n2; show c.toNat = 35; omega
theorem cutF_self (s : List UInt8) (h : cutF s = s) : (∀ x, s ≠ x ++ [32]) ∧ ∀ x y, s ≠ x ++ ([32, 35] ++ y) := by
  unfold cutF at h
  have hno : ¬ 0 ≤ Lib.index s [32, 35] := fun hi => by
    have hr := Lib.index_room s [32, 35] hi
    have hl := trimR_le (Lib.cut s [32, 35]).1
    rw [h] at hl
    unfold Lib.cut at hl
    rw [if_pos hi] at hl
    simp at hl hr
    omega
  refine ⟨fun x e => ?_, fun x y e => ?_⟩
  · unfold Lib.cut at h
    rw [if_neg hno] at h
    dsimp only at h
    have := trimR_last x
    rw [← e, h, e] at this
    simp at this
    omega
  · rw [e] at hno
    exact hno (index_mid _ _ _)
theorem plain_read (s : List UInt8) (hs : strF s = 0) (hne : s ≠ []) (hp : plnF s = s) : readF s 1 = ([⟨4, 1, 0, s, false⟩], 0) := by
  obtain ⟨hc, h1, h2, ⟨c, r, rfl, c1, c2, c3⟩, h4, h5⟩ := plnF_self s hne hp
  obtain ⟨g1, g2⟩ := cutF_self _ hc
  have hd : docF (c :: r) = false := by
    cases hdo : docF (c :: r) with
    | false => rfl
    | true =>
      unfold docF at hdo
      rw [Bool.and_eq_true] at hdo
      obtain ⟨d1, d2⟩ := hdo
      unfold Lib.hasPrefix at d1
      obtain ⟨t, ht⟩ := List.isPrefixOf_iff_prefix.1 d1
      rw [← ht] at d2
      have d3 : nulF t = true := d2
      rcases nul_cases t d3 with rfl | ⟨x, rfl⟩ | ⟨x, y, rfl⟩
      · exact absurd ht.symm h1
      · exact absurd (ht.symm.trans (List.append_assoc _ _ _).symm) (g1 _)
      · exact absurd (ht.symm.trans (List.append_assoc _ _ _).symm) (g2 _ _)
  have hk : keyF (c :: r) = none := by
    unfold keyF
    dsimp only
    rw [if_neg (by rw [c3]; simp)]
    split
    · rfl
    · rename_i t k hk
      rw [if_neg]
      intro hcl
      unfold cln at hcl
      rw [Bool.or_eq_true] at hcl
      have hsp : (c :: r).take k ++ (c :: r).drop k = c :: r := List.take_append_drop k _
      rcases hcl with e | e
      · have e' : (c :: r).drop k = [58] := by simpa using e
        have : Lib.hasSuffix (c :: r) [58] = true := by
          unfold Lib.hasSuffix
          rw [List.isSuffixOf_iff_suffix]
          exact ⟨_, by rw [← e']; exact hsp⟩
        rw [h5] at this
        cases this
      · unfold Lib.hasPrefix at e
        obtain ⟨y, hy⟩ := List.isPrefixOf_iff_prefix.1 e
        have : Lib.contains (c :: r) [58, 32] = true := by
          unfold Lib.contains
          rw [← hsp, ← hy]
          exact decide_eq_true (index_mid _ _ _)
        rw [h4] at this
        cases this
  have hk0 : skpF (c :: r) 0 = 0 := by
    have := skip_blanks [] 0 c r c1
    simpa using this
  unfold readF
  rw [hs, hd, if_neg (by simp), if_neg (by simp), hk0, conF, List.drop_zero]
  dsimp only
  rw [if_neg (by simp [ovrF]; omega), h2, if_neg (by simp), hk]
  dsimp only
  unfold scaF
  rw [List.drop_zero]
  dsimp only
  rw [c3, if_neg (by simp), hp]
  rfl
end Go.Proofs.YtmmnpnhffgpchaaGreatDoor.Ln

/-
  A plain scalar as the document's own reader finds it.
-/
namespace Go.Proofs.YtmmnpnhffgpchaaGreatDoor.Ln
open Go.RowKit
set_option linter.unusedVariables false
set_option linter.unusedSimpArgs false
/-- Where a plain scalar ends: from place k on, the end so far e. -/
def endG : List UInt8 → Nat → Nat → Nat
  | [], k, e => e
  | c :: r, k, e => if c = 32 ∧ r.head? = some 35 then e else endG r (k + 1) (if c = 32 then e else k + 1)
theorem trimR_pre (p : List UInt8) : Lib.trimRightB p 32 = p.take (Lib.trimRightB p 32).length := by
  unfold Lib.trimRightB
  have h : (p.reverse.dropWhile (· == 32)).reverse <+: p := by
    have := List.reverse_prefix.2 (List.dropWhile_suffix (l := p.reverse) (· == (32 : UInt8)))
    rwa [List.reverse_reverse] at this
  obtain ⟨t, ht⟩ := h
  conv => lhs; rw [← List.take_left (l₁ := (p.reverse.dropWhile (· == 32)).reverse) (l₂ := t), ht]
theorem trimR_snoc (p : List UInt8) (c : UInt8) : (Lib.trimRightB (p ++ [c]) 32).length = if c = 32 then (Lib.trimRightB p 32).length else p.length + 1 := by
  unfold Lib.trimRightB
  rw [List.reverse_append]
  simp only [List.reverse_cons, List.reverse_nil, List.nil_append, List.cons_append]
  by_cases h : c = 32
  · rw [if_pos h, List.dropWhile_cons_of_pos (by simpa using h)]
  · rw [if_neg h, List.dropWhile_cons_of_neg (by simpa using h)]
    simp
theorem cut_blank (r : List UInt8) : (Lib.cut (32 :: 35 :: r) [32, 35]).1 = [] := by
  have h : Lib.index (32 :: 35 :: r) [32, 35] = 0 := by simp [Lib.index, List.isPrefixOf]
  unfold Lib.cut
  rw [h]
  rfl
theorem cut_step (c : UInt8) (r : List UInt8) (h : ¬ (c = 32 ∧ r.head? = some 35)) : (Lib.cut (c :: r) [32, 35]).1 = c :: (Lib.cut r [32, 35]).1 := by
  have hp : ([32, 35] : List UInt8).isPrefixOf (c :: r) = false := by
    rw [Bool.eq_false_iff]
    intro hh
    apply h
    rcases r with _ | ⟨d, r⟩
    · simp [List.isPrefixOf] at hh
    · simp [List.isPrefixOf] at hh
      exact ⟨hh.1.symm, by simp [hh.2.symm]⟩
  have hi : Lib.index (c :: r) [32, 35] = if Lib.index r [32, 35] == -1 then -1 else Lib.index r [32, 35] + 1 := by
    conv => lhs; unfold Lib.index
    rw [hp]
    rfl
  unfold Lib.cut
  rw [hi]
  rcases Lib.index_spec r [32, 35] with ⟨e, _⟩ | ⟨i, e, _⟩
  · rw [e]
    simp
  · rw [e]
    have : ((i : Int) == -1) = false := by rw [beq_eq_false_iff_ne]; omega
    have h1 : ((i : Int) + 1).toNat = i + 1 := by omega
    have h2 : (if ((i : Int) == -1) = true then (-1 : Int) else (i : Int) + 1) = (i : Int) + 1 := by rw [this]; rfl
    rw [h2, if_pos (by omega), if_pos (by omega), h1]
    simp
theorem cut_end : ∀ (r p : List UInt8), Lib.trimRightB (p ++ (Lib.cut r [32, 35]).1) 32 = (p ++ r).take (endG r p.length (Lib.trimRightB p 32).length)
  | [], p => by
    have : (Lib.cut [] [32, 35]).1 = [] := rfl
    rw [this, List.append_nil]
    exact trimR_pre p
  | c :: r, p => by
    by_cases h : c = 32 ∧ r.head? = some 35
    · obtain ⟨rfl, hr⟩ := h
      rcases r with _ | ⟨d, r⟩
      · cases hr
      · cases hr
        rw [cut_blank, List.append_nil, endG, if_pos ⟨rfl, rfl⟩, List.take_append_of_le_length (trimR_le p)]
        exact trimR_pre p
    · rw [cut_step c r h, endG, if_neg h]
      have ih := cut_end r (p ++ [c])
      rw [trimR_snoc] at ih
      simpa using ih
/-- The text of a plain scalar. -/
theorem cutF_end (d : List UInt8) : cutF d = d.take (endG d 0 0) := by
  have := cut_end d []
  simpa [cutF, Lib.trimRightB] using this
/-- A colon that would make it a key. -/
def ColB (t : List UInt8) : Prop := ∃ k, t[k]? = some 58 ∧ (k + 1 = t.length ∨ t[k + 1]? = some 32)
theorem col_iff (t : List UInt8) : (Lib.contains t [58, 32] = true ∨ Lib.hasSuffix t [58] = true) ↔ ColB t := by
  constructor
  · rintro (h | h)
    · unfold Lib.contains at h
      have h' := of_decide_eq_true h
      rcases Lib.index_spec t [58, 32] with ⟨e, _⟩ | ⟨i, e, _, ho, _⟩
      · rw [e] at h'; omega
      · unfold Lib.occAt at ho
        obtain ⟨y, hy⟩ := List.isPrefixOf_iff_prefix.1 ho
        have h0 : (t.drop i)[0]? = some 58 := by rw [← hy]; rfl
        have h1 : (t.drop i)[1]? = some 32 := by rw [← hy]; rfl
        rw [List.getElem?_drop] at h0 h1
        exact ⟨i, by simpa using h0, .inr h1⟩
    · unfold Lib.hasSuffix at h
      obtain ⟨x, hx⟩ := List.isSuffixOf_iff_suffix.1 h
      refine ⟨x.length, ?_, .inl ?_⟩
      · rw [← hx]; simp
      · rw [← hx]; simp
  · rintro ⟨k, hk, h | h⟩
    · refine .inr ?_
      unfold Lib.hasSuffix
      rw [List.isSuffixOf_iff_suffix]
      refine ⟨t.take k, ?_⟩
      have hd := drop_cons hk
      have hn : t.drop (k + 1) = [] := List.drop_eq_nil_of_le (by omega)
      rw [hn] at hd
      rw [← hd]
      exact List.take_append_drop k t
    · refine .inl ?_
      have hd := drop_cons hk
      rw [drop_cons h] at hd
      have := index_mid (t.take k) [58, 32] (t.drop (k + 2))
      unfold Lib.contains
      refine decide_eq_true ?_
      have e : t.take k ++ ([58, 32] ++ t.drop (k + 2)) = t := by
        have := List.take_append_drop k t
        rw [hd] at this
        exact this
      rwa [e] at this
end Go.Proofs.YtmmnpnhffgpchaaGreatDoor.Ln
