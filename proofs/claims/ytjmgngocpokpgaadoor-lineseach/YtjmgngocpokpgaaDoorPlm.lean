/-
  What may stand plain is read as itself.
-/
import Derived.Test.YtjmgngocpokpgaaDoorQtm
namespace Go.Proofs.YtjmgngocpokpgaaDoor
open Go.RowKit
set_option linter.unusedVariables false
set_option linter.unusedSimpArgs false
theorem occ_mid (x sub y : List UInt8) : Lib.occAt (x ++ (sub ++ y)) sub x.length = true := by
  unfold Lib.occAt
  rw [List.drop_left]
  simp [List.isPrefixOf_iff_prefix]
theorem index_mid (x sub y : List UInt8) : 0 ≤ Lib.index (x ++ (sub ++ y)) sub := by
  rcases Lib.index_spec (x ++ (sub ++ y)) sub with ⟨_, h⟩ | ⟨i, h, _⟩
  · have := h x.length (by simp)
    rw [occ_mid] at this
    cases this
  · rw [h]; omega
theorem trim_parts : ∀ r : List UInt8, ∃ k, r = List.replicate k 32 ++ Lib.trimLeftB r 32
  | [] => ⟨0, rfl⟩
  | c :: r => by
    by_cases h : c = 32
    · subst h
      obtain ⟨k, hk⟩ := trim_parts r
      refine ⟨k + 1, ?_⟩
      have : Lib.trimLeftB (32 :: r) 32 = Lib.trimLeftB r 32 := by simp [Lib.trimLeftB]
      rw [this, List.replicate_succ, List.cons_append, ← hk]
    · exact ⟨0, by simp [Lib.trimLeftB, h]⟩
theorem nul_cases (r : List UInt8) (h : nulF r = true) : r = [] ∨ (∃ x, r = x ++ [32]) ∨ ∃ x y, r = x ++ ([32, 35] ++ y) := by
  obtain ⟨k, hk⟩ := trim_parts r
  unfold nulF at h
  rcases ht : Lib.trimLeftB r 32 with _ | ⟨c, p⟩
  · rw [ht, List.append_nil] at hk
    rcases k with _ | k
    · exact .inl hk
    · exact .inr (.inl ⟨List.replicate k 32, by rw [hk, List.replicate_succ']⟩)
  · rw [ht] at h hk
    have h' := of_decide_eq_true h
    obtain ⟨h1, h2⟩ := h'
    have hc : c = 35 := UInt8.toNat_inj.1 (by show c.toNat = 35; omega)
    subst hc
    rcases k with _ | k
    · have := congrArg List.length hk
      simp at this
      omega
    · exact .inr (.inr ⟨List.replicate k 32, p, by rw [hk, List.replicate_succ', List.append_assoc]; rfl⟩)
theorem trimR_last (x : List UInt8) : (Lib.trimRightB (x ++ [32]) 32).length ≤ x.length := by
  unfold Lib.trimRightB
  rw [List.reverse_append]
  simp only [List.reverse_cons, List.reverse_nil, List.nil_append, List.cons_append, List.length_reverse]
  rw [List.dropWhile_cons_of_pos (by simp)]
  have := (List.dropWhile_sublist (fun x => x == (32 : UInt8)) (l := x.reverse)).length_le
  simpa using this
theorem nop_fin : ∀ n : Fin 256, ¬ 0 ≤ Lib.indexByte nopL (UInt8.ofNat n.val) → n.val ≠ 32 ∧ n.val ≠ 35 ∧ quoF (n.val : Int) = false := by decide +kernel
theorem plnF_self (s : List UInt8) (hne : s ≠ []) (hp : plnF s = s) : cutF s = s ∧ s ≠ [45, 45, 45] ∧ itmF s = false ∧ (∃ c r, s = c :: r ∧ c ≠ 32 ∧ (c.toNat : Int) ≠ 35 ∧ quoF c.toNat = false) ∧ Lib.contains s [58, 32] = false ∧ Lib.hasSuffix s [58] = false := by
  unfold plnF at hp
  rcases hc : cutF s with _ | ⟨c, r⟩
  · rw [hc] at hp; exact absurd hp.symm hne
  · rw [hc] at hp
    unfold plnG at hp
    dsimp only at hp
    split at hp
    · exact absurd hp.symm hne
    · rename_i h1
      split at hp
      · exact absurd hp.symm hne
      · rename_i h2
        split at hp
        · exact absurd hp.symm hne
        · rename_i h3
          split at hp
          · exact absurd hp.symm hne
          · rename_i h4
            split at hp
            · exact absurd hp.symm hne
            · rename_i h5
              have := nop_fin ⟨c.toNat, c.toNat_lt⟩ (by simpa using h3)
              obtain ⟨n1, n2, n3⟩ := this
              rw [← hp]
              refine ⟨rfl, by simpa using h1, by simpa using h2, ⟨c, r, rfl, ?_, ?_, n3⟩, by simpa using h4, by simpa using h5⟩
              · rintro rfl; exact n1 rfl
              · intro e; apply n2; show c.toNat = 35; omega
theorem cutF_self (s : List UInt8) (h : cutF s = s) : (∀ x, s ≠ x ++ [32]) ∧ ∀ x y, s ≠ x ++ ([32, 35] ++ y) := by
  unfold cutF at h
  have hno : ¬ 0 ≤ Lib.index s [32, 35] := fun hi => by
    have hr := Lib.index_room s [32, 35] hi
    have hl := trimR_le (Lib.cut s [32, 35]).1
    rw [h] at hl
    unfold Lib.cut at hl
    rw [if_pos hi] at hl
    simp at hl hr
    omega
  refine ⟨fun x e => ?_, fun x y e => ?_⟩
  · unfold Lib.cut at h
    rw [if_neg hno] at h
    dsimp only at h
    have := trimR_last x
    rw [← e, h, e] at this
    simp at this
    omega
  · rw [e] at hno
    exact hno (index_mid _ _ _)
theorem plain_read (s : List UInt8) (hs : strF s = 0) (hne : s ≠ []) (hp : plnF s = s) : readF s 1 = ([⟨4, 1, 0, s, false⟩], 0) := by
  obtain ⟨hc, h1, h2, ⟨c, r, rfl, c1, c2, c3⟩, h4, h5⟩ := plnF_self s hne hp
  obtain ⟨g1, g2⟩ := cutF_self _ hc
  have hd : docF (c :: r) = false := by
    cases hdo : docF (c :: r) with
    | false => rfl
    | true =>
      unfold docF at hdo
      rw [Bool.and_eq_true] at hdo
      obtain ⟨d1, d2⟩ := hdo
      unfold Lib.hasPrefix at d1
      obtain ⟨t, ht⟩ := List.isPrefixOf_iff_prefix.1 d1
      rw [← ht] at d2
      have d3 : nulF t = true := d2
      rcases nul_cases t d3 with rfl | ⟨x, rfl⟩ | ⟨x, y, rfl⟩
      · exact absurd ht.symm h1
      · exact absurd (ht.symm.trans (List.append_assoc _ _ _).symm) (g1 _)
      · exact absurd (ht.symm.trans (List.append_assoc _ _ _).symm) (g2 _ _)
  have hk : keyF (c :: r) = none := by
    unfold keyF
    dsimp only
    rw [if_neg (by rw [c3]; simp)]
    split
    · rfl
    · rename_i t k hk
      rw [if_neg]
      intro hcl
      unfold cln at hcl
      rw [Bool.or_eq_true] at hcl
      have hsp : (c :: r).take k ++ (c :: r).drop k = c :: r := List.take_append_drop k _
      rcases hcl with e | e
      · have e' : (c :: r).drop k = [58] := by simpa using e
        have : Lib.hasSuffix (c :: r) [58] = true := by
          unfold Lib.hasSuffix
          rw [List.isSuffixOf_iff_suffix]
          exact ⟨_, by rw [← e']; exact hsp⟩
        rw [h5] at this
        cases this
      · unfold Lib.hasPrefix at e
        obtain ⟨y, hy⟩ := List.isPrefixOf_iff_prefix.1 e
        have : Lib.contains (c :: r) [58, 32] = true := by
          unfold Lib.contains
          rw [← hsp, ← hy]
          exact decide_eq_true (index_mid _ _ _)
        rw [h4] at this
        cases this
  have hk0 : skpF (c :: r) 0 = 0 := by
    have := skip_blanks [] 0 c r c1
    simpa using this
  unfold readF
  rw [hs, hd, if_neg (by simp), if_neg (by simp), hk0, conF, List.drop_zero]
  dsimp only
  rw [if_neg (by simp [ovrF]; omega), h2, if_neg (by simp), hk]
  dsimp only
  unfold scaF
  rw [List.drop_zero]
  dsimp only
  rw [c3, if_neg (by simp), hp]
  rfl
end Go.Proofs.YtjmgngocpokpgaaDoor
