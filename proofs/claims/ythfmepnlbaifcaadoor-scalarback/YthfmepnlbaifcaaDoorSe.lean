/-
  The document's decimal, whole.
-/
import Derived.Test.YthfmepnlbaifcaaDoorSd
namespace Go.Proofs.YthfmepnlbaifcaaDoor
open Go.RowKit
set_option linter.unusedVariables false
set_option linter.unusedSimpArgs false
theorem cutB_len {c : UInt8} {l x y : List UInt8} (h : cutB c l = some (x, y)) {n : Nat} (hl : l.length ≤ n) : x.length ≤ n ∧ y.length ≤ n := by
  have := cutB_some h
  rw [this] at hl
  simp at hl
  omega
theorem unM_len (l : List UInt8) {n : Nat} (hl : l.length ≤ n) : (unM l).length ≤ n := by
  unfold unM; split
  · simp; omega
  · exact hl
theorem dgs_append {a b : List UInt8} (ha : whl a = true) (hb : dgs b = true) : dgs (a ++ b) = true := by
  rw [dgs_iff]
  have h1 := dgs_iff.1 (whl_dgs ha)
  have h2 := dgs_iff.1 hb
  refine ⟨fun c hc => ?_, by simp [h1.2]⟩
  rcases List.mem_append.1 hc with h | h
  · exact h1.1 c h
  · exact h2.1 c h
theorem val_two {q : List UInt8} (hd : dgs q = true) (hl : q.length ≤ 2) : val q ≤ 99 := by
  obtain ⟨h3, h4⟩ := dgs_iff.1 hd
  match q, hl, h3 with
  | [], _, _ => exact absurd rfl h4
  | [c], _, h3 =>
    have hc' : 48 ≤ c.toNat ∧ c.toNat ≤ 57 := of_decide_eq_true (h3 c (by simp))
    show 10 * 0 + (c.toNat - 48) ≤ 99
    omega
  | [c, d], _, h3 =>
    have hc' : 48 ≤ c.toNat ∧ c.toNat ≤ 57 := of_decide_eq_true (h3 c (by simp))
    have hd' : 48 ≤ d.toNat ∧ d.toNat ≤ 57 := of_decide_eq_true (h3 d (by simp))
    show 10 * (10 * 0 + (c.toNat - 48)) + (d.toNat - 48) ≤ 99
    omega
theorem decimal_any (l : List UInt8) (w : World) (hs : l.length ≤ 2 ^ 47) :
    Calls Tryd.prog 26 #[.string ⟨l.toArray⟩] w fun e w' => e = decE (decD l) ∧ ∃ q, w' = w.drewN q := by
  have hsu := unM_len l hs
  rcases h1 : cutB 101 (unM l) with _ | ⟨x, p⟩
  · rcases h2 : cutB 46 (unM l) with _ | ⟨a, b⟩
    · have e : decD l = none := by rw [decD, decP, h1]; simp only [h2]
      rw [e]
      exact dec0_nodot l _ _ rfl rfl w hs hsu h1 h2
    · obtain ⟨hsa, hsb⟩ := cutB_len h2 hsu
      cases h3 : whl a with
      | false =>
        have e : decD l = none := by rw [decD, decP, h1]; simp only [h2]; rw [if_neg (by simp [h3])]
        rw [e]
        exact dec0_notwhole l _ _ rfl rfl w hs hsu h1 a b h2 hsa hsb h3
      | true =>
        cases h4 : dgs b with
        | false =>
          have e : decD l = none := by rw [decD, decP, h1]; simp only [h2]; rw [if_neg (by simp [h4])]
          rw [e]
          exact dec0_notdigits l _ _ rfl rfl w hs hsu h1 a b h2 hsa hsb h3 h4
        | true =>
          have e : decD l = realV ⟨hasM l, a, b, 0⟩ := by rw [decD, decP, h1]; simp only [h2]; rw [if_pos ⟨h3, h4⟩]
          rw [e]
          have hdA := dgs_append h3 h4
          have hsA : (a ++ b).length ≤ 2 ^ 48 := by simp; omega
          by_cases h7 : val (a ++ b) ≤ 999999999999999
          · by_cases h8 : 200 < (b.length : Int)
            · rw [realV, if_neg (by simp only; omega)]
              exact dec0_long l _ _ rfl rfl w hs hsu h1 a b h2 hsa hsb h3 h4 (a ++ b) rfl hsA hdA h7 _ rfl (by omega) (by omega) h8
            · by_cases h9 : -22 ≤ 0 - (b.length : Int) ∧ 0 - (b.length : Int) ≤ 22
              · rw [realV, if_pos (by simp only; omega)]
                simp only
                cases hm : hasM l with
                | true => exact dec0_okm l _ rfl hm w hs hsu h1 a b h2 hsa hsb h3 h4 (a ++ b) rfl hsA hdA h7 _ rfl (by omega) (by omega) h8 _ rfl h9 _ rfl
                | false => exact dec0_okp l _ rfl hm w hs hsu h1 a b h2 hsa hsb h3 h4 (a ++ b) rfl hsA hdA h7 _ rfl (by omega) (by omega) h8 _ rfl h9 _ rfl
              · rw [realV, if_neg (by simp only; omega)]
                exact dec0_badk l _ _ rfl rfl w hs hsu h1 a b h2 hsa hsb h3 h4 (a ++ b) rfl hsA hdA h7 _ rfl (by omega) (by omega) h8 _ rfl h9
          · rw [realV, if_neg (by simp only; omega)]
            exact dec0_great l _ _ rfl rfl w hs hsu h1 a b h2 hsa hsb h3 h4 (a ++ b) rfl hsA hdA h7
  · obtain ⟨hsx, hsp⟩ := cutB_len h1 hsu
    rcases h2 : cutB 46 x with _ | ⟨a, b⟩
    · have e : decD l = none := by rw [decD, decP, h1]; simp only [h2]
      rw [e]
      exact dec1_nodot l _ _ rfl rfl w hs hsu x p h1 hsx hsp h2
    · obtain ⟨hsa, hsb⟩ := cutB_len h2 hsx
      cases h3 : whl a with
      | false =>
        have e : decD l = none := by rw [decD, decP, h1]; simp only [h2]; rw [if_neg (by simp [h3])]
        rw [e]
        exact dec1_notwhole l _ _ rfl rfl w hs hsu x p h1 hsx hsp a b h2 hsa hsb h3
      | true =>
        cases h4 : dgs b with
        | false =>
          have e : decD l = none := by rw [decD, decP, h1]; simp only [h2]; rw [if_neg (by simp [h4])]
          rw [e]
          exact dec1_notdigits l _ _ rfl rfl w hs hsu x p h1 hsx hsp a b h2 hsa hsb h3 h4
        | true =>
          have hsq := unM_len p hsp
          cases h5 : dgs (unM p) with
          | false =>
            have e : decD l = none := by rw [decD, decP, h1]; simp only [h2]; rw [if_neg (by simp [isP, h5])]
            rw [e]
            exact dec1_notP1 l _ _ rfl rfl w hs hsu x p h1 hsx hsp a b h2 hsa hsb h3 h4 _ _ rfl rfl hsq h5
          | true =>
            by_cases h6 : 2 < ((unM p).length : Int)
            · have e : decD l = none := by
                rw [decD, decP, h1]; simp only [h2]; rw [if_neg (by
                  simp only [isP, h5, Bool.true_and, decide_eq_true_eq]
                  omega)]
              rw [e]
              exact dec1_notP2 l _ _ rfl rfl w hs hsu x p h1 hsx hsp a b h2 hsa hsb h3 h4 _ _ rfl rfl hsq h5 h6
            · have hP : isP p = true := by
                rw [isP, h5, Bool.true_and, decide_eq_true_eq]
                omega
              have e : decD l = realV ⟨hasM l, a, b, powV p⟩ := by rw [decD, decP, h1]; simp only [h2]; rw [if_pos ⟨h3, h4, hP⟩]
              rw [e]
              have hdA := dgs_append h3 h4
              have hsA : (a ++ b).length ≤ 2 ^ 48 := by simp; omega
              have hN9 := val_two h5 (by omega)
              have hpb := powV_bd hP
              cases hg : hasM p with
              | true =>
                have hpw : powV p = -(val (unM p) : Int) := by rw [powV, hg]; rfl
                by_cases h7 : val (a ++ b) ≤ 999999999999999
                · by_cases h8 : 200 < (b.length : Int)
                  · rw [realV, if_neg (by simp only; omega)]
                    exact dec1_longd l _ _ rfl rfl w hs hsu x p h1 hsx hsp a b h2 hsa hsb h3 h4 _ rfl hg hsq h5 h6 _ rfl (by omega) (by omega) (a ++ b) rfl hsA hdA h7 _ rfl (by omega) (by omega) h8
                  · by_cases h9 : -22 ≤ -(val (unM p) : Int) - (b.length : Int) ∧ -(val (unM p) : Int) - (b.length : Int) ≤ 22
                    · rw [realV, if_pos (by simp only; omega)]
                      simp only [hpw]
                      cases hm : hasM l with
                      | true => exact dec1_okdm l _ rfl hm w hs hsu x p h1 hsx hsp a b h2 hsa hsb h3 h4 _ rfl hg hsq h5 h6 _ rfl (by omega) (by omega) (a ++ b) rfl hsA hdA h7 _ rfl (by omega) (by omega) h8 _ rfl h9 _ rfl
                      | false => exact dec1_okdp l _ rfl hm w hs hsu x p h1 hsx hsp a b h2 hsa hsb h3 h4 _ rfl hg hsq h5 h6 _ rfl (by omega) (by omega) (a ++ b) rfl hsA hdA h7 _ rfl (by omega) (by omega) h8 _ rfl h9 _ rfl
                    · rw [realV, if_neg (by simp only; omega)]
                      exact dec1_badkd l _ _ rfl rfl w hs hsu x p h1 hsx hsp a b h2 hsa hsb h3 h4 _ rfl hg hsq h5 h6 _ rfl (by omega) (by omega) (a ++ b) rfl hsA hdA h7 _ rfl (by omega) (by omega) h8 _ rfl h9
                · rw [realV, if_neg (by simp only; omega)]
                  exact dec1_greatd l _ _ rfl rfl w hs hsu x p h1 hsx hsp a b h2 hsa hsb h3 h4 _ rfl hg hsq h5 h6 _ rfl (by omega) (by omega) (a ++ b) rfl hsA hdA h7
              | false =>
                have hpw : powV p = (val (unM p) : Int) := by rw [powV, hg]; rfl
                by_cases h7 : val (a ++ b) ≤ 999999999999999
                · by_cases h8 : 200 < (b.length : Int)
                  · rw [realV, if_neg (by simp only; omega)]
                    exact dec1_longu l _ _ rfl rfl w hs hsu x p h1 hsx hsp a b h2 hsa hsb h3 h4 _ rfl hg hsq h5 h6 _ rfl (by omega) (by omega) (a ++ b) rfl hsA hdA h7 _ rfl (by omega) (by omega) h8
                  · by_cases h9 : -22 ≤ (val (unM p) : Int) - (b.length : Int) ∧ (val (unM p) : Int) - (b.length : Int) ≤ 22
                    · rw [realV, if_pos (by simp only; omega)]
                      simp only [hpw]
                      cases hm : hasM l with
                      | true => exact dec1_okum l _ rfl hm w hs hsu x p h1 hsx hsp a b h2 hsa hsb h3 h4 _ rfl hg hsq h5 h6 _ rfl (by omega) (by omega) (a ++ b) rfl hsA hdA h7 _ rfl (by omega) (by omega) h8 _ rfl h9 _ rfl
                      | false => exact dec1_okup l _ rfl hm w hs hsu x p h1 hsx hsp a b h2 hsa hsb h3 h4 _ rfl hg hsq h5 h6 _ rfl (by omega) (by omega) (a ++ b) rfl hsA hdA h7 _ rfl (by omega) (by omega) h8 _ rfl h9 _ rfl
                    · rw [realV, if_neg (by simp only; omega)]
                      exact dec1_badku l _ _ rfl rfl w hs hsu x p h1 hsx hsp a b h2 hsa hsb h3 h4 _ rfl hg hsq h5 h6 _ rfl (by omega) (by omega) (a ++ b) rfl hsA hdA h7 _ rfl (by omega) (by omega) h8 _ rfl h9
                · rw [realV, if_neg (by simp only; omega)]
                  exact dec1_greatu l _ _ rfl rfl w hs hsu x p h1 hsx hsp a b h2 hsa hsb h3 h4 _ rfl hg hsq h5 h6 _ rfl (by omega) (by omega) (a ++ b) rfl hsA hdA h7
end Go.Proofs.YthfmepnlbaifcaaDoor
