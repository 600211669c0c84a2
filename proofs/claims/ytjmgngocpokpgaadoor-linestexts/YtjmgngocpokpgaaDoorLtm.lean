/-
  What the document asks of a plain text is what the program asks.
-/
import Derived.Test.YtjmgngocpokpgaaDoorPl17
namespace Go.Proofs.YtjmgngocpokpgaaDoor
open Go.RowKit
set_option linter.unusedVariables false
set_option linter.unusedSimpArgs false
theorem scaF_head (num : Int) (l : List UInt8) (p : Nat) (ts : List Tk) (h : ts ≠ []) : (scaF num l p ts).1 = [] ∨ (scaF num l p ts).1.head? = ts.head? := by
  have key : ∀ t : Tk, (ts ++ [t]).head? = ts.head? := fun t => by
    rcases ts with _ | ⟨a, b⟩
    · exact absurd rfl h
    · rfl
  unfold scaF qtdF
  split
  · exact .inl rfl
  · split
    · split
      · exact .inl rfl
      · split
        · exact .inl rfl
        · split
          · exact .inr (key _)
          · exact .inl rfl
    · split
      · exact .inl rfl
      · exact .inr (key _)
theorem conF_head (num : Int) (l : List UInt8) : ∀ (n p : Nat) (ts : List Tk), ts ≠ [] → (conF num l n p ts).1 = [] ∨ (conF num l n p ts).1.head? = ts.head?
  | 0, p, ts, h => .inl rfl
  | n + 1, p, ts, h => by
    have key : ∀ t : Tk, (ts ++ [t]).head? = ts.head? := fun t => by
      rcases ts with _ | ⟨a, b⟩
      · exact absurd rfl h
      · rfl
    unfold conF
    split
    · exact .inr rfl
    · rename_i c r hd
      split
      · exact .inr rfl
      · split
        · have := conF_head num l n (skpF l (p + 1)) (ts ++ [⟨2, num, p, [], quoF (c.toNat : Int)⟩]) (by simp)
          rwa [key] at this
        · split
          · exact scaF_head num l p ts h
          · rename_i t k hk
            split
            · exact .inr (key _)
            · have := scaF_head num l (skpF l (p + k)) (ts ++ [⟨3, num, p, t, quoF (c.toNat : Int)⟩]) (by simp)
              rwa [key] at this
/-- What the document's Plain asks. -/
def refP (l : List UInt8) : Prop := ∃ t, readF l 1 = ([t], 0) ∧ t.kind = 4 ∧ t.q = false ∧ t.text = l
theorem refP_iff (l : List UInt8) : refP l ↔ plB l = true := by
  constructor
  · rintro ⟨t, hr, hk, hq, ht⟩
    have hst : strF l = 0 := by
      by_cases h : strF l = 0
      · exact h
      · unfold readF at hr
        rw [if_pos h] at hr
        exact absurd (congrArg (fun x => x.1.length) hr) (by simp)
    unfold readF at hr
    rw [if_neg (by simpa using hst)] at hr
    split at hr
    · have := congrArg (fun x => x.1.head?) hr
      simp at this
      rw [← this] at hk
      exact absurd hk (by dsimp only; decide)
    · rw [show l.length + 1 = l.length + 1 from rfl] at hr
      unfold conF at hr
      split at hr
      · simp at hr
      · rename_i c r hd
        split at hr
        · simp at hr
        · split at hr
          · rcases conF_head 1 l l.length (skpF l (skpF l 0 + 1)) ([] ++ [⟨2, 1, (skpF l 0 : Nat), [], quoF (c.toNat : Int)⟩]) (by simp) with h | h
            · rw [hr] at h; simp at h
            · rw [hr] at h
              simp at h
              rw [h] at hk
              exact absurd hk (by dsimp only; decide)
          · split at hr
            · unfold scaF at hr
              rw [hd] at hr
              dsimp only at hr
              split at hr
              · rename_i hqq
                unfold qtdF at hr
                rw [hd] at hr
                dsimp only at hr
                split at hr
                · simp at hr
                · split at hr
                  · simp at hr
                    rw [← hr] at hq
                    exact absurd (hqq.symm.trans hq) (by decide)
                  · simp at hr
              · split at hr
                · simp at hr
                · rename_i d t' hp
                  simp at hr
                  rw [← hr] at ht
                  dsimp only at ht
                  have h1 := plnF_le (c :: r)
                  rw [hp, ht, ← hd, List.length_drop] at h1
                  have h2 := skpF_le l 0
                  have h3 : l ≠ [] := by rw [← ht]; simp
                  have h4 : 0 < l.length := List.length_pos_iff.2 h3
                  have h0 : skpF l 0 = 0 := by omega
                  rw [h0] at hd
                  rw [List.drop_zero] at hd
                  unfold plB
                  rw [decide_eq_true_iff]
                  refine ⟨h3, hst, ?_⟩
                  rw [hd, hp, ht, hd]
            · rename_i t' k hkf
              split at hr
              · have := congrArg (fun x => x.1.head?) hr
                simp at this
                rw [← this] at hk
                exact absurd hk (by dsimp only; decide)
              · rcases scaF_head 1 l (skpF l (skpF l 0 + k)) ([] ++ [⟨3, 1, (skpF l 0 : Nat), t', quoF (c.toNat : Int)⟩]) (by simp) with h | h
                · rw [hr] at h; simp at h
                · rw [hr] at h
                  simp at h
                  rw [h] at hk
                  exact absurd hk (by dsimp only; decide)
  · intro h
    obtain ⟨h1, h2, h3⟩ := of_decide_eq_true h
    exact ⟨_, plain_read l h2 h1 h3, rfl, rfl, rfl⟩
theorem str_no10 {l : List UInt8} (h : strF l = 0) : ¬ (10 : UInt8) ∈ l := by
  intro hm
  unfold strF at h
  split at h
  · exact absurd h (by decide)
  · split at h
    · exact absurd h (by decide)
    · rename_i h2
      apply h2
      rw [List.any_eq_true]
      exact ⟨10, hm, by decide⟩
end Go.Proofs.YtjmgngocpokpgaaDoor
