/-
  The document's own scan: what it says, held against what is told.
-/
import Derived.Test.YtjmgngocpokpgaaDoorLns
namespace Go.Proofs.YtjmgngocpokpgaaDoor
open Go.RowKit
set_option linter.unusedVariables false
set_option linter.unusedSimpArgs false
/-- The tokens ahead of the first fault. -/
def preT (xs : List Tl) : List Tk := (xs.takeWhile (fun x => decide (x.e = 0))).map (·.tk)
theorem preT_ok (T : List Tk) (xs : List Tl) : preT (T.map okT ++ xs) = T ++ preT xs := by
  induction T with
  | nil => rfl
  | cons t T ih =>
    unfold preT at ih ⊢
    rw [List.map_cons, List.cons_append, List.takeWhile_cons_of_pos (by simp [okT]), List.map_cons, ih]
    rfl
theorem flt_ok (T : List Tk) (xs : List Tl) : fltOf (T.map okT ++ xs) = fltOf xs := by
  unfold fltOf
  rw [List.find?_append, List.find?_eq_none.2 (fun x hx => by obtain ⟨t, _, rfl⟩ := List.mem_map.1 hx; simp [okT])]
  rfl
theorem preT_bad (x : Tl) (h : x.e ≠ 0) : preT [x] = [] ∧ fltOf [x] = (x.d, x.ln, x.e) := by
  constructor
  · unfold preT
    rw [List.takeWhile_cons_of_neg (by simpa using h)]
    rfl
  · unfold fltOf
    rw [List.find?_cons_of_pos (by simpa using h)]
theorem tok_pre (A : List Tl) (h : (fltOf A).2.2 = 0) : toksOf A = preT A := by
  unfold fltOf at h
  unfold toksOf preT
  rcases hf : A.find? (fun x => decide (x.e ≠ 0)) with _ | x
  · have ha : ∀ x ∈ A, decide (x.e = 0) = true := fun x hx => by
      have := List.find?_eq_none.1 hf x hx
      simpa using this
    have hw : ∀ B : List Tl, (∀ x ∈ B, decide (x.e = 0) = true) → B.takeWhile (fun x => decide (x.e = 0)) = B := by
      intro B hB
      induction B with
      | nil => rfl
      | cons b B ih =>
        rw [List.takeWhile_cons, if_pos (hB b (by simp)), ih (fun x hx => hB x (by simp [hx]))]
    rw [hf, hw A ha]
  · rw [hf] at h
    have := List.find?_some hf
    exact absurd h (by simpa using this)
theorem tok_bad (A : List Tl) (h : (fltOf A).2.2 ≠ 0) : toksOf A = [] := by
  unfold fltOf at h
  unfold toksOf
  rcases hf : A.find? (fun x => decide (x.e ≠ 0)) with _ | x
  · rw [hf] at h
    exact absurd rfl h
  · rw [hf]
theorem scaF_kind (num : Int) (l : List UInt8) (p : Nat) (ts : List Tk) (h : ∀ t ∈ ts, t.kind ≠ 1) : ∀ t ∈ (scaF num l p ts).1, t.kind ≠ 1 := by
  have key : ∀ u : Tk, u.kind ≠ 1 → ∀ t ∈ ts ++ [u], t.kind ≠ 1 := fun u hu t ht => by
    rcases List.mem_append.1 ht with h1 | h1
    · exact h t h1
    · rw [List.mem_singleton.1 h1]; exact hu
  unfold scaF qtdF
  split
  · simp
  · split
    · split
      · simp
      · split
        · simp
        · split
          · exact key _ (by dsimp only; decide)
          · simp
    · split
      · simp
      · exact key _ (by dsimp only; decide)
theorem conF_kind (num : Int) (l : List UInt8) : ∀ (n p : Nat) (ts : List Tk), (∀ t ∈ ts, t.kind ≠ 1) → ∀ t ∈ (conF num l n p ts).1, t.kind ≠ 1
  | 0, p, ts, h => by simp [conF]
  | n + 1, p, ts, h => by
    have key : ∀ u : Tk, u.kind ≠ 1 → ∀ t ∈ ts ++ [u], t.kind ≠ 1 := fun u hu t ht => by
      rcases List.mem_append.1 ht with h1 | h1
      · exact h t h1
      · rw [List.mem_singleton.1 h1]; exact hu
    unfold conF
    split
    · exact h
    · split
      · exact h
      · split
        · exact conF_kind num l n _ _ (key _ (by dsimp only; decide))
        · split
          · exact scaF_kind num l p ts h
          · split
            · exact key _ (by dsimp only; decide)
            · exact scaF_kind num l _ _ (key _ (by dsimp only; decide))
/-- A line begins a document just when its one token says so. -/
theorem doc_read (l : List UInt8) (n : Int) : (∃ t, (readF l n).1 = [t] ∧ t.kind = 1 ∧ docN (readF l n).1 = 1) ∨ ((∀ t ∈ (readF l n).1, t.kind ≠ 1) ∧ docN (readF l n).1 = 0) := by
  have key : ∀ ts : List Tk, (∀ t ∈ ts, t.kind ≠ 1) → docN ts = 0 := fun ts h => by
    unfold docN
    rw [List.length_eq_zero_iff, List.filter_eq_nil_iff]
    intro t ht
    simpa using h t ht
  unfold readF
  split
  · right; simp [docN]
  · split
    · left
      exact ⟨_, rfl, rfl, by simp [docN]⟩
    · right
      have h := conF_kind n l (l.length + 1) (skpF l 0) [] (by simp)
      exact ⟨h, key _ h⟩
/-- A line, and what follows. -/
theorem lin_step {m : Nat} {r : List UInt8} {num docs : Nat} {x : List UInt8} {Y : List (List UInt8)} (hm : r.length < m + 1) (h : lsF (m + 1) r = x :: Y) : ∃ b, lsF m b = Y ∧ b.length < m ∧ b.length + x.length ≤ r.length ∧ linF (m + 1) r num docs = if (readF x num).2 ≠ 0 then [⟨zTk, docs, num, (readF x num).2⟩] else (readF x num).1.map okT ++ linF m b (num + 1) (docs + docN (readF x num).1) := by
  rw [lsF] at h
  split at h
  · cases h
  · rename_i hr
    injection h with h1 h2
    have hc := cut10 r hr
    refine ⟨(Lib.cut r [10]).2.1, h2, ?_, ?_, ?_⟩
    · omega
    · rw [← h1]; omega
    · rw [linF, if_neg hr, h1]
theorem lin_end {m : Nat} {r : List UInt8} {num docs : Nat} (h : lsF (m + 1) r = []) : linF (m + 1) r num docs = [] := by
  rw [lsF] at h
  split at h
  · rename_i hr
    rw [hr, linF_nil]
  · cases h
end Go.Proofs.YtjmgngocpokpgaaDoor
