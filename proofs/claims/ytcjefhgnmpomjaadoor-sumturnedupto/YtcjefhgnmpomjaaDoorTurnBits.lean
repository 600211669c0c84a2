/-
  Plain facts: the bits of bytes, one of them turned, and frames with bits turned.
-/
import Derived.Test.YtcjefhgnmpomjaaDoorTurnRec
namespace Go.Proofs.YtcjefhgnmpomjaaDoor
open Go.RowKit
set_option linter.unusedVariables false

theorem bitsN_at (k v i : Nat) : (bitsN k v)[i]? = if i < k then some (v.testBit i) else none := by
  induction k generalizing v i with
  | zero => simp [bitsN]
  | succ k ih =>
    cases i with
    | zero =>
      simp only [bitsN, List.getElem?_cons_zero, Nat.testBit_zero]
      rcases Nat.mod_two_eq_zero_or_one v with h | h <;> simp [h]
    | succ i => simp only [bitsN, List.getElem?_cons_succ, ih, Nat.testBit_succ, Nat.add_lt_add_iff_right]
theorem bitsOf_get (zs : List Int) (j : Nat) : (bitsOf zs)[j]? = (zs[j / 8]?).map fun z => z.toNat.testBit (j % 8) := by
  induction zs generalizing j with
  | nil => simp [bitsOf]
  | cons z r ih =>
    have e : bitsOf (z :: r) = bitsN 8 z.toNat ++ bitsOf r := by simp [bitsOf]
    rw [e]
    by_cases hj : j < 8
    · rw [List.getElem?_append_left (by rw [bitsN_length]; exact hj), bitsN_at, if_pos hj, show j / 8 = 0 by omega, show j % 8 = j by omega]; rfl
    · rw [List.getElem?_append_right (by rw [bitsN_length]; omega), bitsN_length, ih, show j / 8 = (j - 8) / 8 + 1 by omega, show j % 8 = (j - 8) % 8 by omega, List.getElem?_cons_succ]
theorem bitsOf_append (a b : List Int) : bitsOf (a ++ b) = bitsOf a ++ bitsOf b := by simp [bitsOf]
/-- One bit of one byte turned. -/
theorem bits_set (M : List Int) (p k : Nat) (x y : Int) (hk : k < 8) (hx : M[p]? = some x) (hy : y.toNat = x.toNat ^^^ 2 ^ k) (j : Nat) :
    (bitsOf (M.set p y))[j]? = if j = 8 * p + k then ((bitsOf M)[j]?).map not else (bitsOf M)[j]? := by
  have hp := (List.getElem?_eq_some_iff.1 hx).1
  rw [bitsOf_get, bitsOf_get, List.getElem?_set]
  by_cases hjp : p = j / 8
  · subst hjp
    rw [if_pos rfl, if_pos hp, hx]
    simp only [Option.map_some, hy, Nat.testBit_xor, Nat.testBit_two_pow]
    by_cases hjk : k = j % 8
    · subst hjk
      rw [if_pos (by omega)]; simp
    · rw [if_neg (by omega)]; simp [hjk]
  · rw [if_neg hjp, if_neg (by omega)]
/-- The bits from the first on, i of them, may be turned; and when told so, one is. -/
structure Turns (F M : List Int) (first i : Nat) (t : Bool) : Prop where
  len : M.length = F.length
  oct : Octets M
  same : ∀ j, (j < first ∨ first + i ≤ j) → (bitsOf M)[j]? = (bitsOf F)[j]?
  diff : t = true → ∃ j, j < first + i ∧ (bitsOf M)[j]? ≠ (bitsOf F)[j]?
theorem Turns.start (F : List Int) (first : Nat) (h : Octets F) : Turns F F first 0 false := ⟨rfl, h, fun _ _ => rfl, fun h => by cases h⟩
theorem Turns.pass {F M : List Int} {first i : Nat} {t : Bool} (h : Turns F M first i t) : Turns F M first (i + 1) t :=
  ⟨h.len, h.oct, fun j hj => h.same j (by omega), fun ht => by obtain ⟨j, h1, h2⟩ := h.diff ht; exact ⟨j, by omega, h2⟩⟩
theorem oct_set {M : List Int} (h : Octets M) (p : Nat) (y : Int) (h0 : 0 ≤ y) (h1 : y ≤ 255) : Octets (M.set p y) := fun i => by
  rw [List.getD_eq_getElem?_getD, List.getElem?_set]
  by_cases hp : p = i
  · subst hp
    rw [if_pos rfl]
    by_cases hl : p < M.length
    · rw [if_pos hl]; exact ⟨h0, h1⟩
    · rw [if_neg hl]; simp
  · rw [if_neg hp]; have := h i; rwa [List.getD_eq_getElem?_getD] at this
theorem Turns.turn {F M : List Int} {first i : Nat} {t : Bool} (h : Turns F M first i t) (x y : Int) (hx : M[(first + i) / 8]? = some x) (hy : y.toNat = x.toNat ^^^ 2 ^ ((first + i) % 8)) (h0 : 0 ≤ y) (h1 : y ≤ 255) : Turns F (M.set ((first + i) / 8) y) first (i + 1) true := by
  have hb := bits_set M ((first + i) / 8) ((first + i) % 8) x y (by omega) hx hy
  have e : 8 * ((first + i) / 8) + (first + i) % 8 = first + i := by omega
  rw [e] at hb
  refine ⟨by rw [List.length_set]; exact h.len, oct_set h.oct _ _ h0 h1, fun j hj => ?_, fun _ => ⟨first + i, by omega, ?_⟩⟩
  · rw [hb, if_neg (by omega)]; exact h.same j (by omega)
  · rw [hb, if_pos rfl, h.same _ (by omega)]
    have hl : first + i < (bitsOf F).length := by
      rw [bitsOf_length, ← h.len]
      have := (List.getElem?_eq_some_iff.1 hx).1
      omega
    rw [List.getElem?_eq_getElem hl]
    simp
theorem bits_take (M : List Int) (k j : Nat) (h : j < 8 * k) : (bitsOf (M.take k))[j]? = (bitsOf M)[j]? := by
  rw [bitsOf_get, bitsOf_get, List.getElem?_take, if_pos (by omega)]
theorem bits_drop (M : List Int) (k j : Nat) : (bitsOf (M.drop k))[j]? = (bitsOf M)[8 * k + j]? := by
  rw [bitsOf_get, bitsOf_get, List.getElem?_drop, show (8 * k + j) / 8 = k + j / 8 by omega, show (8 * k + j) % 8 = j % 8 by omega]
/-- A frame so turned begins no record. -/
theorem Turns.torn {zs M : List Int} {first i : Nat} (hz : Octets zs) (hl : zs.length ≤ 131072) (h : Turns (four (sumOf zs) ++ zs) M first i true) (hi : i ≤ 32) (hf : first < 32 → first + i ≤ 32) (tail : List Int) (ht : Octets tail) : ∀ N, ¬ IsRec (four zs.length ++ M ++ tail) N := by
  have b := sumOf_bd zs hz (by omega)
  have O4 := four_octets _ b.1 b.2
  have hlen := h.len
  rw [List.length_append, four_length] at hlen
  have hF : (four (sumOf zs) ++ zs).drop 4 = zs := List.drop_left' (four_length _)
  have hF4 : (four (sumOf zs) ++ zs).take 4 = four (sumOf zs) := List.take_left' (four_length _)
  have hM : M = M.take 4 ++ M.drop 4 := (List.take_append_drop 4 M).symm
  have hne : M ≠ four (sumOf zs) ++ zs := fun e => by
    obtain ⟨j, _, hj⟩ := h.diff rfl
    rw [e] at hj; exact hj rfl
  by_cases hc : first < 32
  · have hd : M.drop 4 = zs := bitsOf_inj _ _ (h.oct.drop 4) hz (List.ext_getElem? fun j => by
      have h1 := bits_drop (four (sumOf zs) ++ zs) 4 j
      rw [hF] at h1
      rw [bits_drop, h1]
      exact h.same _ (.inr (by have := hf hc; omega)))
    rw [hd] at hM
    rw [hM]
    refine turned_rec (M.take 4) zs tail (by rw [List.length_take]; omega) hz (h.oct.take 4) ht hl fun e => hne ?_
    rw [hM, e]
  · have hk : M.take 4 = four (sumOf zs) := bitsOf_inj _ _ (h.oct.take 4) O4 (List.ext_getElem? fun j => by
      by_cases hj : j < 32
      · have h1 := bits_take (four (sumOf zs) ++ zs) 4 j (by omega)
        rw [hF4] at h1
        rw [bits_take _ _ _ (by omega), h1]
        exact h.same _ (.inl (by omega))
      · rw [List.getElem?_eq_none (by rw [bitsOf_length, List.length_take]; omega), List.getElem?_eq_none (by rw [bitsOf_length, four_length]; omega)])
    have hdl : (M.drop 4).length = zs.length := by rw [List.length_drop]; omega
    have hne2 : four (sumOf zs) ≠ four (sumOf (M.drop 4)) := turned_payload zs (M.drop 4) (first - 32) hz (h.oct.drop 4) hdl.symm (by omega) (fun j hj => by
      have h1 := bits_drop (four (sumOf zs) ++ zs) 4 j
      rw [hF] at h1
      rw [bits_drop, h1]
      exact (h.same _ (by omega)).symm) (fun e => hne (by rw [hM, hk, ← e]))
    rw [hk] at hM
    rw [hM, ← hdl]
    exact turned_rec _ _ tail (four_length _) (h.oct.drop 4) O4 ht (by omega) hne2
end Go.Proofs.YtcjefhgnmpomjaaDoor
