/-
  Plain arithmetic: bits that are turned within 32 side by side make another sum.
-/
import Derived.Test.YtcjefhgnmpomjaaDoorMath
namespace Go.Proofs.YtcjefhgnmpomjaaDoor
open Go.RowKit
set_option linter.unusedVariables false

theorem xor_zero_eq {a b : Nat} (h : a ^^^ b = 0) : a = b := by
  have := congrArg (· ^^^ b) h
  simpa [Nat.xor_assoc] using this
theorem flip_inj (x y : Int) (h0 : 0 ≤ x) (h1 : x < 4294967296) (g0 : 0 ≤ y) (g1 : y < 4294967296) (h : flip x = flip y) : x = y := by
  rw [← flip_flip x h0 h1, ← flip_flip y g0 g1, h]
theorem T_ne (y : Nat) (h0 : y ≠ 0) (h1 : y < 4294967296) : T y ≠ 0 := by
  unfold T
  split
  · intro h
    have : y / 2 = 2197175160 := xor_zero_eq h
    omega
  · omega
theorem Tn_ne (n y : Nat) (h0 : y ≠ 0) (h1 : y < 4294967296) : Tn n y ≠ 0 := by
  induction n generalizing y with
  | zero => exact h0
  | succ n ih => exact ih _ (T_ne y h0 h1) (T_bd y h1)
theorem Tn_inj (n a b : Nat) (ha : a < 4294967296) (hb : b < 4294967296) (h : Tn n a = Tn n b) : a = b := by
  apply Decidable.byContradiction
  intro hne
  have h2 := Tn_ne n (a ^^^ b) (fun e => hne (xor_zero_eq e)) (Nat.xor_lt_two_pow (n := 32) ha hb)
  rw [Tn_xor, h, Nat.xor_self] at h2
  exact h2 rfl
theorem xor_left_inj (a b c : Nat) (h : a ^^^ b = a ^^^ c) : b = c := by
  have := congrArg (a ^^^ ·) h
  simpa [← Nat.xor_assoc] using this

/-- Bits as a number, the lowest first. -/
def val : List Bool → Nat
  | [] => 0
  | b :: r => b.toNat + 2 * val r
theorem val_lt (u : List Bool) : val u < 2 ^ u.length := by
  induction u with
  | nil => simp [val]
  | cons b r ih => simp only [val, List.length_cons, Nat.pow_succ]; have : b.toNat ≤ 1 := by cases b <;> simp
                   omega
theorem bitsN_val (u : List Bool) : bitsN u.length (val u) = u := by
  induction u with
  | nil => rfl
  | cons b r ih =>
    simp only [val, List.length_cons, bitsN]
    have h1 : (b.toNat + 2 * val r) % 2 = b.toNat := by cases b <;> simp <;> omega
    have h2 : (b.toNat + 2 * val r) / 2 = val r := by cases b <;> simp <;> omega
    rw [h1, h2, ih]
    cases b <;> simp
theorem fold_bd (u : List Bool) (x : Int) (h0 : 0 ≤ x) (h1 : x < 4294967296) : 0 ≤ u.foldl refStep x ∧ u.foldl refStep x < 4294967296 := by
  induction u generalizing x with
  | nil => exact ⟨h0, h1⟩
  | cons b r ih => have := refStep_bd x b h0 h1; exact ih _ this.1 this.2
/-- The same bits behind another register leave another register. -/
theorem fold_inj (u : List Bool) (x y : Int) (h0 : 0 ≤ x) (h1 : x < 4294967296) (g0 : 0 ≤ y) (g1 : y < 4294967296) (h : u.foldl refStep x = u.foldl refStep y) : x = y := by
  induction u generalizing x y with
  | nil => exact h
  | cons b r ih =>
    have bx := refStep_bd x b h0 h1
    have by' := refStep_bd y b g0 g1
    have e := ih _ _ bx.1 bx.2 by'.1 by'.2 h
    rw [refStep_T x b h0 h1, refStep_T y b g0 g1] at e
    have e' : T (x.toNat ^^^ b.toNat) = T (y.toNat ^^^ b.toNat) := by exact_mod_cast e
    have hb : b.toNat < 2 ^ 32 := by cases b <;> simp
    have e2 := Tn_inj 1 _ _ (Nat.xor_lt_two_pow (n := 32) (by omega) hb) (Nat.xor_lt_two_pow (n := 32) (by omega) hb) e'
    rw [Nat.xor_comm _ b.toNat, Nat.xor_comm _ b.toNat] at e2
    have := xor_left_inj _ _ _ e2
    omega
/-- Other bits, at most 32, behind the same register. -/
theorem fold_short (u v : List Bool) (x : Int) (h0 : 0 ≤ x) (h1 : x < 4294967296) (hl : u.length = v.length) (hs : u.length ≤ 32) (h : u.foldl refStep x = v.foldl refStep x) : u = v := by
  have lu := val_lt u
  have lv := val_lt v
  have p32 : 2 ^ u.length ≤ 2 ^ 32 := Nat.pow_le_pow_right (by omega) hs
  rw [← bitsN_val u, ← bitsN_val v, refFold _ _ x lu h0 h1, refFold _ _ x lv h0 h1, ← hl] at h
  have h' : Tn u.length (x.toNat ^^^ val u) = Tn u.length (x.toNat ^^^ val v) := by exact_mod_cast h
  rw [← hl] at lv
  have e := Tn_inj _ _ _ (Nat.xor_lt_two_pow (n := 32) (by omega) (by omega)) (Nat.xor_lt_two_pow (n := 32) (by omega) (by omega)) h'
  have e2 := xor_left_inj _ _ _ e
  rw [← bitsN_val u, ← bitsN_val v, e2, hl]
theorem burst (us vs : List Bool) (f : Nat) (x : Int) (h0 : 0 ≤ x) (h1 : x < 4294967296) (hl : us.length = vs.length) (hw : ∀ i, (i < f ∨ f + 32 ≤ i) → us[i]? = vs[i]?) (h : us.foldl refStep x = vs.foldl refStep x) : us = vs := by
  have ep : us.take f = vs.take f := by
    apply List.ext_getElem?
    intro i
    rw [List.getElem?_take, List.getElem?_take]
    split
    · exact hw i (.inl (by assumption))
    · rfl
  have es : (us.drop f).drop 32 = (vs.drop f).drop 32 := by
    apply List.ext_getElem?
    intro i
    simp only [List.drop_drop, List.getElem?_drop]
    exact hw _ (.inr (by omega))
  have da : us = us.take f ++ ((us.drop f).take 32 ++ (us.drop f).drop 32) := by rw [List.take_append_drop, List.take_append_drop]
  have db : vs = vs.take f ++ ((vs.drop f).take 32 ++ (vs.drop f).drop 32) := by rw [List.take_append_drop, List.take_append_drop]
  rw [da, db, List.foldl_append, List.foldl_append, List.foldl_append, List.foldl_append, ep, es] at h
  have bp := fold_bd (vs.take f) x h0 h1
  have bu := fold_bd ((us.drop f).take 32) _ bp.1 bp.2
  have bv := fold_bd ((vs.drop f).take 32) _ bp.1 bp.2
  have e1 := fold_inj _ _ _ bu.1 bu.2 bv.1 bv.2 h
  have e2 := fold_short _ _ _ bp.1 bp.2 (by simp [hl]) (by simp; omega) e1
  rw [da, db, ep, es, e2]
theorem bitsOf_inj (zs ys : List Int) (hz : Octets zs) (hy : Octets ys) (h : bitsOf zs = bitsOf ys) : zs = ys := by
  induction zs generalizing ys with
  | nil =>
    have := congrArg List.length h
    rw [bitsOf_length, bitsOf_length] at this
    cases ys with
    | nil => rfl
    | cons y r => simp at this
  | cons z r ih =>
    cases ys with
    | nil => have := congrArg List.length h; rw [bitsOf_length, bitsOf_length] at this; simp at this
    | cons y s =>
      simp only [bitsOf, List.flatMap_cons] at h
      obtain ⟨h1, h2⟩ := List.append_inj h (by rw [bitsN_length, bitsN_length])
      have bz := hz 0
      have by' := hy 0
      simp at bz by'
      have e : z.toNat = y.toNat := by
        have f1 := refFold 8 z.toNat 0 (by show _ < 256; omega) (by decide) (by decide)
        have f2 := refFold 8 y.toNat 0 (by show _ < 256; omega) (by decide) (by decide)
        rw [h1, f2] at f1
        simp at f1
        exact (Tn_inj 8 _ _ (by omega) (by omega) (by exact_mod_cast f1)).symm
      rw [ih s (fun i => by simpa using hz (i + 1)) (fun i => by simpa using hy (i + 1)) h2]
      congr 1
      omega
/-- Bits that are turned within 32 side by side make another sum. -/
theorem more_turned (c : Int) (zs ys : List Int) (f : Nat) (hz : Octets zs) (hy : Octets ys) (h0 : 0 ≤ c) (h1 : c < 4294967296) (hl : zs.length = ys.length) (hw : ∀ i, (i < f ∨ f + 32 ≤ i) → (bitsOf zs)[i]? = (bitsOf ys)[i]?) (h : moreF c zs = moreF c ys) : zs = ys := by
  have fb := flip_bd c h0 h1
  rw [← ref_eq c zs hz h0 h1, ← ref_eq c ys hy h0 h1] at h
  have bz := fold_bd (bitsOf zs) _ fb.1 fb.2
  have by' := fold_bd (bitsOf ys) _ fb.1 fb.2
  have e : (bitsOf zs).foldl refStep (flip c) = (bitsOf ys).foldl refStep (flip c) := flip_inj _ _ bz.1 bz.2 by'.1 by'.2 h
  exact bitsOf_inj zs ys hz hy (burst _ _ f _ fb.1 fb.2 (by rw [bitsOf_length, bitsOf_length, hl]) hw e)
end Go.Proofs.YtcjefhgnmpomjaaDoor
