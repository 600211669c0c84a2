/-
  ScalarKinds: what holds of each kind's text; its walk, whole.
-/
import Derived.Test.YthfmepnlbaifcaaDoorKi
import Derived.Test.YthfmepnlbaifcaaDoorRw
namespace Go.Proofs.YthfmepnlbaifcaaDoor
open Go.RowKit Ieee
set_option linter.unusedVariables false
set_option linter.unusedSimpArgs false
theorem dg_E {c : UInt8} (h : dg c = true) : dgE c := .inl (of_decide_eq_true h)
theorem unM_E {l : List UInt8} (h : ∀ c ∈ unM l, dgE c) : ∀ c ∈ l, dgE c := by
  cases hm : hasM l with
  | true =>
    have := hasM_cons hm
    intro c hc
    rw [this] at hc
    rcases List.mem_cons.1 hc with e | e
    · subst e; exact .inr (.inl rfl)
    · exact h c e
  | false =>
    have := (hasM_not hm).2
    rw [this] at h
    exact h
theorem shI_E {l : List UInt8} {n : Nm} (h : ShI l n) : ∀ c ∈ l, dgE c := unM_E fun c hc => dg_E (whl_dg h.2.2.2.2.1 c hc)
theorem shR_E {l : List UInt8} {n : Nm} (h : ShR l n) : ∀ c ∈ l, dgE c := by
  apply unM_E
  obtain ⟨_, h2, h3, h4⟩ := h
  have ha := whl_dg h2
  have hb := (dgs_iff.1 h3).1
  rcases h4 with ⟨e, _⟩ | ⟨p, e, hp, _⟩
  · rw [e]
    intro c hc
    rw [List.mem_append, List.mem_cons] at hc
    rcases hc with hc | hc | hc
    · exact dg_E (ha c hc)
    · subst hc; exact .inr (.inr (.inl rfl))
    · exact dg_E (hb c hc)
  · rw [e]
    have hpe : ∀ c ∈ p, dgE c := by
      apply unM_E
      unfold isP at hp
      rw [Bool.and_eq_true] at hp
      exact fun c hc => dg_E ((dgs_iff.1 hp.1).1 c hc)
    intro c hc
    rw [List.mem_append, List.mem_cons, List.mem_append, List.mem_cons] at hc
    rcases hc with hc | hc | hc | hc | hc
    · exact dg_E (ha c hc)
    · subst hc; exact .inr (.inr (.inl rfl))
    · exact dg_E (hb c hc)
    · subst hc; exact .inr (.inr (.inr rfl))
    · exact hpe c hc
theorem scan_E {l : List UInt8} {n : Nm} (h : scanF l = some n) : ∀ c ∈ l, dgE c := by
  rcases scan_shape h with h | h
  · exact shI_E h
  · exact shR_E h
theorem last_x {l m : List UInt8} {c : UInt8} (h : l ++ [120] = m) (hm : m.getLast? = some c) : c = 120 := by
  rw [← h] at hm
  simp at hm
  exact hm.symm
/-- a letter more makes a text of it -/
theorem plus_x (l : List UInt8) : plainF (l ++ [120]) = .text := by
  have hw : NoW (l ++ [120]) := by
    refine ⟨?_, ?_, ?_, ?_, ?_, ?_, ?_, ?_⟩
    · simp
    all_goals
      intro e
      have := last_x e rfl
      exact absurd this (by decide)
  rw [plainF_no hw]
  rcases hs : scanF (l ++ [120]) with _ | n
  · rfl
  · have := scan_E hs 120 (by simp)
    unfold dgE at this
    simp at this
theorem neg_rg {y : Nat} (hy : y < INF) : rg (Op.negFloat .f64 y) = y := by
  have h : y < 2 ^ 63 := by unfold INF at hy; omega
  show (y ^^^ 2 ^ 63) % 2 ^ 63 = y
  rw [Nat.xor_mod_two_pow, Nat.mod_self, Nat.xor_zero, Nat.mod_eq_of_lt h]
theorem real_fin {n : Nm} {x : Nat} (h : realV n = some x) : rg x < INF := by
  unfold realV at h
  split at h
  · rename_i hc
    have hf : scF (val (n.whole ++ n.rest)) (n.power - n.rest.length) < INF := by
      rcases Nat.eq_zero_or_pos (val (n.whole ++ n.rest)) with hz | hz
      · rw [hz, sc_zero hc.2.1 hc.2.2]; decide
      · exact (scF_fin hz hc.1 hc.2.1 hc.2.2).1
    have e := Option.some.inj h
    split at e
    · rw [← e, neg_rg hf]; exact hf
    · rw [← e, (rg_lt (Nat.le_of_lt hf)).1]; exact hf
  · cases h
theorem fin_eq {x : Nat} (h : rg x < INF) : (FloatKind.f64.format.order x x == some .eq) = true ∧ floatBits .sub .f64 x x = some 0 := by
  refine ⟨?_, sub_self x h⟩
  show (double.order x x == some .eq) = true
  rw [order_self h]
  rfl
theorem kinds_any (l : List UInt8) (w : World) (hs : l.length ≤ 2 ^ 47) (hsx : (l ++ [120]).length ≤ 2 ^ 47) (hE : Errs w) :
    Calls Tryd.prog 7 #[.string ⟨l.toArray⟩] w fun e w' => e = .returned (.bool true) ∧ Below w.heap.size w w' := by
  have hx := plus_x l
  by_cases h : NoW l
  · have n1 := beq_no h.2.2.2.2.2.1
    have n2 := beq_no h.2.2.2.2.2.2.1
    have n3 := beq_no h.2.2.2.2.2.2.2
    have hp := plainF_no h
    rcases hsc : scanF l with _ | n
    · rw [hsc] at hp
      exact kinds_text l _ rfl w hs hsx hE n1 n2 n3 (by rw [hp]; rfl) hx
    · rw [hsc] at hp
      have hd := scan_E hsc
      simp only [numS] at hp
      split at hp
      · rcases hv : intV n with _ | i
        · rw [hv] at hp
          exact kinds_text l _ rfl w hs hsx hE n1 n2 n3 (by rw [hp]; rfl) hx
        · rw [hv] at hp
          exact kinds_int l _ rfl w hs hsx hE n1 n2 n3 i hd (by rw [hp]; rfl) hx
      · rcases hv : realV n with _ | x
        · rw [hv] at hp
          exact kinds_text l _ rfl w hs hsx hE n1 n2 n3 (by rw [hp]; rfl) hx
        · rw [hv] at hp
          obtain ⟨f1, f2⟩ := fin_eq (real_fin hv)
          exact kinds_real l _ rfl w hs hsx hE n1 n2 n3 x hd f1 f2 (by rw [hp]; rfl) hx
  · rcases plainF_yes h with e | e | e | e | e | e | e | e
    · subst e; exact kinds_few _ _ rfl w hs hsx hE (by decide) (by decide) (by decide) 1 false (by decide) (by decide) rfl hx
    · subst e; exact kinds_few _ _ rfl w hs hsx hE (by decide) (by decide) (by decide) 1 false (by decide) (by decide) rfl hx
    · subst e; exact kinds_few _ _ rfl w hs hsx hE (by decide) (by decide) (by decide) 1 false (by decide) (by decide) rfl hx
    · subst e; exact kinds_few _ _ rfl w hs hsx hE (by decide) (by decide) (by decide) 2 true (by decide) (by decide) rfl hx
    · subst e; exact kinds_few _ _ rfl w hs hsx hE (by decide) (by decide) (by decide) 2 false (by decide) (by decide) rfl hx
    · exact kinds_nan l _ e rfl w hs hsx hE (by rw [e]; rfl) hx
    · exact kinds_inf l _ e rfl w hs hsx hE (by rw [e]; rfl) hx
    · exact kinds_ninf l _ e rfl w hs hsx hE (by rw [e]; rfl) hx
theorem kinds_str (a : ByteArray) (w : World) (hs : a.size ≤ 140737488351232) (hE : Errs w) :
    Calls Tryd.prog 7 #[.string a] w fun e w' => e = .returned (.bool true) ∧ Below w.heap.size w w' := by
  have e : a.data.toList.length = a.size := rfl
  have h := kinds_any a.data.toList w (by omega) (by rw [List.length_append]; simp only [List.length_cons, List.length_nil]; omega) hE
  rw [← str_list] at h
  exact h
end Go.Proofs.YthfmepnlbaifcaaDoor
