/-
  The order of keys; lists in strict order.
-/
import Derived.Test.YtmljljpldljpjabKc
import Derived.Sort.Walk0
namespace Go.Proofs.Ytmljljpldljpjab
open Go.RowKit
set_option linter.unusedVariables false
set_option linter.unusedSimpArgs false
theorem ba_toList_inj {a b : ByteArray} (h : a.toList = b.toList) : a = b := by
  rw [ByteArray.toList_eq, ByteArray.toList_eq] at h
  obtain ⟨x⟩ := a
  obtain ⟨y⟩ := b
  exact congrArg ByteArray.mk (Array.toList_inj.1 h)
theorem sless_irrefl (a : ByteArray) : sless a a = false := by
  unfold sless; rw [bytesLess_eq]; simp
theorem sless_trans {a b c : ByteArray} (h : sless a b = true) (g : sless b c = true) : sless a c = true := by
  unfold sless at *; rw [bytesLess_eq] at *
  have h1 := of_decide_eq_true h
  have h2 := of_decide_eq_true g
  exact decide_eq_true (List.lt_trans h1 h2)
theorem sless_total {a b : ByteArray} (h : sless a b = false) (hne : a ≠ b) : sless b a = true := by
  unfold sless at *; rw [bytesLess_eq] at *
  have h1 := of_decide_eq_false h
  refine decide_eq_true ?_
  have h2 := List.not_lt.1 h1
  rcases List.le_iff_lt_or_eq.1 h2 with h3 | h3
  · exact h3
  · exact absurd (ba_toList_inj h3).symm hne
/-- a key stands ahead of another -/
def klt (k l : Int × ByteArray) : Prop := k.1 < l.1 ∨ (k.1 = l.1 ∧ sless k.2 l.2 = true)
theorem klt_irrefl (k : Int × ByteArray) : ¬ klt k k := by
  rintro (h | ⟨_, h⟩)
  · omega
  · rw [sless_irrefl] at h; cases h
theorem klt_trans {a b c : Int × ByteArray} (h : klt a b) (g : klt b c) : klt a c := by
  rcases h with h | ⟨h1, h2⟩ <;> rcases g with g | ⟨g1, g2⟩
  · left; omega
  · left; omega
  · left; omega
  · right; exact ⟨by omega, sless_trans h2 g2⟩
theorem klt_total {a b : Int × ByteArray} (hne : a ≠ b) : klt a b ∨ klt b a := by
  obtain ⟨x, s⟩ := a
  obtain ⟨y, t⟩ := b
  by_cases h1 : x < y
  · exact .inl (.inl h1)
  by_cases h2 : y < x
  · exact .inr (.inl h2)
  have e : x = y := by omega
  subst e
  cases hs : sless s t
  · exact .inr (.inr ⟨rfl, sless_total hs (fun e => hne (congrArg (Prod.mk x) e))⟩)
  · exact .inl (.inr ⟨rfl, hs⟩)
theorem klt_asymm {a b : Int × ByteArray} (h : klt a b) : ¬ klt b a := fun g => klt_irrefl _ (klt_trans h g)
theorem kcmp_lt (k l : Int × ByteArray) : kcmp k l < 0 ↔ klt k l := by
  obtain ⟨x, a⟩ := k
  obtain ⟨y, b⟩ := l
  unfold kcmp icmp scmp klt
  dsimp only
  by_cases h1 : x < y
  · simp [h1]
  · by_cases h2 : y < x
    · have : ¬ x = y := by omega
      simp [h1, h2, this]
    · have e : x = y := by omega
      subst e
      cases hs : sless a b
      · by_cases h3 : (a.toList == b.toList) = true
        · simp [h3]
        · simp [h3]
      · simp
theorem kcmp_ge (k l : Int × ByteArray) : 0 ≤ kcmp k l ↔ ¬ klt k l := by rw [← kcmp_lt]; omega
def ck (k l : Int × ByteArray) : Bool := decide (kcmp k l < 0)
/-- resources in strict order -/
def KS (l : List Rs) : Prop := l.Pairwise (fun a b => klt a.key b.key)
theorem KS.ext : ∀ {l m : List Rs}, KS l → KS m → (∀ r, r ∈ l ↔ r ∈ m) → l = m
  | [], [], _, _, _ => rfl
  | [], b :: m, _, _, h => by have := (h b).2 (by simp); simp at this
  | a :: l, [], _, _, h => by have := (h a).1 (by simp); simp at this
  | a :: l, b :: m, hl, hm, h => by
    obtain ⟨hl1, hl2⟩ := List.pairwise_cons.1 hl
    obtain ⟨hm1, hm2⟩ := List.pairwise_cons.1 hm
    have hab : a = b := by
      rcases List.mem_cons.1 ((h a).1 (by simp)) with e | e
      · exact e
      · rcases List.mem_cons.1 ((h b).2 (by simp)) with e' | e'
        · exact e'.symm
        · exact absurd (hm1 a e) (klt_asymm (hl1 b e'))
    subst hab
    congr 1
    refine KS.ext hl2 hm2 (fun r => ⟨fun hr => ?_, fun hr => ?_⟩)
    · rcases List.mem_cons.1 ((h r).1 (by simp [hr])) with e | e
      · subst e; exact absurd (hl1 r hr) (klt_irrefl _)
      · exact e
    · rcases List.mem_cons.1 ((h r).2 (by simp [hr])) with e | e
      · subst e; exact absurd (hm1 r hr) (klt_irrefl _)
      · exact e
/-- of one key there is one resource -/
theorem KS.one {l : List Rs} (h : KS l) {a b : Rs} (ha : a ∈ l) (hb : b ∈ l) (e : a.key = b.key) : a = b := by
  induction l with
  | nil => cases ha
  | cons c l ih =>
    obtain ⟨h1, h2⟩ := List.pairwise_cons.1 h
    rcases List.mem_cons.1 ha with rfl | ha' <;> rcases List.mem_cons.1 hb with rfl | hb'
    · rfl
    · exact absurd (h1 b hb') (by rw [e]; exact klt_irrefl _)
    · exact absurd (h1 a ha') (by rw [e]; exact klt_irrefl _)
    · exact ih h2 ha' hb'
end Go.Proofs.Ytmljljpldljpjab
