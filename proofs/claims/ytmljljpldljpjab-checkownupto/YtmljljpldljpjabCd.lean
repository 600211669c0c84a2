/-
  The walk of CheckDiffs.
-/
import Derived.Test.YtmljljpldljpjabRd
import Derived.Test.YtmljljpldljpjabNn
namespace Go.Proofs.Ytmljljpldljpjab
open Go.RowKit
set_option linter.unusedVariables false
set_option linter.unusedSimpArgs false
set_option maxRecDepth 100000
theorem Ol.form {W : World} {base : Nat} {v : Value} {os : List Rx} (h : Ol W base v os) : ∃ a c, v = .slice a os.length c := by
  obtain ⟨a, c, e, _⟩ := own_form h.row; exact ⟨a, c, e⟩
theorem toks {w : World} {l r : List Rx} (h : l.map Rx.toRs = r.map Rx.toRs) (hk : ∀ o ∈ r, Rin w o) : ∀ o ∈ l, Rok o.toRs := by
  intro o ho
  have : o.toRs ∈ r.map Rx.toRs := by rw [← h]; exact List.mem_map_of_mem ho
  obtain ⟨p, hp, e⟩ := List.mem_map.1 this
  rw [← e]; exact (hk p hp).ok
/-- what own leaves -/
def OwnE (w : World) (F : List Rx) (e : Ending) (w' : World) : Prop := ∃ a c qs, e = .returned (.slice a F.length c) ∧ qs.length = F.length ∧ Ol w' w.heap.size (.slice a F.length c) qs ∧ Lr w' a qs ∧ qs.map Rx.toRs = F.map Rx.toRs ∧ Below w.heap.size w w'
theorem own_e (w : World) (a : Option Addr) (c : Nat) (os : List Rx) (hL : Lr w a os) (hb : ∀ o ∈ os, Bare o) (hs : os.length ≤ 1048576) : Calls Try.prog 5 #[.slice a os.length c] w fun e w' => OwnE w os e w' := by
  refine (own_any w a os.length c os hL hb rfl hs).mono ?_
  rintro e w' ⟨v, qs, rfl, h1, h2, h3⟩
  obtain ⟨a', c', rfl⟩ := h1.form
  have hl := says_len h2
  rw [hl] at h1 ⊢
  exact ⟨a', c', qs, rfl, hl, h1, h1.lr (toks h2 hL.each), h2, h3⟩
/-- what Diff leaves -/
def DifE (w : World) (R : List Rs) (e : Ending) (w' : World) : Prop := ∃ a c qs, e = .returned (.slice a R.length c) ∧ qs.length = R.length ∧ Ol w' w.heap.size (.slice a R.length c) qs ∧ Lr w' a qs ∧ qs.map Rx.toRs = R ∧ Below w.heap.size w w'
theorem diff_ok {sb : Rs → Rs → Bool} {F T : List Rs} (hF : ∀ r ∈ F, Rok r) (hT : ∀ r ∈ T, Rok r) : ∀ r ∈ foldP (delsL F T F.length ++ newsL sb F T T.length), Rok r := by
  intro r hr
  have hr2 := ((foldP_spec (diff_nodup sb F T _ _)).2 r).1 hr
  rcases List.mem_append.1 hr2 with h | h
  · obtain ⟨j, q, _, hq, _, _, rfl⟩ := delsL_spec h
    have hk := hF q (List.mem_of_getElem? hq)
    exact ⟨hk.k1, hk.n1, by show (0 : Nat) ≤ 1048576; decide, by show (0 : Nat) ≤ 1048576; decide, fun s hs => (by cases hs), fun s hs => (by cases hs), fun s hs => (by cases hs), Nat.zero_le _, Nat.zero_le _, Nat.zero_le _⟩
  · obtain ⟨j, _, hq, _⟩ := newsL_spec h
    exact hT r (List.mem_of_getElem? hq)
theorem diff_e {sb : Rs → Rs → Bool} (hsb : ∀ a b, sb a b = true ↔ SameC a b) (w : World) (a b : Option Addr) (c1 c2 : Nat) (F T : List Rx) (hF : Lr w a F) (hT : Lr w b T) (hs : F.length ≤ 1048576) (hs2 : T.length ≤ 1048576) :
    Calls Try.prog 7 #[.slice a F.length c1, .slice b T.length c2] w fun e w' => DifE w (foldP (delsL (F.map Rx.toRs) (T.map Rx.toRs) F.length ++ newsL sb (F.map Rx.toRs) (T.map Rx.toRs) T.length)) e w' := by
  refine (diff_any sort_none sb hsb w a b F.length T.length c1 c2 F T hF hT rfl rfl hs hs2).mono ?_
  rintro e w' ⟨v, qs, rfl, h1, h2, h3⟩
  obtain ⟨a', c', rfl⟩ := h1.form
  have hl : qs.length = (foldP (delsL (F.map Rx.toRs) (T.map Rx.toRs) F.length ++ newsL sb (F.map Rx.toRs) (T.map Rx.toRs) T.length)).length := by rw [← h2, List.length_map]
  rw [hl] at h1 ⊢
  have hok := diff_ok (sb := sb) (F := F.map Rx.toRs) (T := T.map Rx.toRs) (fun r hr => by obtain ⟨p, hp, rfl⟩ := List.mem_map.1 hr; exact (hF.each p hp).ok) (fun r hr => by obtain ⟨p, hp, rfl⟩ := List.mem_map.1 hr; exact (hT.each p hp).ok)
  rw [List.length_map, List.length_map] at hok
  refine ⟨a', c', qs, rfl, hl, h1, h1.lr (fun o ho => ?_), h2, h3⟩
  exact hok o.toRs (by rw [← h2]; exact List.mem_map_of_mem ho)
end Go.Proofs.Ytmljljpldljpjab
