/-
  Plain facts of the document's Merge.
-/
import Derived.Test.YtmljljpldljpjabOu
import Derived.Test.YtmljljpldljpjabMa
import Derived.Test.YtmljljpldljpjabMe
namespace Go.Proofs.Ytmljljpldljpjab
open Go.RowKit
set_option linter.unusedVariables false
set_option linter.unusedSimpArgs false
set_option maxRecDepth 100000
theorem takeF {D : List Rs} {i : Nat} {r : Rs} (h : D[i]? = some r) : firstsF (D.take i) r.key = none ↔ firstsF D r.key = some i := by
  constructor
  · intro hn
    rw [firstsF_none_iff] at hn
    refine firstsF_at (fun j x hj hx e => ?_) h rfl
    have : x ∈ D.take i := by
      apply List.mem_of_getElem? (i := j)
      rw [List.getElem?_take_of_lt hj]; exact hx
    exact hn x this e
  · intro hf
    rw [firstsF_none_iff]
    intro x hx e
    obtain ⟨j, hj⟩ := List.getElem?_of_mem hx
    have hji : j < i := by have := (List.getElem?_eq_some_iff.1 hj).1; simp at this; omega
    rw [List.getElem?_take_of_lt hji] at hj
    unfold firstsF at hf
    obtain ⟨_, _, h3⟩ := List.findIdx?_eq_some_iff_getElem.1 hf
    have := h3 j hji
    have e2 := (List.getElem?_eq_some_iff.1 hj).2
    rw [e2] at this
    simp [e] at this
theorem err0 {C D : List Rs} {j : Nat} {x : Rs} (h : errF C D j x = 0) : firstsF D x.key = some j := by
  unfold errF at h
  split at h
  · cases h
  · split at h
    · cases h
    · rename_i h2; simpa using h2
theorem allI_of {C D : List Rs} (hC : KS C) {i : Nat} (hi : i ≤ D.length) (h : ∀ (j : Nat) (x : Rs), j < i → D[j]? = some x → errF C D j x = 0) : AllI C D i := by
  induction i with
  | zero => exact AllI.zero hC
  | succ i ih =>
    have hd : D[i]? = some D[i] := List.getElem?_eq_getElem _
    exact (ih (by omega) (fun j x hj hx => h j x (by omega) hx)).step hd (err0 (h i _ (by omega) hd))
theorem merg_perm {C D : List Rs} (hC : Ordd C) (h : ∀ (j : Nat) (x : Rs), D[j]? = some x → errF C D j x = 0) : (allM C D D.length).Perm (mergL C D) ∧ ((mergL C D).map Rs.key).Nodup ∧ KS (allM C D D.length) := by
  have hA := allI_of hC.ks (Nat.le_refl _) (fun j x _ hx => h j x hx)
  have hCn : (C.map Rs.key).Nodup := by
    rw [List.Nodup, List.pairwise_map]
    exact hC.ks.imp fun {a b} hab e => by rw [e] at hab; exact klt_irrefl _ hab
  have hDn : (D.map Rs.key).Nodup := by
    rw [List.Nodup, List.pairwise_map, List.pairwise_iff_getElem]
    intro i j hi hj hij e
    have h1 := err0 (h i _ (List.getElem?_eq_getElem hi))
    have h2 := err0 (h j _ (List.getElem?_eq_getElem hj))
    rw [e, h2] at h1
    cases h1; omega
  have hk : ((mergL C D).map Rs.key).Nodup := by
    unfold mergL
    rw [List.map_append, List.nodup_append]
    refine ⟨hCn.sublist (List.filter_sublist.map _), hDn.sublist (List.filter_sublist.map _), fun a ha b hb e => ?_⟩
    obtain ⟨x, hx, rfl⟩ := List.mem_map.1 ha
    obtain ⟨y, hy, rfl⟩ := List.mem_map.1 hb
    have h1 := (List.mem_filter.1 hx).2
    have h2 := (List.mem_filter.1 hy).1
    rw [Option.isNone_iff_eq_none, firstsF_none_iff] at h1
    exact h1 y h2 e.symm
  have hmn : (mergL C D).Nodup := by
    rw [List.Nodup, List.pairwise_map] at hk
    exact hk.imp fun {a b} hab e => hab (by rw [e])
  have han : (allM C D D.length).Nodup := hA.ks.imp fun {a b} hab e => by rw [e] at hab; exact klt_irrefl _ hab
  refine ⟨(List.perm_ext_iff_of_nodup han hmn).2 fun x => ?_, hk, hA.ks⟩
  rw [hA.mem, List.take_length]
  unfold mergL
  rw [List.mem_append, List.mem_filter, List.mem_filter, Option.isNone_iff_eq_none, firstsF_none_iff]
  simp
theorem dropX_says {os : List Rx} {j : Nat} {k : Int × ByteArray} (h : firstsF (os.map Rx.toRs) k = some j) : (os.take j ++ os.drop (j + 1)).map Rx.toRs = dropK (os.map Rx.toRs) k := by
  unfold dropK; rw [h]; simp [List.map_take, List.map_drop]
theorem dropX_none {os : List Rx} {k : Int × ByteArray} (h : firstsF (os.map Rx.toRs) k = none) : os.map Rx.toRs = dropK (os.map Rx.toRs) k := by
  unfold dropK; rw [h]
/-- what the document's Merge leaves -/
def RmE (w : World) (C D : List Rs) (e : Ending) (w' : World) : Prop := Below w.heap.size w w' ∧ ((∃ a x, mrF C D = some (a, x) ∧ e = .returned (.tuple #[.slice none 0 0, .int .i64 a, .int .i64 x])) ∨
  (mrF C D = none ∧ ∃ a c qs, e = .returned (.tuple #[.slice a (qs.length : Nat) c, .int .i64 0, .int .i64 0]) ∧ Lr w' a qs ∧ qs.map Rx.toRs = allM C D D.length))
end Go.Proofs.Ytmljljpldljpjab
