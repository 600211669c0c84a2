/-
  A list of texts that came in, opened, with the texts' sizes.
-/
import Derived.Test.YtplbdnndpgfljaaOpen
import Derived.Test.YtplbdnndpgfljaaPo
namespace Go.Proofs.Ytplbdnndpgfljaa
open Go.ChangeShapes Go.WideShapes Go.ChangeAt Go.RowKit
set_option linter.unusedVariables false
set_option linter.unusedSimpArgs false
theorem pick_list2 {α : Type} (R : Nat → α → Prop) : ∀ n, (∀ i, i < n → ∃ s, R i s) → ∃ ss : List α, ss.length = n ∧ ∀ (i : Nat) (s : α), ss[i]? = some s → R i s
  | 0, _ => ⟨[], rfl, fun i s h => by simp at h⟩
  | n + 1, h => by
    obtain ⟨ss, h1, h2⟩ := pick_list2 R n (fun i hi => h i (by omega))
    obtain ⟨s, hs⟩ := h n (by omega)
    refine ⟨ss ++ [s], by simp [h1], fun i t ht => ?_⟩
    by_cases hi : i < n
    · rw [List.getElem?_append_left (by omega)] at ht; exact h2 i t ht
    · have hlt := (List.getElem?_eq_some_iff.1 ht).1
      simp at hlt
      obtain rfl : i = n := by omega
      rw [List.getElem?_append_right (by omega)] at ht
      simp [h1] at ht
      rw [← ht]; exact hs
theorem weightsAll_mem {H : Type} {P : Program} {e : TypeId} {d : DataW H} {n : Nat} : ∀ {l : List (DataW H)}, d ∈ l → n ∈ d.weights P e → n ∈ DataW.weightsAll P e l
  | x :: l, hd, hn => by
    rw [DataW.weightsAll, List.mem_append]
    rcases List.mem_cons.1 hd with rfl | hd
    · exact .inl hn
    · exact .inr (weightsAll_mem hd hn)
theorem weights_slice_mem {H : Type} {P : Program} {t e : TypeId} (hu : P.underlying t = some (.slice e)) {l r : List (DataW H)} {d : DataW H} {n : Nat} (hd : d ∈ l) (hn : n ∈ d.weights P e) : n ∈ (DataW.slice l r).weights P t := by
  rw [DataW.weights, hu]
  exact List.mem_cons_of_mem _ (List.mem_append_left _ (weightsAll_mem hd hn))
theorem elem_weights {H : Type} {P : Program} {ts : List TypeId} {ds : List (DataW H)} {j : Nat} {t e : TypeId} {l r : List (DataW H)} {d : DataW H} (h : (DataW.weightsEach P ts ds).all (· ≤ reachBytes) = true) (ht : ts[j]? = some t) (hd : ds[j]? = some (.slice l r)) (hu : P.underlying t = some (.slice e)) (hm : d ∈ l) : (d.weights P e).all (· ≤ reachBytes) = true := by
  rw [List.all_eq_true] at h ⊢
  intro q hq
  exact h q (DataW.weights_mem_each ht hd q (weights_slice_mem hu hm hq))
theorem bytes9 : Try.prog.bytesOf 9 = 16 := by kernel_rfl
theorem open_texts {H : Type} {enc : TypeId × Value → H} {W : World} {a : Option Addr} {len cap : Nat} {d : DataW H} {p : List MemPlace} {ts : List TypeId} {ds : List (DataW H)} {j : Nat}
    (h : DataW.Trod enc Try.prog W 0 (fun _ => true) true 27 (.slice a len cap) d p) (hsz : (DataW.weightsEach Try.prog ts ds).all (· ≤ reachBytes) = true) (ht : ts[j]? = some 27) (hd : ds[j]? = some d) :
    ∃ os : List (List UInt8), (os.length = len ∧ Strs W a os ∧ (a = none → cap = 0)) ∧ (len ≤ 8796093021952 ∧ ∀ s ∈ os, s.length ≤ 2 ^ 61) := by
  obtain ⟨fuel, hf⟩ := h
  rcases DataW.trod_slice Try.underlying27 hf with ⟨hcs, hx⟩ | ⟨x, l, c, elems, rest, n, _, hcs, hx, _, hl, hm, hlen, hel, _⟩
  · simp [Value.cells] at hcs
    obtain ⟨rfl, rfl, rfl⟩ := hcs
    exact ⟨[], ⟨rfl, .inl ⟨rfl, rfl⟩, fun _ => rfl⟩, by omega, fun s hs => by cases hs⟩
  · simp [Value.cells] at hcs
    obtain ⟨rfl, rfl, rfl⟩ := hcs
    simp only [Prod.mk.injEq] at hx
    obtain ⟨rfl, _⟩ := hx
    have hs := sized_slice hsz (j := j) (t := 27) (e := 9) ht hd Try.underlying27
    rw [bytes9] at hs
    simp only [List.length_map, reachBytes] at hs
    have c9 : Try.prog.cellsOf 9 = 1 := by kernel_rfl
    rw [c9] at hel
    have each : ∀ i, i < len → ∃ s : List UInt8, W.cell? (x.add i) = some (.string ⟨s.toArray⟩) ∧ s.length ≤ 2 ^ 61 := by
      intro i hi
      have he := hel i hi
      obtain ⟨e, hee⟩ : ∃ e, elems[i]? = some e := ⟨elems[i]'(by omega), List.getElem?_eq_getElem _⟩
      rw [hee, Option.bind_eq_some_iff] at he
      obtain ⟨cs', hcs', hy⟩ := he
      have hw : (e.1.weights Try.prog 9).all (· ≤ reachBytes) = true := elem_weights (l := elems.map (·.1)) (r := rest.map (·.1)) hsz ht hd Try.underlying27 (List.mem_map.2 ⟨e, List.mem_of_getElem? hee, rfl⟩)
      obtain ⟨nm, e1, e2, w1⟩ := DataW.trod_string Try.underlying9 hy
      subst e1
      refine ⟨nm.data.toList, ?_, ?_⟩
      · have := (World.cells?_some hcs').2.2 0 (by omega)
        simp only [Nat.mul_one] at this
        have h0 : (x.add i).add 0 = x.add i := by simp [Addr.add]
        rw [h0] at this
        rw [this]; simp
      · have hs1 : (DataW.weightsEach Try.prog [9] [e.1]).all (· ≤ reachBytes) = true := by
          simpa [DataW.weightsEach] using hw
        have h := sized_string hs1 (j := 0) (t := 9) (bytes := nm.data.toList) rfl (by simp [e2])
        unfold reachBytes at h
        omega
    obtain ⟨os, hsl, hss⟩ := pick_list2 _ len each
    refine ⟨os, ⟨hsl, .inr ⟨x, rfl, fun i s hi => (hss i s hi).1⟩, fun h => by cases h⟩, by omega, fun s hs => ?_⟩
    obtain ⟨i, hi⟩ := List.getElem?_of_mem hs
    exact (hss i s hi).2
end Go.Proofs.Ytplbdnndpgfljaa
