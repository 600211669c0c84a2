/-
  Tokens that came in, opened, with their sizes.
-/
import Derived.Test.YtgododijnogegaaOpen
import Derived.Test.YtgododijnogegaaPm
namespace Go.Proofs.Ytgododijnogegaa
open Go.ChangeShapes Go.WideShapes Go.ChangeAt Go.RowKit Go.Deep Go.ChangeMaps
set_option linter.unusedVariables false
set_option linter.unusedSimpArgs false
theorem five {α : Type} {cs : List α} (h : cs.length = 5) : ∃ c0 c1 c2 c3 c4, cs = [c0, c1, c2, c3, c4] := by
  match cs, h with
  | [c0, c1, c2, c3, c4], _ => exact ⟨c0, c1, c2, c3, c4, rfl⟩
set_option maxRecDepth 100000 in
theorem open_tok {H : Type} {enc : TypeId × Value → H} {W : World} {fuel : Nat} {cs : List Value} {y : DataW H × List MemPlace} (hf : DataW.trod enc Try.prog W 0 (fun _ => true) true fuel 53 cs = some y) (hsz : (y.1.weights Try.prog 53).all (· ≤ reachBytes) = true) :
    ∃ o : Tk, cs = o.row ∧ o.tx.size ≤ maxLen ∧ o.tx.size ≤ 281474976710656 := by
  obtain ⟨xs, n, _, hx, hl, hlen, hff⟩ := DataW.trod_struct Try.underlying53 hf
  have hc : Try.prog.cellsOf 53 = 5 := by kernel_rfl
  have c3 : Try.prog.cellsOf 3 = 1 := by kernel_rfl
  have c9 : Try.prog.cellsOf 9 = 1 := by kernel_rfl
  have c4 : Try.prog.cellsOf 4 = 1 := by kernel_rfl
  rw [hc] at hl
  obtain ⟨a0, a1, a2, a3, a4, rfl⟩ := five hl
  match xs, hlen with
  | [y0, y1, y2, y3, y4], _ =>
    have t0 := hff 0 _ rfl
    have t1 := hff 1 _ rfl
    have t2 := hff 2 _ rfl
    have t3 := hff 3 _ rfl
    have t4 := hff 4 _ rfl
    simp [c3, c9, c4] at t0 t1 t2 t3 t4
    have hs5 : (DataW.weightsEach Try.prog [3, 3, 3, 9, 4] [y0.1, y1.1, y2.1, y3.1, y4.1]).all (· ≤ reachBytes) = true := by
      rw [hx] at hsz
      rw [DataW.weights, Try.underlying53] at hsz
      exact hsz
    obtain ⟨kd, e0, _, w0⟩ := DataW.trod_int Try.underlying3 t0
    obtain ⟨ln, e1, _, w1⟩ := DataW.trod_int Try.underlying3 t1
    obtain ⟨cl, e2, _, w2⟩ := DataW.trod_int Try.underlying3 t2
    obtain ⟨tt, e3, d3, w3⟩ := DataW.trod_string Try.underlying9 t3
    obtain ⟨on, e4, _⟩ := DataW.trod_bool Try.underlying4 t4
    have s3 : tt.size ≤ 281474976710656 := by
      have h := sized_string hs5 (j := 3) (t := 9) (bytes := tt.data.toList) rfl (by simp [d3])
      have e : tt.data.toList.length = tt.size := Array.length_toList
      unfold reachBytes at h
      omega
    simp at e0 e1 e2 e3 e4
    subst e0 e1 e2 e3 e4
    exact ⟨⟨kd, ln, cl, tt, on⟩, rfl, w3, s3⟩
theorem open_toks {H : Type} {enc : TypeId × Value → H} {W : World} {a : Option Addr} {len cap : Nat} {d : DataW H} {p : List MemPlace} {ts : List TypeId} {ds : List (DataW H)} {j : Nat}
    (h : DataW.Trod enc Try.prog W 0 (fun _ => true) true 22 (.slice a len cap) d p) (hsz : (DataW.weightsEach Try.prog ts ds).all (· ≤ reachBytes) = true) (ht : ts[j]? = some 22) (hd : ds[j]? = some d) :
    ∃ L : List Tk, L.length = len ∧ Ts W a L ∧ len ≤ 2932031007317 ∧ ∀ t ∈ L, t.tx.size ≤ 281474976710656 := by
  obtain ⟨fuel, hf⟩ := h
  rcases DataW.trod_slice Try.underlying22 hf with ⟨hcs, hx⟩ | ⟨x, l, c, elems, rest, n, _, hcs, hx, _, hl, hm, hlen, hel, _⟩
  · simp [Value.cells] at hcs
    obtain ⟨rfl, rfl, rfl⟩ := hcs
    exact ⟨[], rfl, ⟨fun s h => (by cases h), .inl rfl⟩, by omega, fun o h => by cases h⟩
  · simp [Value.cells] at hcs
    obtain ⟨rfl, rfl, rfl⟩ := hcs
    simp only [Prod.mk.injEq] at hx
    obtain ⟨rfl, _⟩ := hx
    have hs := sized_slice hsz (j := j) (t := 22) (e := 53) ht hd Try.underlying22
    have b53 : Try.prog.bytesOf 53 = 48 := by kernel_rfl
    rw [b53] at hs
    simp only [List.length_map, reachBytes] at hs
    have c53 : Try.prog.cellsOf 53 = 5 := by kernel_rfl
    rw [c53] at hel
    have each : ∀ i, i < len → ∃ o : Tk, W.cells? 0 (x.add (i * 5)) 5 = some o.row ∧ o.tx.size ≤ maxLen ∧ o.tx.size ≤ 281474976710656 := by
      intro i hi
      have he := hel i hi
      obtain ⟨e, hee⟩ : ∃ e, elems[i]? = some e := ⟨elems[i]'(by omega), List.getElem?_eq_getElem _⟩
      rw [hee, Option.bind_eq_some_iff] at he
      obtain ⟨cs', hcs', hy⟩ := he
      have hw : (e.1.weights Try.prog 53).all (· ≤ reachBytes) = true := elem_weights (l := elems.map (·.1)) (r := rest.map (·.1)) hsz ht hd Try.underlying22 (List.mem_map.2 ⟨e, List.mem_of_getElem? hee, rfl⟩)
      obtain ⟨o, rfl, hB⟩ := open_tok hy hw
      exact ⟨o, hcs', hB⟩
    obtain ⟨os, hsl, hss⟩ := pick_list2 _ len each
    refine ⟨os, hsl, ⟨fun s hs => ?_, ?_⟩, by omega, fun s hs => ?_⟩
    · obtain ⟨i, hi⟩ := List.getElem?_of_mem hs
      exact (hss i s hi).2.1
    · by_cases h0 : os = []
      · exact .inl h0
      · have hp : 0 < os.length := List.length_pos_iff.2 h0
        have hcell : ∀ (i : Nat) (s : Tk), os[i]? = some s → ∀ (j : Nat) (u : Value), s.row[j]? = some u → W.cell? ((x.add (i * 5)).add j) = some u := fun i s hi j u hu => by
          have hh := (hss i s hi).1
          have hj : j < 5 := by have := (List.getElem?_eq_some_iff.1 hu).1; simpa [Tk.row] using this
          have := (World.cells?_some hh).2.2 j hj
          rw [this]; exact hu
        have hspot : x.spot = none := by
          have := hcell 0 os[0] (List.getElem?_eq_getElem hp) 0 _ rfl
          have := World.cell?_spot this
          simpa [Addr.add] using this
        obtain ⟨b, off, spot⟩ := x
        subst hspot
        refine .inr ⟨b, off, rfl, fun i s hi j u hu => ?_⟩
        have := hcell i s hi j u hu
        rwa [Go.WideShapes.add_plain, Go.WideShapes.add_plain] at this
    · obtain ⟨i, hi⟩ := List.getElem?_of_mem hs
      exact (hss i s hi).2.2
end Go.Proofs.Ytgododijnogegaa
