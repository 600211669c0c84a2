/-
  What came in, opened: numbers, nodes, with their sizes.
-/
import Derived.Test.YtgododijnogegaaNd
import Derived.ProofKit
import Derived.ChangeOld
import Derived.JoinedCond
import Derived.SizedLaws
import Derived.ChangeMaps5
import Derived.Lib.SmallJoins
namespace Go.Proofs.Ytgododijnogegaa
open Go.ChangeShapes Go.WideShapes Go.ChangeAt Go.RowKit Go.Deep Go.ChangeMaps
set_option linter.unusedVariables false
set_option linter.unusedSimpArgs false
theorem own : ownKnob Try.prog.godebug = none := by kernel_rfl
theorem laidOut : laidOutB Try.prog = true := by kernel_rfl
theorem bytes3 : Try.prog.bytesOf 3 = 8 := by kernel_rfl
/-- a slice of numbers, opened -/
structure InN (W : World) (v : Value) (a : Option Addr) (n c : Nat) (cs : List Int) : Prop where
  val : v = .slice a n c
  len : cs.length = n
  has : Nums W a cs
  bare : a = none → c = 0
  fits : n ≤ c
  few : c ≤ 17592186043904
  rng : ∀ c ∈ cs, -9223372036854775808 ≤ c ∧ c ≤ 9223372036854775807
theorem open_nums {H : Type} {enc : TypeId × Value → H} {W : World} {fuel : Nat} {v : Value} {y : DataW H × List MemPlace} {ts : List TypeId} {ds : List (DataW H)} {j : Nat}
    (hf : DataW.trod enc Try.prog W 0 (fun _ => true) true fuel 49 [v] = some y) (hsz : (DataW.weightsEach Try.prog ts ds).all (· ≤ reachBytes) = true) (ht : ts[j]? = some 49) (hd : ds[j]? = some y.1) :
    ∃ a len cap cs, InN W v a len cap cs := by
  rcases open_ints Try.underlying49 Try.underlying3 (by kernel_rfl) hf with ⟨hcs, _⟩ | ⟨x, l, c, zs, hcs, _, hl, hm, hz, hx, hcell, hwz⟩
  · simp at hcs
    exact ⟨none, 0, 0, [], hcs, rfl, .inl ⟨rfl, rfl⟩, fun _ => rfl, Nat.le_refl _, Nat.zero_le _, fun c hc => by cases hc⟩
  · simp at hcs
    subst hx
    have hs := sized_slice hsz (j := j) (t := 49) (e := 3) ht hd Try.underlying49
    rw [bytes3] at hs
    simp only [lits, List.length_map, List.length_take, List.length_drop, reachBytes] at hs
    have hzl : zs.length = c := by simpa using hz
    refine ⟨some x, l, c, zs.take l, hcs, by simp; omega, ?_, (fun h => by cases h), hl, by omega, fun n hn => bounds_i64 (hwz n (List.mem_of_mem_take hn))⟩
    refine .inr ⟨x, rfl, fun j hj => ?_⟩
    have hj' : j < l := by simp at hj; omega
    rw [hcell j (by omega)]; simp [List.getD, hj']
theorem pick_list2 {α : Type} (R : Nat → α → Prop) : ∀ n, (∀ i, i < n → ∃ s, R i s) → ∃ ss : List α, ss.length = n ∧ ∀ (i : Nat) (s : α), ss[i]? = some s → R i s
  | 0, _ => ⟨[], rfl, fun i s h => by simp at h⟩
  | n + 1, h => by
    obtain ⟨ss, h1, h2⟩ := pick_list2 R n (fun i hi => h i (by omega))
    obtain ⟨s, hs⟩ := h n (by omega)
    refine ⟨ss ++ [s], by simp [h1], fun i t ht => ?_⟩
    by_cases hi : i < n
    · rw [List.getElem?_append_left (by omega)] at ht; exact h2 i t ht
    · have hlt := (List.getElem?_eq_some_iff.1 ht).1
      simp at hlt
      obtain rfl : i = n := by omega
      rw [List.getElem?_append_right (by omega)] at ht
      simp [h1] at ht
      rw [← ht]; exact hs
theorem six {α : Type} {cs : List α} (h : cs.length = 6) : ∃ c0 c1 c2 c3 c4 c5, cs = [c0, c1, c2, c3, c4, c5] := by
  match cs, h with
  | [c0, c1, c2, c3, c4, c5], _ => exact ⟨c0, c1, c2, c3, c4, c5, rfl⟩
theorem weightsAll_mem {H : Type} {P : Program} {e : TypeId} {d : DataW H} {n : Nat} : ∀ {l : List (DataW H)}, d ∈ l → n ∈ d.weights P e → n ∈ DataW.weightsAll P e l
  | x :: l, hd, hn => by
    rw [DataW.weightsAll, List.mem_append]
    rcases List.mem_cons.1 hd with rfl | hd
    · exact .inl hn
    · exact .inr (weightsAll_mem hd hn)
theorem weights_slice_mem {H : Type} {P : Program} {t e : TypeId} (hu : P.underlying t = some (.slice e)) {l r : List (DataW H)} {d : DataW H} {n : Nat} (hd : d ∈ l) (hn : n ∈ d.weights P e) : n ∈ (DataW.slice l r).weights P t := by
  rw [DataW.weights, hu]
  exact List.mem_cons_of_mem _ (List.mem_append_left _ (weightsAll_mem hd hn))
theorem elem_weights {H : Type} {P : Program} {ts : List TypeId} {ds : List (DataW H)} {j : Nat} {t e : TypeId} {l r : List (DataW H)} {d : DataW H} (h : (DataW.weightsEach P ts ds).all (· ≤ reachBytes) = true) (ht : ts[j]? = some t) (hd : ds[j]? = some (.slice l r)) (hu : P.underlying t = some (.slice e)) (hm : d ∈ l) : (d.weights P e).all (· ≤ reachBytes) = true := by
  rw [List.all_eq_true] at h ⊢
  intro q hq
  exact h q (DataW.weights_mem_each ht hd q (weights_slice_mem hu hm hq))
set_option maxRecDepth 100000 in
theorem open_node {H : Type} {enc : TypeId × Value → H} {W : World} {fuel : Nat} {cs : List Value} {y : DataW H × List MemPlace} (hf : DataW.trod enc Try.prog W 0 (fun _ => true) true fuel 51 cs = some y) (hsz : (y.1.weights Try.prog 51).all (· ≤ reachBytes) = true) :
    ∃ o : Nx, cs = o.row ∧ Nin W o ∧ o.key.size ≤ 281474976710656 ∧ o.tx.size ≤ 281474976710656 := by
  obtain ⟨xs, n, _, hx, hl, hlen, hff⟩ := DataW.trod_struct Try.underlying51 hf
  have hc : Try.prog.cellsOf 51 = 6 := by kernel_rfl
  have c3 : Try.prog.cellsOf 3 = 1 := by kernel_rfl
  have c9 : Try.prog.cellsOf 9 = 1 := by kernel_rfl
  have c49 : Try.prog.cellsOf 49 = 1 := by kernel_rfl
  have c4 : Try.prog.cellsOf 4 = 1 := by kernel_rfl
  rw [hc] at hl
  obtain ⟨a0, a1, a2, a3, a4, a5, rfl⟩ := six hl
  match xs, hlen with
  | [y0, y1, y2, y3, y4, y5], _ =>
    have t0 := hff 0 _ rfl
    have t1 := hff 1 _ rfl
    have t2 := hff 2 _ rfl
    have t3 := hff 3 _ rfl
    have t4 := hff 4 _ rfl
    have t5 := hff 5 _ rfl
    simp [c3, c9, c49, c4] at t0 t1 t2 t3 t4 t5
    have hs6 : (DataW.weightsEach Try.prog [3, 9, 9, 4, 3, 49] [y0.1, y1.1, y2.1, y3.1, y4.1, y5.1]).all (· ≤ reachBytes) = true := by
      rw [hx] at hsz
      rw [DataW.weights, Try.underlying51] at hsz
      exact hsz
    obtain ⟨kd, e0, _, w0⟩ := DataW.trod_int Try.underlying3 t0
    obtain ⟨nm, e1, d1, w1⟩ := DataW.trod_string Try.underlying9 t1
    obtain ⟨tt, e2, d2, w2⟩ := DataW.trod_string Try.underlying9 t2
    obtain ⟨on, e3, _⟩ := DataW.trod_bool Try.underlying4 t3
    obtain ⟨ln, e4, _, w4⟩ := DataW.trod_int Try.underlying3 t4
    obtain ⟨a, len, cap, ks, B5⟩ := open_nums t5 (j := 5) hs6 rfl rfl
    obtain rfl := B5.val
    have f5 := B5.few
    have g5 := B5.fits
    have s1 : nm.size ≤ 281474976710656 := by
      have h := sized_string hs6 (j := 1) (t := 9) (bytes := nm.data.toList) rfl (by simp [d1])
      have e : nm.data.toList.length = nm.size := Array.length_toList
      unfold reachBytes at h
      omega
    have s2 : tt.size ≤ 281474976710656 := by
      have h := sized_string hs6 (j := 2) (t := 9) (bytes := tt.data.toList) rfl (by simp [d2])
      have e : tt.data.toList.length = tt.size := Array.length_toList
      unfold reachBytes at h
      omega
    simp at e0 e1 e2 e3 e4
    subst e0 e1 e2 e3 e4
    exact ⟨⟨kd, nm, tt, on, ln, a, len, cap, ks⟩, rfl, ⟨w1, w2, B5.len, B5.has, B5.rng, B5.bare, (by omega : len ≤ 17592186043904)⟩, s1, s2⟩
theorem open_nodes {H : Type} {enc : TypeId × Value → H} {W : World} {a : Option Addr} {len cap : Nat} {d : DataW H} {p : List MemPlace} {ts : List TypeId} {ds : List (DataW H)} {j : Nat}
    (h : DataW.Trod enc Try.prog W 0 (fun _ => true) true 41 (.slice a len cap) d p) (hsz : (DataW.weightsEach Try.prog ts ds).all (· ≤ reachBytes) = true) (ht : ts[j]? = some 41) (hd : ds[j]? = some d) :
    ∃ os : List Nx, os.length = len ∧ Ns W a os ∧ len ≤ 1759218604390 ∧ ∀ o ∈ os, o.key.size ≤ 281474976710656 ∧ o.tx.size ≤ 281474976710656 := by
  obtain ⟨fuel, hf⟩ := h
  rcases DataW.trod_slice Try.underlying41 hf with ⟨hcs, hx⟩ | ⟨x, l, c, elems, rest, n, _, hcs, hx, _, hl, hm, hlen, hel, _⟩
  · simp [Value.cells] at hcs
    obtain ⟨rfl, rfl, rfl⟩ := hcs
    exact ⟨[], rfl, ⟨fun s h => (by cases h), .inl rfl⟩, by omega, fun o h => by cases h⟩
  · simp [Value.cells] at hcs
    obtain ⟨rfl, rfl, rfl⟩ := hcs
    simp only [Prod.mk.injEq] at hx
    obtain ⟨rfl, _⟩ := hx
    have hs := sized_slice hsz (j := j) (t := 41) (e := 51) ht hd Try.underlying41
    have b51 : Try.prog.bytesOf 51 = 80 := by kernel_rfl
    rw [b51] at hs
    simp only [List.length_map, reachBytes] at hs
    have c51 : Try.prog.cellsOf 51 = 6 := by kernel_rfl
    rw [c51] at hel
    have each : ∀ i, i < len → ∃ o : Nx, W.cells? 0 (x.add (i * 6)) 6 = some o.row ∧ Nin W o ∧ o.key.size ≤ 281474976710656 ∧ o.tx.size ≤ 281474976710656 := by
      intro i hi
      have he := hel i hi
      obtain ⟨e, hee⟩ : ∃ e, elems[i]? = some e := ⟨elems[i]'(by omega), List.getElem?_eq_getElem _⟩
      rw [hee, Option.bind_eq_some_iff] at he
      obtain ⟨cs', hcs', hy⟩ := he
      have hw : (e.1.weights Try.prog 51).all (· ≤ reachBytes) = true := elem_weights (l := elems.map (·.1)) (r := rest.map (·.1)) hsz ht hd Try.underlying41 (List.mem_map.2 ⟨e, List.mem_of_getElem? hee, rfl⟩)
      obtain ⟨o, rfl, hB⟩ := open_node hy hw
      exact ⟨o, hcs', hB⟩
    obtain ⟨os, hsl, hss⟩ := pick_list2 _ len each
    refine ⟨os, hsl, ⟨fun s hs => ?_, ?_⟩, by omega, fun s hs => ?_⟩
    · obtain ⟨i, hi⟩ := List.getElem?_of_mem hs
      exact (hss i s hi).2.1
    · by_cases h0 : os = []
      · exact .inl h0
      · have hp : 0 < os.length := List.length_pos_iff.2 h0
        have hcell : ∀ (i : Nat) (s : Nx), os[i]? = some s → ∀ (j : Nat) (u : Value), s.row[j]? = some u → W.cell? ((x.add (i * 6)).add j) = some u := fun i s hi j u hu => by
          have hh := (hss i s hi).1
          have hj : j < 6 := by have := (List.getElem?_eq_some_iff.1 hu).1; simpa [Nx.row] using this
          have := (World.cells?_some hh).2.2 j hj
          rw [this]; exact hu
        have hspot : x.spot = none := by
          have := hcell 0 os[0] (List.getElem?_eq_getElem hp) 0 _ rfl
          have := World.cell?_spot this
          simpa [Addr.add] using this
        obtain ⟨b, off, spot⟩ := x
        subst hspot
        refine .inr ⟨b, off, rfl, fun i s hi j u hu => ?_⟩
        have := hcell i s hi j u hu
        rwa [Go.WideShapes.add_plain, Go.WideShapes.add_plain] at this
    · obtain ⟨i, hi⟩ := List.getElem?_of_mem hs
      exact (hss i s hi).2.2
end Go.Proofs.Ytgododijnogegaa
