/-
  What came in, opened, under the bound on the readings' bulk: texts, numbers, nodes.
-/
import Derived.Test.YtblohogcepfoeaaJn
import Derived.Test.YtblohogcepfoeaaSm
import Derived.ProofKit
import Derived.ChangeOld
import Derived.JoinedCond
import Derived.Lib.SmallJoins
namespace Go.Proofs.Ytblohogcepfoeaa
open Go.ChangeShapes Go.WideShapes Go.ChangeAt Go.RowKit
set_option linter.unusedVariables false
set_option linter.unusedSimpArgs false

theorem own : ownKnob Try.prog.godebug = none := by kernel_rfl
theorem laidOut : laidOutB Try.prog = true := by kernel_rfl
theorem bulk_one {H : Type} (d : DataW H) : 1 ≤ Rows.uptoBulk d := by
  cases d with
  | lit l => cases l <;> simp [Rows.uptoBulk]
  | nil => simp [Rows.uptoBulk]
  | ptr d => simp [Rows.uptoBulk]
  | slice elems spare => simp [Rows.uptoBulk]
  | agg parts => simp [Rows.uptoBulk]
  | iface t d => simp [Rows.uptoBulk]
  | map entries => simp [Rows.uptoBulk]
  | held h => simp [Rows.uptoBulk]
theorem bulk_part {H : Type} {d : DataW H} {l : List (DataW H)} (h : d ∈ l) : Rows.uptoBulk d ≤ Rows.uptoBulkAll l := by
  induction l with
  | nil => cases h
  | cons x r ih =>
    simp only [Rows.uptoBulkAll]
    cases List.mem_cons.1 h with
    | inl e => subst e; omega
    | inr e => have := ih e; omega
theorem bulk_length {H : Type} (l : List (DataW H)) : l.length ≤ Rows.uptoBulkAll l := by
  induction l with
  | nil => simp [Rows.uptoBulkAll]
  | cons x r ih => have := bulk_one x; simp only [Rows.uptoBulkAll, List.length_cons]; omega
theorem pick_list {α : Type} (R : Nat → α → Prop) : ∀ n, (∀ i, i < n → ∃ s, R i s) → ∃ ss : List α, ss.length = n ∧ ∀ (i : Nat) (s : α), ss[i]? = some s → R i s
  | 0, _ => ⟨[], rfl, fun i s h => by simp at h⟩
  | n + 1, h => by
    obtain ⟨ss, h1, h2⟩ := pick_list R n (fun i hi => h i (by omega))
    obtain ⟨s, hs⟩ := h n (by omega)
    refine ⟨ss ++ [s], by simp [h1], fun i t ht => ?_⟩
    by_cases hi : i < n
    · rw [List.getElem?_append_left (by omega)] at ht; exact h2 i t ht
    · have hlt := (List.getElem?_eq_some_iff.1 ht).1
      simp at hlt
      obtain rfl : i = n := by omega
      rw [List.getElem?_append_right (by omega)] at ht
      simp [h1] at ht
      rw [← ht]; exact hs
theorem six {α : Type} {cs : List α} (h : cs.length = 6) : ∃ c0 c1 c2 c3 c4 c5, cs = [c0, c1, c2, c3, c4, c5] := by
  match cs, h with
  | [c0, c1, c2, c3, c4, c5], _ => exact ⟨c0, c1, c2, c3, c4, c5, rfl⟩
/-- numbers, read, are there -/
theorem open_kids {H : Type} {enc : TypeId × Value → H} {W : World} {sp : Nat → Bool} {fuel : Nat} {cs : List Value} {y : DataW H × List MemPlace} (hf : DataW.trod enc Try.prog W 0 sp true fuel 30 cs = some y) (hb : Rows.uptoBulk y.1 ≤ 1048576) (hsp : ∀ b, sp b = true) :
    ∃ (a : Option Addr) (n cap : Nat) (ks : List Int), cs = [.slice a n cap] ∧ ks.length = n ∧ Nums W a ks ∧ (a = none → cap = 0) ∧ n ≤ 1048576 ∧ ∀ c ∈ ks, -9223372036854775808 ≤ c ∧ c ≤ 9223372036854775807 := by
  rcases open_ints Try.underlying30 Try.underlying3 (by kernel_rfl) hf with ⟨hcs, hx⟩ | ⟨x, l, c, zs, hcs, _, hl, hm, hz, hx, hcell, hwz⟩
  · exact ⟨none, 0, 0, [], hcs, rfl, .inl ⟨rfl, rfl⟩, fun _ => rfl, by omega, fun c h => by cases h⟩
  · subst hx
    rw [hsp] at hz
    have hzl : zs.length = c := by simpa using hz
    simp only [Rows.uptoBulk] at hb
    have l1 := bulk_length (lits (H := H) .i64 (zs.take l))
    simp only [lits, List.length_map, List.length_take] at l1
    simp only [lits] at hb
    refine ⟨some x, l, c, zs.take l, hcs, by simp; omega, ?_, (fun h => by cases h), by omega, ?_⟩
    · refine .inr ⟨x, rfl, fun j d hj => ?_⟩
      have hj' : j < l := by have := (List.getElem?_eq_some_iff.1 hj).1; simp at this; omega
      rw [hcell j (by omega)]
      rw [List.getElem?_take_of_lt hj'] at hj
      simp [hj]
    · intro d hd
      exact bounds_i64 (hwz d (List.mem_of_mem_take hd))
/-- a node, read, is there -/
theorem open_node {H : Type} {enc : TypeId × Value → H} {W : World} {fuel : Nat} {cs : List Value} {y : DataW H × List MemPlace} (hf : DataW.trod enc Try.prog W 0 (fun _ => true) true fuel 32 cs = some y) (hb : Rows.uptoBulk y.1 ≤ 1048576) :
    ∃ o : Nx, cs = o.row ∧ Nin W o := by
  obtain ⟨xs, n, _, hx, hl, hlen, hff⟩ := DataW.trod_struct Try.underlying32 hf
  have hc : Try.prog.cellsOf 32 = 6 := by kernel_rfl
  have c3 : Try.prog.cellsOf 3 = 1 := by kernel_rfl
  have c9 : Try.prog.cellsOf 9 = 1 := by kernel_rfl
  have c30 : Try.prog.cellsOf 30 = 1 := by kernel_rfl
  have c4 : Try.prog.cellsOf 4 = 1 := by kernel_rfl
  rw [hc] at hl
  obtain ⟨a0, a1, a2, a3, a4, a5, rfl⟩ := six hl
  match xs, hlen with
  | [y0, y1, y2, y3, y4, y5], _ =>
    have t0 := hff 0 _ rfl
    have t1 := hff 1 _ rfl
    have t2 := hff 2 _ rfl
    have t3 := hff 3 _ rfl
    have t4 := hff 4 _ rfl
    have t5 := hff 5 _ rfl
    simp [c3, c9, c30, c4] at t0 t1 t2 t3 t4 t5
    rw [hx] at hb
    simp only [Rows.uptoBulk, Rows.uptoBulkAll, List.map_cons, List.map_nil] at hb
    obtain ⟨kd, e0, _, w0⟩ := DataW.trod_int Try.underlying3 t0
    obtain ⟨nm, e1, _, w1⟩ := DataW.trod_string Try.underlying9 t1
    obtain ⟨tt, e2, _, w2⟩ := DataW.trod_string Try.underlying9 t2
    obtain ⟨on, e3, _⟩ := DataW.trod_bool Try.underlying4 t3
    obtain ⟨ln, e4, _, w4⟩ := DataW.trod_int Try.underlying3 t4
    obtain ⟨a, len, cap, ks, e5, k1, k2, k3, k4, k5⟩ := open_kids t5 (by omega) (fun _ => rfl)
    simp at e0 e1 e2 e3 e4 e5
    subst e0 e1 e2 e3 e4 e5
    exact ⟨⟨kd, nm, tt, on, ln, a, len, cap, ks⟩, rfl, ⟨k1, k2, (by omega : len ≤ 17592186043904)⟩⟩
theorem open_nodes {H : Type} {enc : TypeId × Value → H} {W : World} {a : Option Addr} {len cap : Nat} {d : DataW H} {p : List MemPlace} {ds : List (DataW H)} {j : Nat}
    (h : DataW.Trod enc Try.prog W 0 (fun _ => true) true 23 (.slice a len cap) d p) (hd : ds[j]? = some d) (hb : Rows.uptoBulkAll ds ≤ 1048576) :
    ∃ os : List Nx, os.length = len ∧ Ns W a os ∧ len ≤ 1048576 := by
  have h1 := bulk_part (List.mem_of_getElem? hd)
  obtain ⟨fuel, hf⟩ := h
  rcases DataW.trod_slice Try.underlying23 hf with ⟨hcs, hx⟩ | ⟨x, l, c, elems, rest, n, _, hcs, hx, _, hl, hm, hlen, hel, _⟩
  · simp [Value.cells] at hcs
    obtain ⟨rfl, rfl, rfl⟩ := hcs
    exact ⟨[], rfl, ⟨fun s h => (by cases h), .inl rfl⟩, by omega⟩
  · simp [Value.cells] at hcs
    obtain ⟨rfl, rfl, rfl⟩ := hcs
    simp only [Prod.mk.injEq] at hx
    obtain ⟨rfl, _⟩ := hx
    simp only [Rows.uptoBulk] at h1
    have l1 := bulk_length (elems.map (·.1))
    simp only [List.length_map] at l1
    have c32 : Try.prog.cellsOf 32 = 6 := by kernel_rfl
    rw [c32] at hel
    have each : ∀ i, i < len → ∃ s : Nx, W.cells? 0 (x.add (i * 6)) 6 = some s.row ∧ Nin W s := by
      intro i hi
      have he := hel i hi
      obtain ⟨e, hee⟩ : ∃ e, elems[i]? = some e := ⟨elems[i]'(by omega), List.getElem?_eq_getElem _⟩
      rw [hee, Option.bind_eq_some_iff] at he
      obtain ⟨cs', hcs', hy⟩ := he
      have hbe : Rows.uptoBulk e.1 ≤ Rows.uptoBulkAll (elems.map (·.1)) := bulk_part (List.mem_map.2 ⟨e, List.mem_of_getElem? hee, rfl⟩)
      obtain ⟨s, rfl, hB⟩ := open_node hy (by omega)
      exact ⟨s, hcs', hB⟩
    obtain ⟨ss, hsl, hss⟩ := pick_list _ len each
    refine ⟨ss, hsl, ⟨fun s hs => ?_, ?_⟩, by omega⟩
    · obtain ⟨i, hi⟩ := List.getElem?_of_mem hs
      exact (hss i s hi).2
    · by_cases h0 : ss = []
      · exact .inl h0
      · have hp : 0 < ss.length := List.length_pos_iff.2 h0
        have hcell : ∀ (i : Nat) (s : Nx), ss[i]? = some s → ∀ (j : Nat) (u : Value), s.row[j]? = some u → W.cell? ((x.add (i * 6)).add j) = some u := fun i s hi j u hu => by
          have hh := (hss i s hi).1
          have hj : j < 6 := by have := (List.getElem?_eq_some_iff.1 hu).1; simpa [Nx.row] using this
          have := (World.cells?_some hh).2.2 j hj
          rw [this]; exact hu
        have hspot : x.spot = none := by
          have := hcell 0 ss[0] (List.getElem?_eq_getElem hp) 0 _ rfl
          have := World.cell?_spot this
          simpa [Addr.add] using this
        obtain ⟨b, off, spot⟩ := x
        subst hspot
        refine .inr ⟨b, off, rfl, fun i s hi j u hu => ?_⟩
        have := hcell i s hi j u hu
        rwa [Go.WideShapes.add_plain, Go.WideShapes.add_plain] at this
theorem tot_bulk {H : Type} : ∀ (ds : List (DataW H)) (ss : List (List UInt8)), ss.length = ds.length → (∀ (i : Nat) s (d : DataW H), ss[i]? = some s → ds[i]? = some d → s.length + 1 ≤ Rows.uptoBulk d) → tot ss ≤ 4 * Rows.uptoBulkAll ds
  | [], [], _, _ => by simp [tot]
  | [], s :: r, h, _ => by simp at h
  | d :: ds, [], h, _ => by simp at h
  | d :: ds, s :: r, h, hh => by
    have h1 := hh 0 s d rfl rfl
    have h2 := tot_bulk ds r (by simpa using h) (fun i s' d' a b => hh (i + 1) s' d' (by simpa using a) (by simpa using b))
    simp only [tot, Rows.uptoBulkAll]
    omega
theorem open_texts {H : Type} {enc : TypeId × Value → H} {W : World} {a : Option Addr} {len cap : Nat} {d : DataW H} {p : List MemPlace} {ds : List (DataW H)} {j : Nat}
    (h : DataW.Trod enc Try.prog W 0 (fun _ => true) true 22 (.slice a len cap) d p) (hd : ds[j]? = some d) (hb : Rows.uptoBulkAll ds ≤ 1048576) :
    ∃ os : List (List UInt8), os.length = len ∧ Strs W a os ∧ (a = none → cap = 0) ∧ len ≤ 1048576 ∧ tot os ≤ 4194304 := by
  have h1 := bulk_part (List.mem_of_getElem? hd)
  obtain ⟨fuel, hf⟩ := h
  rcases DataW.trod_slice Try.underlying22 hf with ⟨hcs, hx⟩ | ⟨x, l, c, elems, rest, n, _, hcs, hx, _, hl, hm, hlen, hel, _⟩
  · simp [Value.cells] at hcs
    obtain ⟨rfl, rfl, rfl⟩ := hcs
    exact ⟨[], rfl, .inl ⟨rfl, rfl⟩, fun _ => rfl, by omega, by simp [tot]⟩
  · simp [Value.cells] at hcs
    obtain ⟨rfl, rfl, rfl⟩ := hcs
    simp only [Prod.mk.injEq] at hx
    obtain ⟨rfl, _⟩ := hx
    simp only [Rows.uptoBulk] at h1
    have l1 := bulk_length (elems.map (·.1))
    simp only [List.length_map] at l1
    have c9 : Try.prog.cellsOf 9 = 1 := by kernel_rfl
    rw [c9] at hel
    have each : ∀ i, i < len → ∃ s : List UInt8, W.cell? (x.add i) = some (.string ⟨s.toArray⟩) ∧ ∀ e, elems[i]? = some e → s.length + 1 ≤ Rows.uptoBulk e.1 := by
      intro i hi
      have he := hel i hi
      obtain ⟨e, hee⟩ : ∃ e, elems[i]? = some e := ⟨elems[i]'(by omega), List.getElem?_eq_getElem _⟩
      rw [hee, Option.bind_eq_some_iff] at he
      obtain ⟨cs', hcs', hy⟩ := he
      obtain ⟨nm, e1, e2, w1⟩ := DataW.trod_string Try.underlying9 hy
      subst e1
      refine ⟨nm.data.toList, ?_, fun e' he' => ?_⟩
      · have := (World.cells?_some hcs').2.2 0 (by omega)
        simp only [Nat.mul_one] at this
        have h0 : (x.add i).add 0 = x.add i := by simp [Addr.add]
        rw [h0] at this
        rw [this]; simp
      · rw [hee] at he'; cases he'
        rw [e2]
        simp [Rows.uptoBulk]
        try trace_state
    obtain ⟨ss, hsl, hss⟩ := pick_list _ len each
    refine ⟨ss, hsl, .inr ⟨x, rfl, fun i s hi => (hss i s hi).1⟩, (fun h => by cases h), by omega, ?_⟩
    have := tot_bulk (elems.map (·.1)) ss (by simp; omega) (fun i s d hs hd => by
      simp only [List.getElem?_map, Option.map_eq_some_iff] at hd
      obtain ⟨e, he, rfl⟩ := hd
      exact (hss i s hs).2 e he)
    omega
end Go.Proofs.Ytblohogcepfoeaa
