/-
  A list of calls that came in, opened, under the bound on the readings' bulk.
-/
import Derived.Test.YtcbnmoppnoiggaaOpen
import Derived.Test.YtcbnmoppnoiggaaCl
namespace Go.Proofs.Ytcbnmoppnoiggaa
open Go.ChangeShapes Go.WideShapes Go.ChangeAt Go.RowKit
set_option linter.unusedVariables false
set_option linter.unusedSimpArgs false
theorem bulk_one {H : Type} (d : DataW H) : 1 ≤ Rows.uptoBulk d := by
  cases d with
  | lit l => cases l <;> simp [Rows.uptoBulk]
  | nil => simp [Rows.uptoBulk]
  | ptr d => simp [Rows.uptoBulk]
  | slice elems spare => simp [Rows.uptoBulk]
  | agg parts => simp [Rows.uptoBulk]
  | iface t d => simp [Rows.uptoBulk]
  | map entries => simp [Rows.uptoBulk]
  | held h => simp [Rows.uptoBulk]
theorem bulk_part {H : Type} {d : DataW H} {l : List (DataW H)} (h : d ∈ l) : Rows.uptoBulk d ≤ Rows.uptoBulkAll l := by
  induction l with
  | nil => cases h
  | cons x r ih =>
    simp only [Rows.uptoBulkAll]
    cases List.mem_cons.1 h with
    | inl e => subst e; omega
    | inr e => have := ih e; omega
theorem bulk_length {H : Type} (l : List (DataW H)) : l.length ≤ Rows.uptoBulkAll l := by
  induction l with
  | nil => simp [Rows.uptoBulkAll]
  | cons x r ih => have := bulk_one x; simp only [Rows.uptoBulkAll, List.length_cons]; omega
theorem pick_list {α : Type} (R : Nat → α → Prop) : ∀ n, (∀ i, i < n → ∃ s, R i s) → ∃ ss : List α, ss.length = n ∧ ∀ (i : Nat) (s : α), ss[i]? = some s → R i s
  | 0, _ => ⟨[], rfl, fun i s h => by simp at h⟩
  | n + 1, h => by
    obtain ⟨ss, h1, h2⟩ := pick_list R n (fun i hi => h i (by omega))
    obtain ⟨s, hs⟩ := h n (by omega)
    refine ⟨ss ++ [s], by simp [h1], fun i t ht => ?_⟩
    by_cases hi : i < n
    · rw [List.getElem?_append_left (by omega)] at ht; exact h2 i t ht
    · have hlt := (List.getElem?_eq_some_iff.1 ht).1
      simp at hlt
      obtain rfl : i = n := by omega
      rw [List.getElem?_append_right (by omega)] at ht
      simp [h1] at ht
      rw [← ht]; exact hs
theorem open_one {H : Type} {enc : TypeId × Value → H} {W : World} {sp : Nat → Bool} {fuel : Nat} {cs : List Value} {y : DataW H × List MemPlace} (hf : DataW.trod enc Try.prog W 0 sp true fuel 32 cs = some y) (hb : Rows.uptoBulk y.1 ≤ 1048576) (hsp : ∀ b, sp b = true) :
    ∃ s : Sl, cs = [s.val] ∧ Bs W s.a s.n s.cap s.zs ∧ s.n + 1 ≤ Rows.uptoBulk y.1 ∧ s.cap ≤ 1048576 := by
  rcases open_ints Try.underlying32 Try.underlying5 (by kernel_rfl) hf with ⟨hcs, hx⟩ | ⟨x, l, c, zs, hcs, _, hl, hm, hz, hx, hcell, hwz⟩
  · subst hx
    exact ⟨⟨none, 0, 0, []⟩, hcs, Bs.nil W, bulk_one _, by decide⟩
  · subst hx
    rw [hsp] at hz
    have hzl : zs.length = c := by simpa using hz
    simp only [Rows.uptoBulk] at hb
    have l1 := bulk_length (lits (H := H) .u8 (zs.take l))
    have l2 := bulk_length (lits (H := H) .u8 (zs.drop l))
    simp only [lits, List.length_map, List.length_take, List.length_drop] at l1 l2
    simp only [lits] at hb
    refine ⟨⟨some x, l, c, zs.take l⟩, hcs, ⟨by simp; omega, ?_, (octets_of_wf hwz).take l, (fun h => by cases h), hl, hm, by show l ≤ _; omega⟩, ?_, by show c ≤ _; omega⟩
    · refine .inr ⟨x, rfl, fun j hj => ?_⟩
      have hj' : j < l := by simp at hj; omega
      rw [hcell j (by omega)]; simp [List.getD, hj']
    · simp only [Rows.uptoBulk, lits]; show l + 1 ≤ _; omega
theorem trod_struct6 {H : Type} {enc : TypeId × Value → H} {P : Program} {w : World} {base : Nat} {spare : Nat → Bool} {held : Bool} {t : TypeId} {f0 f1 f2 f3 f4 f5 : Field} {fuel : Nat} {cs : List Value} {x : DataW H × List MemPlace} (ht : P.underlying t = some (.struct #[f0, f1, f2, f3, f4, f5])) (h : DataW.trod enc P w base spare held fuel t cs = some x) :
    ∃ y0 y1 y2 y3 y4 y5 n, x.1 = .agg [y0.1, y1.1, y2.1, y3.1, y4.1, y5.1] ∧ cs.length = P.cellsOf t ∧ DataW.trod enc P w base spare held n f0.type ((cs.drop f0.offset).take (P.cellsOf f0.type)) = some y0 ∧
      DataW.trod enc P w base spare held n f1.type ((cs.drop f1.offset).take (P.cellsOf f1.type)) = some y1 ∧ DataW.trod enc P w base spare held n f2.type ((cs.drop f2.offset).take (P.cellsOf f2.type)) = some y2 ∧
      DataW.trod enc P w base spare held n f3.type ((cs.drop f3.offset).take (P.cellsOf f3.type)) = some y3 ∧ DataW.trod enc P w base spare held n f4.type ((cs.drop f4.offset).take (P.cellsOf f4.type)) = some y4 ∧ DataW.trod enc P w base spare held n f5.type ((cs.drop f5.offset).take (P.cellsOf f5.type)) = some y5 := by
  obtain ⟨xs, n, _, rfl, hl, hlen, hf⟩ := DataW.trod_struct ht h
  match xs, hlen with
  | [y0, y1, y2, y3, y4, y5], _ => exact ⟨y0, y1, y2, y3, y4, y5, n, by simp, hl, by simpa using hf 0 f0 rfl, by simpa using hf 1 f1 rfl, by simpa using hf 2 f2 rfl, by simpa using hf 3 f3 rfl, by simpa using hf 4 f4 rfl, by simpa using hf 5 f5 rfl⟩
theorem six {α : Type} {cs : List α} (h : cs.length = 6) : ∃ c0 c1 c2 c3 c4 c5, cs = [c0, c1, c2, c3, c4, c5] := by
  match cs, h with
  | [c0, c1, c2, c3, c4, c5], _ => exact ⟨c0, c1, c2, c3, c4, c5, rfl⟩
theorem open_call {H : Type} {enc : TypeId × Value → H} {W : World} {sp : Nat → Bool} {fuel : Nat} {cs : List Value} {y : DataW H × List MemPlace} (hf : DataW.trod enc Try.prog W 0 sp true fuel 34 cs = some y) (hb : Rows.uptoBulk y.1 ≤ 1048576) (hsp : ∀ b, sp b = true) :
    ∃ s : Cl, cs = s.cells.toList ∧ Bs W s.d.a s.d.n s.d.cap s.d.zs ∧ s.d.n + 1 ≤ Rows.uptoBulk y.1 ∧ s.nm.size ≤ maxLen ∧ (Lit.int .i64 s.nn).wf = true := by
  obtain ⟨y0, y1, y2, y3, y4, y5, n, hy, hl, t0, t1, t2, t3, t4, t5⟩ := trod_struct6 Try.underlying34 hf
  have hc : Try.prog.cellsOf 34 = 6 := by kernel_rfl
  have c3 : Try.prog.cellsOf 3 = 1 := by kernel_rfl
  have c9 : Try.prog.cellsOf 9 = 1 := by kernel_rfl
  have c32 : Try.prog.cellsOf 32 = 1 := by kernel_rfl
  rw [hc] at hl
  dsimp only at t0 t1 t2 t3 t4 t5
  rw [c3] at t0 t2 t3 t4
  rw [c9] at t1
  rw [c32] at t5
  obtain ⟨a0, a1, a2, a3, a4, a5, rfl⟩ := six hl
  simp only [List.drop_zero, List.take_succ_cons, List.take_zero, List.drop_succ_cons] at t0 t1 t2 t3 t4 t5
  obtain ⟨kd, e0, x0, w0⟩ := DataW.trod_int Try.underlying3 t0
  obtain ⟨nm, e1, x1, w1⟩ := DataW.trod_string Try.underlying9 t1
  obtain ⟨cn, e2, x2, w2⟩ := DataW.trod_int Try.underlying3 t2
  obtain ⟨sd, e3, x3, w3⟩ := DataW.trod_int Try.underlying3 t3
  obtain ⟨nn, e4, x4, w4⟩ := DataW.trod_int Try.underlying3 t4
  rw [hy] at hb ⊢
  simp only [Rows.uptoBulk, Rows.uptoBulkAll] at hb ⊢
  obtain ⟨s, e5, hB, hn, _⟩ := open_one t5 (by omega) hsp
  cases e0
  cases e1
  cases e2
  cases e3
  cases e4
  cases e5
  exact ⟨⟨kd, nm, cn, sd, nn, s⟩, rfl, hB, by show s.n + 1 ≤ _; omega, w1, w4⟩
theorem sum_bulk {H : Type} : ∀ (ds : List (DataW H)) (ss : List Cl), ss.length = ds.length → (∀ (i : Nat) (s : Cl) (d : DataW H), ss[i]? = some s → ds[i]? = some d → s.d.n + 1 ≤ Rows.uptoBulk d) → sumN ss + ss.length ≤ Rows.uptoBulkAll ds
  | [], [], _, _ => by simp [sumN]
  | [], s :: r, h, _ => by simp at h
  | d :: ds, [], h, _ => by simp at h
  | d :: ds, s :: r, h, hh => by
    have h1 := hh 0 s d rfl rfl
    have h2 := sum_bulk ds r (by simpa using h) (fun i s' d' a b => hh (i + 1) s' d' (by simpa using a) (by simpa using b))
    simp only [sumN, List.map_cons, List.sum_cons, Rows.uptoBulkAll, List.length_cons] at h2 ⊢
    omega
theorem open_calls {H : Type} {enc : TypeId × Value → H} {W : World} {a : Option Addr} {len cap : Nat} {d : DataW H} {p : List MemPlace} {ds : List (DataW H)} {j : Nat}
    (h : DataW.Trod enc Try.prog W 0 (fun _ => true) true 22 (.slice a len cap) d p) (hd : ds[j]? = some d) (hb : Rows.uptoBulkAll ds ≤ 1048576) :
    ∃ ss : List Cl, (ss.length = len ∧ LC W a ss ∧ sumN ss + len ≤ 1048576 ∧ ∀ s ∈ ss, s.nm.size ≤ maxLen ∧ (Lit.int .i64 s.nn).wf = true) ∧ True := by
  have h1 := bulk_part (List.mem_of_getElem? hd)
  obtain ⟨fuel, hf⟩ := h
  rcases DataW.trod_slice Try.underlying22 hf with ⟨hcs, hx⟩ | ⟨x, l, c, elems, rest, n, _, hcs, hx, _, hl, hm, hlen, hel, _⟩
  · simp [Value.cells] at hcs
    obtain ⟨rfl, rfl, rfl⟩ := hcs
    exact ⟨[], ⟨rfl, ⟨fun s h => (by cases h), .inl rfl⟩, by simp [sumN], fun s h => by cases h⟩, trivial⟩
  · simp [Value.cells] at hcs
    obtain ⟨rfl, rfl, rfl⟩ := hcs
    simp only [Prod.mk.injEq] at hx
    obtain ⟨rfl, _⟩ := hx
    simp only [Rows.uptoBulk] at h1
    have c34 : Try.prog.cellsOf 34 = 6 := by kernel_rfl
    rw [c34] at hel
    have each : ∀ i, i < len → ∃ s : Cl, W.cells? 0 (x.add (i * 6)) 6 = some s.cells.toList ∧ Bs W s.d.a s.d.n s.d.cap s.d.zs ∧ (∀ e, elems[i]? = some e → s.d.n + 1 ≤ Rows.uptoBulk e.1) ∧ s.nm.size ≤ maxLen ∧ (Lit.int .i64 s.nn).wf = true := by
      intro i hi
      have he := hel i hi
      obtain ⟨e, hee⟩ : ∃ e, elems[i]? = some e := ⟨elems[i]'(by omega), List.getElem?_eq_getElem _⟩
      rw [hee, Option.bind_eq_some_iff] at he
      obtain ⟨cs', hcs', hy⟩ := he
      have hbe : Rows.uptoBulk e.1 ≤ Rows.uptoBulkAll (elems.map (·.1)) := bulk_part (List.mem_map.2 ⟨e, List.mem_of_getElem? hee, rfl⟩)
      obtain ⟨s, rfl, hB, hn, hz⟩ := open_call hy (by omega) (fun _ => rfl)
      exact ⟨s, hcs', hB, fun e' he' => by rw [hee] at he'; cases he'; exact hn, hz⟩
    obtain ⟨ss, hsl, hss⟩ := pick_list _ len each
    have hsum : sumN ss + ss.length ≤ Rows.uptoBulkAll (elems.map (·.1)) := by
      refine sum_bulk _ ss (by simp; omega) (fun i s d hs hd => ?_)
      simp only [List.getElem?_map, Option.map_eq_some_iff] at hd
      obtain ⟨e, he, rfl⟩ := hd
      exact (hss i s hs).2.2.1 e he
    refine ⟨ss, ⟨hsl, ⟨fun s hs => ?_, ?_⟩, by omega, fun s hs => ?_⟩, trivial⟩
    · obtain ⟨i, hi⟩ := List.getElem?_of_mem hs
      exact (hss i s hi).2.1
    · by_cases h0 : ss = []
      · exact .inl h0
      · have hp : 0 < ss.length := List.length_pos_iff.2 h0
        have hcell : ∀ (i : Nat) (s : Cl), ss[i]? = some s → ∀ (j : Nat) (u : Value), s.cells[j]? = some u → W.cell? ((x.add (i * 6)).add j) = some u := fun i s hi j u hu => by
          have hh := (hss i s hi).1
          have hj : j < 6 := by have := (Array.getElem?_eq_some_iff.1 hu).1; simpa [Cl.cells] using this
          have := (World.cells?_some hh).2.2 j hj
          rw [this]; simpa using hu
        have hspot : x.spot = none := by
          have := hcell 0 ss[0] (List.getElem?_eq_getElem hp) 0 _ rfl
          have := World.cell?_spot this
          simpa [Addr.add] using this
        obtain ⟨b, off, spot⟩ := x
        subst hspot
        refine .inr ⟨b, off, rfl, fun i s hi j u hu => ?_⟩
        have := hcell i s hi j u hu
        rwa [Go.WideShapes.add_plain, Go.WideShapes.add_plain] at this
    · obtain ⟨i, hi⟩ := List.getElem?_of_mem hs
      exact (hss i s hi).2.2.2
end Go.Proofs.Ytcbnmoppnoiggaa
