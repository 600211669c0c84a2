/-
  A list of calls of a source that came in, opened, under the bound on the readings' bulk.
-/
import Derived.Test.YtfolfeaednmcoaaOpen
import Derived.Test.YtfolfeaednmcoaaSrc
namespace Go.Proofs.Ytfolfeaednmcoaa
open Go.ChangeShapes Go.WideShapes Go.ChangeAt Go.RowKit
set_option linter.unusedVariables false
set_option linter.unusedSimpArgs false
/-- Words behind a slice. -/
structure Us where
  a : Option Addr
  n : Nat
  cap : Nat
  zs : List Int
abbrev Us.val (s : Us) : Value := .slice s.a s.n s.cap
structure UsIn (W : World) (s : Us) : Prop where
  len : s.zs.length = s.n
  ul : Ul W s.a s.zs
  bare : s.a = none → s.cap = 0
  few : s.n ≤ 1048576
structure Cs where
  d : Us
  nx : Int
  cp : Bool
  on : Bool
def Cs.cells (c : Cs) : Array Value := #[c.d.val, .int .i64 c.nx, .bool c.cp, .bool c.on]
/-- A list of calls that came in. -/
structure LS (W : World) (a : Option Addr) (ls : List Cs) : Prop where
  us : ∀ c ∈ ls, UsIn W c.d
  at_ : ls = [] ∨ ∃ bl ol, a = some ⟨bl, ol, none⟩ ∧ ∀ (i : Nat) c, ls[i]? = some c → ∀ (j : Nat) v, c.cells[j]? = some v → W.cell? ⟨bl, ol + i * 4 + j, none⟩ = some v
def sumU (ls : List Cs) : Nat := (ls.map fun c => c.d.n).sum
theorem sumU_take {ls : List Cs} {i : Nat} {c : Cs} (h : ls[i]? = some c) : sumU (ls.take (i + 1)) = sumU (ls.take i) + c.d.n := by
  rw [List.take_add_one, h]
  simp [sumU]
theorem sumU_le (ls : List Cs) : ∀ i, sumU (ls.take i) ≤ sumU ls := fun i => by
  have : sumU ls = sumU (ls.take i) + sumU (ls.drop i) := by
    unfold sumU
    rw [← List.sum_append, ← List.map_append, List.take_append_drop]
  omega
theorem bulk_one {H : Type} (d : DataW H) : 1 ≤ Rows.uptoBulk d := by
  cases d with
  | lit l => cases l <;> simp [Rows.uptoBulk]
  | nil => simp [Rows.uptoBulk]
  | ptr d => simp [Rows.uptoBulk]
  | slice elems spare => simp [Rows.uptoBulk]
  | agg parts => simp [Rows.uptoBulk]
  | iface t d => simp [Rows.uptoBulk]
  | map entries => simp [Rows.uptoBulk]
  | held h => simp [Rows.uptoBulk]
theorem bulk_part {H : Type} {d : DataW H} {l : List (DataW H)} (h : d ∈ l) : Rows.uptoBulk d ≤ Rows.uptoBulkAll l := by
  induction l with
  | nil => cases h
  | cons x r ih =>
    simp only [Rows.uptoBulkAll]
    cases List.mem_cons.1 h with
    | inl e => subst e; omega
    | inr e => have := ih e; omega
theorem bulk_length {H : Type} (l : List (DataW H)) : l.length ≤ Rows.uptoBulkAll l := by
  induction l with
  | nil => simp [Rows.uptoBulkAll]
  | cons x r ih => have := bulk_one x; simp only [Rows.uptoBulkAll, List.length_cons]; omega
theorem pick_list {α : Type} (R : Nat → α → Prop) : ∀ n, (∀ i, i < n → ∃ s, R i s) → ∃ ss : List α, ss.length = n ∧ ∀ (i : Nat) (s : α), ss[i]? = some s → R i s
  | 0, _ => ⟨[], rfl, fun i s h => by simp at h⟩
  | n + 1, h => by
    obtain ⟨ss, h1, h2⟩ := pick_list R n (fun i hi => h i (by omega))
    obtain ⟨s, hs⟩ := h n (by omega)
    refine ⟨ss ++ [s], by simp [h1], fun i t ht => ?_⟩
    by_cases hi : i < n
    · rw [List.getElem?_append_left (by omega)] at ht; exact h2 i t ht
    · have hlt := (List.getElem?_eq_some_iff.1 ht).1
      simp at hlt
      obtain rfl : i = n := by omega
      rw [List.getElem?_append_right (by omega)] at ht
      simp [h1] at ht
      rw [← ht]; exact hs
theorem ints_ul {W : World} {x : Addr} {zs : List Int} (h : ∀ i, i < zs.length → W.cell? (x.add i) = some (.int .u64 (zs.getD i 0))) : Ul W (some x) zs := by
  by_cases h0 : zs = []
  · exact .inl h0
  · obtain ⟨b, o, rfl, hc⟩ := ints_at (k := .u64) h (List.length_pos_iff.2 h0)
    exact .inr ⟨b, o, rfl, hc⟩
theorem open_one {H : Type} {enc : TypeId × Value → H} {W : World} {sp : Nat → Bool} {fuel : Nat} {cs : List Value} {y : DataW H × List MemPlace} (hf : DataW.trod enc Try.prog W 0 sp true fuel 48 cs = some y) (hb : Rows.uptoBulk y.1 ≤ 1048576) (hsp : ∀ b, sp b = true) :
    ∃ s : Us, cs = [s.val] ∧ UsIn W s ∧ s.n + 1 ≤ Rows.uptoBulk y.1 := by
  rcases open_ints Try.underlying48 Try.underlying22 (by kernel_rfl) hf with ⟨hcs, hx⟩ | ⟨x, l, c, zs, hcs, _, hl, hm, hz, hx, hcell, hwz⟩
  · subst hx
    exact ⟨⟨none, 0, 0, []⟩, hcs, ⟨rfl, .inl rfl, fun _ => rfl, Nat.zero_le _⟩, bulk_one _⟩
  · subst hx
    rw [hsp] at hz
    have hzl : zs.length = c := by simpa using hz
    simp only [Rows.uptoBulk] at hb
    have l1 := bulk_length (lits (H := H) .u64 (zs.take l))
    simp only [lits, List.length_map, List.length_take] at l1
    simp only [lits] at hb
    refine ⟨⟨some x, l, c, zs.take l⟩, hcs, ⟨by simp; omega, ints_ul fun i hi => ?_, (fun h => by cases h), by show l ≤ _; omega⟩, ?_⟩
    · have hj' : i < l := by simp at hi; omega
      rw [hcell i (by omega)]; simp [List.getD, hj']
    · simp only [Rows.uptoBulk, lits]; show l + 1 ≤ _; omega
theorem trod_struct4 {H : Type} {enc : TypeId × Value → H} {P : Program} {w : World} {base : Nat} {spare : Nat → Bool} {held : Bool} {t : TypeId} {f0 f1 f2 f3 : Field} {fuel : Nat} {cs : List Value} {x : DataW H × List MemPlace} (ht : P.underlying t = some (.struct #[f0, f1, f2, f3])) (h : DataW.trod enc P w base spare held fuel t cs = some x) :
    ∃ y0 y1 y2 y3 n, x.1 = .agg [y0.1, y1.1, y2.1, y3.1] ∧ cs.length = P.cellsOf t ∧ DataW.trod enc P w base spare held n f0.type ((cs.drop f0.offset).take (P.cellsOf f0.type)) = some y0 ∧
      DataW.trod enc P w base spare held n f1.type ((cs.drop f1.offset).take (P.cellsOf f1.type)) = some y1 ∧ DataW.trod enc P w base spare held n f2.type ((cs.drop f2.offset).take (P.cellsOf f2.type)) = some y2 ∧
      DataW.trod enc P w base spare held n f3.type ((cs.drop f3.offset).take (P.cellsOf f3.type)) = some y3 := by
  obtain ⟨xs, n, _, rfl, hl, hlen, hf⟩ := DataW.trod_struct ht h
  match xs, hlen with
  | [y0, y1, y2, y3], _ => exact ⟨y0, y1, y2, y3, n, by simp, hl, by simpa using hf 0 f0 rfl, by simpa using hf 1 f1 rfl, by simpa using hf 2 f2 rfl, by simpa using hf 3 f3 rfl⟩
theorem four {α : Type} {cs : List α} (h : cs.length = 4) : ∃ c0 c1 c2 c3, cs = [c0, c1, c2, c3] := by
  match cs, h with
  | [c0, c1, c2, c3], _ => exact ⟨c0, c1, c2, c3, rfl⟩
theorem open_call {H : Type} {enc : TypeId × Value → H} {W : World} {sp : Nat → Bool} {fuel : Nat} {cs : List Value} {y : DataW H × List MemPlace} (hf : DataW.trod enc Try.prog W 0 sp true fuel 52 cs = some y) (hb : Rows.uptoBulk y.1 ≤ 1048576) (hsp : ∀ b, sp b = true) :
    ∃ s : Cs, cs = s.cells.toList ∧ UsIn W s.d ∧ s.d.n + 1 ≤ Rows.uptoBulk y.1 ∧ (Lit.int .i64 s.nx).wf = true := by
  obtain ⟨y0, y1, y2, y3, n, hy, hl, t0, t1, t2, t3⟩ := trod_struct4 Try.underlying52 hf
  have hc : Try.prog.cellsOf 52 = 4 := by kernel_rfl
  have c3 : Try.prog.cellsOf 3 = 1 := by kernel_rfl
  have c4 : Try.prog.cellsOf 4 = 1 := by kernel_rfl
  have c48 : Try.prog.cellsOf 48 = 1 := by kernel_rfl
  rw [hc] at hl
  dsimp only at t0 t1 t2 t3
  rw [c48] at t0
  rw [c3] at t1
  rw [c4] at t2 t3
  obtain ⟨a0, a1, a2, a3, rfl⟩ := four hl
  simp only [List.drop_zero, List.take_succ_cons, List.take_zero, List.drop_succ_cons] at t0 t1 t2 t3
  obtain ⟨nx, e1, x1, w1⟩ := DataW.trod_int Try.underlying3 t1
  obtain ⟨cp, e2, x2⟩ := DataW.trod_bool Try.underlying4 t2
  obtain ⟨on, e3, x3⟩ := DataW.trod_bool Try.underlying4 t3
  rw [hy] at hb ⊢
  simp only [Rows.uptoBulk, Rows.uptoBulkAll] at hb ⊢
  obtain ⟨s, e0, hB, hn⟩ := open_one t0 (by omega) hsp
  cases e0
  cases e1
  cases e2
  cases e3
  exact ⟨⟨s, nx, cp, on⟩, rfl, hB, by show s.n + 1 ≤ _; omega, w1⟩
theorem sum_bulk {H : Type} : ∀ (ds : List (DataW H)) (ss : List Cs), ss.length = ds.length → (∀ (i : Nat) (s : Cs) (d : DataW H), ss[i]? = some s → ds[i]? = some d → s.d.n + 1 ≤ Rows.uptoBulk d) → sumU ss + ss.length ≤ Rows.uptoBulkAll ds
  | [], [], _, _ => by simp [sumU]
  | [], s :: r, h, _ => by simp at h
  | d :: ds, [], h, _ => by simp at h
  | d :: ds, s :: r, h, hh => by
    have h1 := hh 0 s d rfl rfl
    have h2 := sum_bulk ds r (by simpa using h) (fun i s' d' a b => hh (i + 1) s' d' (by simpa using a) (by simpa using b))
    simp only [sumU, List.map_cons, List.sum_cons, Rows.uptoBulkAll, List.length_cons] at h2 ⊢
    omega
theorem open_calls {H : Type} {enc : TypeId × Value → H} {W : World} {a : Option Addr} {len cap : Nat} {d : DataW H} {p : List MemPlace} {ds : List (DataW H)} {j : Nat}
    (h : DataW.Trod enc Try.prog W 0 (fun _ => true) true 44 (.slice a len cap) d p) (hd : ds[j]? = some d) (hb : Rows.uptoBulkAll ds ≤ 1048576) :
    ∃ ss : List Cs, (ss.length = len ∧ LS W a ss ∧ sumU ss + len ≤ 1048576 ∧ ∀ s ∈ ss, (Lit.int .i64 s.nx).wf = true) ∧ True := by
  have h1 := bulk_part (List.mem_of_getElem? hd)
  obtain ⟨fuel, hf⟩ := h
  rcases DataW.trod_slice Try.underlying44 hf with ⟨hcs, hx⟩ | ⟨x, l, c, elems, rest, n, _, hcs, hx, _, hl, hm, hlen, hel, _⟩
  · simp [Value.cells] at hcs
    obtain ⟨rfl, rfl, rfl⟩ := hcs
    exact ⟨[], ⟨rfl, ⟨fun s h => (by cases h), .inl rfl⟩, by simp [sumU], fun s h => by cases h⟩, trivial⟩
  · simp [Value.cells] at hcs
    obtain ⟨rfl, rfl, rfl⟩ := hcs
    simp only [Prod.mk.injEq] at hx
    obtain ⟨rfl, _⟩ := hx
    simp only [Rows.uptoBulk] at h1
    have c52 : Try.prog.cellsOf 52 = 4 := by kernel_rfl
    rw [c52] at hel
    have each : ∀ i, i < len → ∃ s : Cs, W.cells? 0 (x.add (i * 4)) 4 = some s.cells.toList ∧ UsIn W s.d ∧ (∀ e, elems[i]? = some e → s.d.n + 1 ≤ Rows.uptoBulk e.1) ∧ (Lit.int .i64 s.nx).wf = true := by
      intro i hi
      have he := hel i hi
      obtain ⟨e, hee⟩ : ∃ e, elems[i]? = some e := ⟨elems[i]'(by omega), List.getElem?_eq_getElem _⟩
      rw [hee, Option.bind_eq_some_iff] at he
      obtain ⟨cs', hcs', hy⟩ := he
      have hbe : Rows.uptoBulk e.1 ≤ Rows.uptoBulkAll (elems.map (·.1)) := bulk_part (List.mem_map.2 ⟨e, List.mem_of_getElem? hee, rfl⟩)
      obtain ⟨s, rfl, hB, hn, hz⟩ := open_call hy (by omega) (fun _ => rfl)
      exact ⟨s, hcs', hB, fun e' he' => by rw [hee] at he'; cases he'; exact hn, hz⟩
    obtain ⟨ss, hsl, hss⟩ := pick_list _ len each
    have hsum : sumU ss + ss.length ≤ Rows.uptoBulkAll (elems.map (·.1)) := by
      refine sum_bulk _ ss (by simp; omega) (fun i s d hs hd => ?_)
      simp only [List.getElem?_map, Option.map_eq_some_iff] at hd
      obtain ⟨e, he, rfl⟩ := hd
      exact (hss i s hs).2.2.1 e he
    refine ⟨ss, ⟨hsl, ⟨fun s hs => ?_, ?_⟩, by omega, fun s hs => ?_⟩, trivial⟩
    · obtain ⟨i, hi⟩ := List.getElem?_of_mem hs
      exact (hss i s hi).2.1
    · by_cases h0 : ss = []
      · exact .inl h0
      · have hp : 0 < ss.length := List.length_pos_iff.2 h0
        have hcell : ∀ (i : Nat) (s : Cs), ss[i]? = some s → ∀ (j : Nat) (u : Value), s.cells[j]? = some u → W.cell? ((x.add (i * 4)).add j) = some u := fun i s hi j u hu => by
          have hh := (hss i s hi).1
          have hj : j < 4 := by have := (Array.getElem?_eq_some_iff.1 hu).1; simpa [Cs.cells] using this
          have := (World.cells?_some hh).2.2 j hj
          rw [this]; simpa using hu
        have hspot : x.spot = none := by
          have := hcell 0 ss[0] (List.getElem?_eq_getElem hp) 0 _ rfl
          have := World.cell?_spot this
          simpa [Addr.add] using this
        obtain ⟨b, off, spot⟩ := x
        subst hspot
        refine .inr ⟨b, off, rfl, fun i s hi j u hu => ?_⟩
        have := hcell i s hi j u hu
        rwa [Go.WideShapes.add_plain, Go.WideShapes.add_plain] at this
    · obtain ⟨i, hi⟩ := List.getElem?_of_mem hs
      exact (hss i s hi).2.2.2
end Go.Proofs.Ytfolfeaednmcoaa
