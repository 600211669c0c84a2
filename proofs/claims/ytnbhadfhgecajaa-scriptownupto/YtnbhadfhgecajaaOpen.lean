/-
  What the rows' frames share: bytes and steps that came in, opened, under the bound on the readings' bulk.
-/
import Derived.Test.YtnbhadfhgecajaaEncode
import Derived.ProofKit
import Derived.ChangeOld
import Derived.JoinedCond
import Derived.Lib.SmallJoins
namespace Go.Proofs.Ytnbhadfhgecajaa
open Go.ChangeShapes Go.WideShapes Go.ChangeAt Go.RowKit
set_option linter.unusedVariables false

theorem own : ownKnob Try.prog.godebug = none := by kernel_rfl
theorem laidOut : laidOutB Try.prog = true := by kernel_rfl
theorem octets_of_wf {zs : List Int} (h : ∀ n ∈ zs, (Lit.int .u8 n).wf = true) : Octets zs := fun i => by
  by_cases hi : i < zs.length
  · have := bounds_u8 (h zs[i] (List.getElem_mem hi))
    simp [hi]; omega
  · simp [Nat.le_of_not_lt hi]
theorem bulk_one {H : Type} (d : DataW H) : 1 ≤ Rows.uptoBulk d := by
  cases d with
  | lit l => cases l <;> simp [Rows.uptoBulk]
  | nil => simp [Rows.uptoBulk]
  | ptr d => simp [Rows.uptoBulk]
  | slice elems spare => simp [Rows.uptoBulk]
  | agg parts => simp [Rows.uptoBulk]
  | iface t d => simp [Rows.uptoBulk]
  | map entries => simp [Rows.uptoBulk]
  | held h => simp [Rows.uptoBulk]
theorem bulk_part {H : Type} {d : DataW H} {l : List (DataW H)} (h : d ∈ l) : Rows.uptoBulk d ≤ Rows.uptoBulkAll l := by
  induction l with
  | nil => cases h
  | cons x r ih =>
    simp only [Rows.uptoBulkAll]
    cases List.mem_cons.1 h with
    | inl e => subst e; omega
    | inr e => have := ih e; omega
theorem bulk_length {H : Type} (l : List (DataW H)) : l.length ≤ Rows.uptoBulkAll l := by
  induction l with
  | nil => simp [Rows.uptoBulkAll]
  | cons x r ih => have := bulk_one x; simp only [Rows.uptoBulkAll, List.length_cons]; omega
theorem pick_list {α : Type} (R : Nat → α → Prop) : ∀ n, (∀ i, i < n → ∃ s, R i s) → ∃ ss : List α, ss.length = n ∧ ∀ (i : Nat) (s : α), ss[i]? = some s → R i s
  | 0, _ => ⟨[], rfl, fun i s h => by simp at h⟩
  | n + 1, h => by
    obtain ⟨ss, h1, h2⟩ := pick_list R n (fun i hi => h i (by omega))
    obtain ⟨s, hs⟩ := h n (by omega)
    refine ⟨ss ++ [s], by simp [h1], fun i t ht => ?_⟩
    by_cases hi : i < n
    · rw [List.getElem?_append_left (by omega)] at ht; exact h2 i t ht
    · have hlt := (List.getElem?_eq_some_iff.1 ht).1
      simp at hlt
      obtain rfl : i = n := by omega
      rw [List.getElem?_append_right (by omega)] at ht
      simp [h1] at ht
      rw [← ht]; exact hs

/-- One slice of bytes, read, is there, and no longer than its bulk. -/
theorem open_one {H : Type} {enc : TypeId × Value → H} {W : World} {sp : Nat → Bool} {fuel : Nat} {cs : List Value} {y : DataW H × List MemPlace} (hf : DataW.trod enc Try.prog W 0 sp true fuel 22 cs = some y) (hb : Rows.uptoBulk y.1 ≤ 1048576) (hsp : ∀ b, sp b = true) :
    ∃ s : Sl, cs = [s.val] ∧ Bs W s.a s.n s.cap s.zs ∧ s.n + 1 ≤ Rows.uptoBulk y.1 ∧ s.cap ≤ 1048576 := by
  rcases open_ints Try.underlying22 Try.underlying5 (by kernel_rfl) hf with ⟨hcs, hx⟩ | ⟨x, l, c, zs, hcs, _, hl, hm, hz, hx, hcell, hwz⟩
  · subst hx
    exact ⟨⟨none, 0, 0, []⟩, hcs, Bs.nil W, bulk_one _, by decide⟩
  · subst hx
    rw [hsp] at hz
    have hzl : zs.length = c := by simpa using hz
    simp only [Rows.uptoBulk] at hb
    have l1 := bulk_length (lits (H := H) .u8 (zs.take l))
    have l2 := bulk_length (lits (H := H) .u8 (zs.drop l))
    simp only [lits, List.length_map, List.length_take, List.length_drop] at l1 l2
    simp only [lits] at hb
    refine ⟨⟨some x, l, c, zs.take l⟩, hcs, ⟨by simp; omega, ?_, (octets_of_wf hwz).take l, (fun h => by cases h), hl, hm, by show l ≤ _; omega⟩, ?_, by show c ≤ _; omega⟩
    · refine .inr ⟨x, rfl, fun j hj => ?_⟩
      have hj' : j < l := by simp at hj; omega
      rw [hcell j (by omega)]; simp [List.getD, hj']
    · simp only [Rows.uptoBulk, lits]; show l + 1 ≤ _; omega
theorem open_bytes {H : Type} {enc : TypeId × Value → H} {W : World} {a : Option Addr} {len cap : Nat} {d : DataW H} {p : List MemPlace} {ds : List (DataW H)} {j : Nat}
    (h : DataW.Trod enc Try.prog W 0 (fun _ => true) true 22 (.slice a len cap) d p) (hd : ds[j]? = some d) (hb : Rows.uptoBulkAll ds ≤ 1048576) :
    ∃ zs, Bs W a len cap zs ∧ cap ≤ 1048576 := by
  have h1 := bulk_part (List.mem_of_getElem? hd)
  obtain ⟨fuel, hf⟩ := h
  obtain ⟨s, h2, h3, _, h4⟩ := open_one hf (by show Rows.uptoBulk d ≤ _; omega) (fun _ => rfl)
  simp [Value.cells] at h2
  obtain ⟨rfl, rfl, rfl⟩ := h2
  exact ⟨_, h3, h4⟩
theorem sum_bulk {H : Type} : ∀ (ds : List (DataW H)) (ss : List St), ss.length = ds.length → (∀ (i : Nat) (s : St) (d : DataW H), ss[i]? = some s → ds[i]? = some d → 5 + s.d.n ≤ Rows.uptoBulk d) → (ss.map fun s => 5 + s.d.n).sum ≤ Rows.uptoBulkAll ds
  | [], [], _, _ => by simp
  | [], s :: r, h, _ => by simp at h
  | d :: ds, [], h, _ => by simp at h
  | d :: ds, s :: r, h, hh => by
    have h1 := hh 0 s d rfl rfl
    have h2 := sum_bulk ds r (by simpa using h) (fun i s' d' a b => hh (i + 1) s' d' (by simpa using a) (by simpa using b))
    simp only [List.map_cons, List.sum_cons, Rows.uptoBulkAll]
    omega
/-- One step, read, is there. -/
theorem open_step {H : Type} {enc : TypeId × Value → H} {W : World} {sp : Nat → Bool} {fuel : Nat} {cs : List Value} {y : DataW H × List MemPlace} (hf : DataW.trod enc Try.prog W 0 sp true fuel 32 cs = some y) (hb : Rows.uptoBulk y.1 ≤ 1048576) (hsp : ∀ b, sp b = true) :
    ∃ s : St, cs = s.cells.toList ∧ Bs W s.d.a s.d.n s.d.cap s.d.zs ∧ 5 + s.d.n ≤ Rows.uptoBulk y.1 ∧ (Lit.int .i64 s.op).wf = true ∧ (Lit.int .i64 s.x).wf = true ∧ (Lit.int .i64 s.y).wf = true := by
  obtain ⟨y0, y1, y2, y3, n, rfl, hl, t0, t1, t2, t3⟩ := Joins.trod_struct4 Try.underlying32 hf
  have hc : Try.prog.cellsOf 32 = 4 := by kernel_rfl
  have c3 : Try.prog.cellsOf 3 = 1 := by kernel_rfl
  have c22 : Try.prog.cellsOf 22 = 1 := by kernel_rfl
  rw [hc] at hl
  dsimp only at t0 t1 t2 t3
  rw [c3] at t0 t1 t2
  rw [c22] at t3
  match cs, hl with
  | [a0, a1, a2, a3], _ =>
    simp only [List.drop_zero, List.take_succ_cons, List.take_zero, List.drop_succ_cons] at t0 t1 t2 t3
    obtain ⟨op, e0, x0, w0⟩ := DataW.trod_int Try.underlying3 t0
    obtain ⟨x, e1, x1, w1⟩ := DataW.trod_int Try.underlying3 t1
    obtain ⟨y, e2, x2, w2⟩ := DataW.trod_int Try.underlying3 t2
    subst x0 x1 x2
    simp only [Rows.uptoBulk, Rows.uptoBulkAll] at hb ⊢
    obtain ⟨s, e3, hB, hn, _⟩ := open_one t3 (by omega) hsp
    cases e0
    cases e1
    cases e2
    cases e3
    exact ⟨⟨op, x, y, s⟩, rfl, hB, by show 5 + s.n ≤ _; omega, w0, w1, w2⟩
theorem open_steps {H : Type} {enc : TypeId × Value → H} {W : World} {a : Option Addr} {len cap : Nat} {d : DataW H} {p : List MemPlace} {ds : List (DataW H)} {j : Nat}
    (h : DataW.Trod enc Try.prog W 0 (fun _ => true) true 26 (.slice a len cap) d p) (hd : ds[j]? = some d) (hb : Rows.uptoBulkAll ds ≤ 1048576) :
    ∃ ss : List St, ss.length = len ∧ LS W a ss ∧ (ss.map fun s => 5 + s.d.n).sum ≤ 1048576 := by
  have h1 := bulk_part (List.mem_of_getElem? hd)
  obtain ⟨fuel, hf⟩ := h
  rcases DataW.trod_slice Try.underlying26 hf with ⟨hcs, hx⟩ | ⟨x, l, c, elems, rest, n, _, hcs, hx, _, hl, hm, hlen, hel, _⟩
  · simp [Value.cells] at hcs
    obtain ⟨rfl, rfl, rfl⟩ := hcs
    exact ⟨[], rfl, ⟨fun s h => (by cases h), .inl rfl⟩, by simp⟩
  · simp [Value.cells] at hcs
    obtain ⟨rfl, rfl, rfl⟩ := hcs
    simp only [Prod.mk.injEq] at hx
    obtain ⟨rfl, _⟩ := hx
    simp only [Rows.uptoBulk] at h1
    have c32 : Try.prog.cellsOf 32 = 4 := by kernel_rfl
    rw [c32] at hel
    have each : ∀ i, i < len → ∃ s : St, W.cells? 0 (x.add (i * 4)) 4 = some s.cells.toList ∧ Bs W s.d.a s.d.n s.d.cap s.d.zs ∧ ∀ e, elems[i]? = some e → 5 + s.d.n ≤ Rows.uptoBulk e.1 := by
      intro i hi
      have he := hel i hi
      obtain ⟨e, hee⟩ : ∃ e, elems[i]? = some e := ⟨elems[i]'(by omega), List.getElem?_eq_getElem _⟩
      rw [hee, Option.bind_eq_some_iff] at he
      obtain ⟨cs', hcs', hy⟩ := he
      have hbe : Rows.uptoBulk e.1 ≤ Rows.uptoBulkAll (elems.map (·.1)) := bulk_part (List.mem_map.2 ⟨e, List.mem_of_getElem? hee, rfl⟩)
      obtain ⟨s, rfl, hB, hn, _⟩ := open_step hy (by omega) (fun _ => rfl)
      exact ⟨s, hcs', hB, fun e' he' => by rw [hee] at he'; cases he'; exact hn⟩
    obtain ⟨ss, hsl, hss⟩ := pick_list _ len each
    have hsum : (ss.map fun s => 5 + s.d.n).sum ≤ Rows.uptoBulkAll (elems.map (·.1)) := by
      refine sum_bulk _ ss (by simp; omega) (fun i s d hs hd => ?_)
      simp only [List.getElem?_map, Option.map_eq_some_iff] at hd
      obtain ⟨e, he, rfl⟩ := hd
      exact (hss i s hs).2.2 e he
    refine ⟨ss, hsl, ⟨fun s hs => ?_, ?_⟩, by omega⟩
    · obtain ⟨i, hi⟩ := List.getElem?_of_mem hs
      exact (hss i s hi).2.1
    · by_cases h0 : ss = []
      · exact .inl h0
      · have hp : 0 < ss.length := List.length_pos_iff.2 h0
        have hcell : ∀ (i : Nat) (s : St), ss[i]? = some s → ∀ (j : Nat) (u : Value), s.cells[j]? = some u → W.cell? ((x.add (i * 4)).add j) = some u := fun i s hi j u hu => by
          have hh := (hss i s hi).1
          have hj : j < 4 := by have := (Array.getElem?_eq_some_iff.1 hu).1; simpa using this
          have := (World.cells?_some hh).2.2 j hj
          rw [this]; simpa using hu
        have hspot : x.spot = none := by
          have := hcell 0 ss[0] (List.getElem?_eq_getElem hp) 0 _ rfl
          have := World.cell?_spot this
          simpa [Addr.add] using this
        obtain ⟨b, off, spot⟩ := x
        subst hspot
        refine .inr ⟨b, off, rfl, fun i s hi j u hu => ?_⟩
        have := hcell i s hi j u hu
        rwa [Go.WideShapes.add_plain, Go.WideShapes.add_plain] at this
end Go.Proofs.Ytnbhadfhgecajaa
