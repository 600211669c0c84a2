/-
  A slice of slices of bytes that came in, opened.
-/
import Derived.Test.YtapejmmefhbadaaDoorUpto
import Derived.Test.YtapejmmefhbadaaDoorLists
namespace Go.Proofs.YtapejmmefhbadaaDoor
open Go.ChangeShapes Go.WideShapes Go.ChangeAt Go.RowKit
set_option linter.unusedVariables false

theorem pick_list {α : Type} (R : Nat → α → Prop) : ∀ n, (∀ i, i < n → ∃ s, R i s) → ∃ ss : List α, ss.length = n ∧ ∀ (i : Nat) (s : α), ss[i]? = some s → R i s
  | 0, _ => ⟨[], rfl, fun i s h => by simp at h⟩
  | n + 1, h => by
    obtain ⟨ss, h1, h2⟩ := pick_list R n (fun i hi => h i (by omega))
    obtain ⟨s, hs⟩ := h n (by omega)
    refine ⟨ss ++ [s], by simp [h1], fun i t ht => ?_⟩
    by_cases hi : i < n
    · rw [List.getElem?_append_left (by omega)] at ht; exact h2 i t ht
    · have hlt := (List.getElem?_eq_some_iff.1 ht).1
      simp at hlt
      obtain rfl : i = n := by omega
      rw [List.getElem?_append_right (by omega)] at ht
      simp [h1] at ht
      rw [← ht]; exact hs
theorem sum_bulk {H : Type} : ∀ (ds : List (DataW H)) (ss : List Sl), ss.length = ds.length → (∀ (i : Nat) (s : Sl) (d : DataW H), ss[i]? = some s → ds[i]? = some d → s.n + 1 ≤ Rows.uptoBulk d) → (ss.map fun s => 8 + s.n).sum ≤ 8 * Rows.uptoBulkAll ds
  | [], [], _, _ => by simp
  | [], s :: r, h, _ => by simp at h
  | d :: ds, [], h, _ => by simp at h
  | d :: ds, s :: r, h, hh => by
    have h1 := hh 0 s d rfl rfl
    have h2 := sum_bulk ds r (by simpa using h) (fun i s' d' a b => hh (i + 1) s' d' (by simpa using a) (by simpa using b))
    simp only [List.map_cons, List.sum_cons, Rows.uptoBulkAll]
    omega

/-- One slice of bytes, read, is there, and no longer than its bulk. -/
theorem open_one {H : Type} {enc : TypeId × Value → H} {W : World} {sp : Nat → Bool} {fuel : Nat} {cs : List Value} {y : DataW H × List MemPlace} (hf : DataW.trod enc Tryd.prog W 0 sp true fuel 24 cs = some y) (hb : Rows.uptoBulk y.1 ≤ 1048576) (hsp : ∀ b, sp b = true) :
    ∃ s : Sl, cs = [s.val] ∧ Bs W s.a s.n s.cap s.zs ∧ s.n + 1 ≤ Rows.uptoBulk y.1 := by
  rcases open_ints Tryd.underlying24 Tryd.underlying5 (by kernel_rfl) hf with ⟨hcs, hx⟩ | ⟨x, l, c, zs, hcs, _, hl, hm, hz, hx, hcell, hwz⟩
  · subst hx
    exact ⟨⟨none, 0, 0, []⟩, hcs, Bs.nil W, bulk_one _⟩
  · subst hx
    rw [hsp] at hz
    have hzl : zs.length = c := by simpa using hz
    simp only [Rows.uptoBulk] at hb
    have l1 := bulk_length (lits (H := H) .u8 (zs.take l))
    have l2 := bulk_length (lits (H := H) .u8 (zs.drop l))
    simp only [lits, List.length_map, List.length_take, List.length_drop] at l1 l2
    simp only [lits] at hb
    refine ⟨⟨some x, l, c, zs.take l⟩, hcs, ⟨by simp; omega, ?_, (octets_of_wf hwz).take l, (fun h => by cases h), hl, hm, by show l ≤ _; omega⟩, ?_⟩
    · refine .inr ⟨x, rfl, fun j hj => ?_⟩
      have hj' : j < l := by simp at hj; omega
      rw [hcell j (by omega)]; simp [List.getD, hj']
    · simp only [Rows.uptoBulk, lits]; show l + 1 ≤ _; omega

theorem open_lists {H : Type} {enc : TypeId × Value → H} {W : World} {a : Option Addr} {len cap : Nat} {d : DataW H} {p : List MemPlace} {ds : List (DataW H)} {j : Nat}
    (h : DataW.Trod enc Tryd.prog W 0 (fun _ => true) true 22 (.slice a len cap) d p) (hd : ds[j]? = some d) (hb : Rows.uptoBulkAll ds ≤ 1048576) :
    ∃ ss : List Sl, (ss.length = len ∧ LL W a ss ∧ ∀ s ∈ ss, s.n ≤ 1048576) ∧ (ss.map fun s => 8 + s.n).sum ≤ 8388608 := by
  have h1 := bulk_part (List.mem_of_getElem? hd)
  obtain ⟨fuel, hf⟩ := h
  rcases DataW.trod_slice Tryd.underlying22 hf with ⟨hcs, hx⟩ | ⟨x, l, c, elems, rest, n, _, hcs, hx, _, hl, hm, hlen, hel, _⟩
  · simp [Value.cells] at hcs
    obtain ⟨rfl, rfl, rfl⟩ := hcs
    exact ⟨[], ⟨rfl, ⟨fun s h => (by cases h), .inl rfl⟩, fun s h => (by cases h)⟩, by simp⟩
  · simp [Value.cells] at hcs
    obtain ⟨rfl, rfl, rfl⟩ := hcs
    simp only [Prod.mk.injEq] at hx
    obtain ⟨rfl, _⟩ := hx
    simp only [Rows.uptoBulk] at h1
    have c22 : Tryd.prog.cellsOf 24 = 1 := by kernel_rfl
    rw [c22] at hel
    have each : ∀ i, i < len → ∃ s : Sl, W.cell? (x.add i) = some s.val ∧ Bs W s.a s.n s.cap s.zs ∧ ∀ e, elems[i]? = some e → s.n + 1 ≤ Rows.uptoBulk e.1 := by
      intro i hi
      have he := hel i hi
      obtain ⟨e, hee⟩ : ∃ e, elems[i]? = some e := ⟨elems[i]'(by omega), List.getElem?_eq_getElem _⟩
      rw [hee, Nat.mul_one, Option.bind_eq_some_iff] at he
      obtain ⟨cs', hcs', hy⟩ := he
      have hbe : Rows.uptoBulk e.1 ≤ Rows.uptoBulkAll (elems.map (·.1)) := bulk_part (List.mem_map.2 ⟨e, List.mem_of_getElem? hee, rfl⟩)
      obtain ⟨s, rfl, hB, hn⟩ := open_one hy (by omega) (fun _ => rfl)
      exact ⟨s, cell_of_cells?_one hcs', hB, fun e' he' => by rw [hee] at he'; cases he'; exact hn⟩
    obtain ⟨ss, hsl, hss⟩ := pick_list _ len each
    have hsum : (ss.map fun s => 8 + s.n).sum ≤ 8 * Rows.uptoBulkAll (elems.map (·.1)) := by
      refine sum_bulk _ ss (by simp; omega) (fun i s d hs hd => ?_)
      simp only [List.getElem?_map, Option.map_eq_some_iff] at hd
      obtain ⟨e, he, rfl⟩ := hd
      exact (hss i s hs).2.2 e he
    refine ⟨ss, ⟨hsl, ⟨fun s hs => ?_, ?_⟩, fun s hs => ?_⟩, by omega⟩
    · obtain ⟨i, hi⟩ := List.getElem?_of_mem hs
      exact (hss i s hi).2.1
    · by_cases h0 : ss = []
      · exact .inl h0
      · have hp : 0 < ss.length := List.length_pos_iff.2 h0
        have hspot : x.spot = none := by
          have := (hss 0 ss[0] (List.getElem?_eq_getElem hp)).1
          have := World.cell?_spot this
          simpa [Addr.add] using this
        obtain ⟨b, off, spot⟩ := x
        subst hspot
        refine .inr ⟨b, off, rfl, fun i s hi => ?_⟩
        have := (hss i s hi).1
        rwa [Go.WideShapes.add_plain] at this
    · obtain ⟨i, hi⟩ := List.getElem?_of_mem hs
      have hil := (List.getElem?_eq_some_iff.1 hi).1
      have hee : elems[i]? = some (elems[i]'(by omega)) := List.getElem?_eq_getElem _
      have h2 := (hss i s hi).2.2 _ hee
      have h3 : Rows.uptoBulk (elems[i]'(by omega)).1 ≤ Rows.uptoBulkAll (elems.map (·.1)) := bulk_part (List.mem_map.2 ⟨_, List.mem_of_getElem? hee, rfl⟩)
      omega
end Go.Proofs.YtapejmmefhbadaaDoor
