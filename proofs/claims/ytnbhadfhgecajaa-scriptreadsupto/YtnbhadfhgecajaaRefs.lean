/-
  The contract of the document's own Decode, for whatever slice; and that it says what Decode says.
-/
import Derived.Test.YtnbhadfhgecajaaRDecode
namespace Go.Proofs.Ytnbhadfhgecajaa
open Go.RowKit
set_option linter.unusedVariables false

set_option maxHeartbeats 400000 in
theorem rdecode_empty (a : Option Addr) (cap : Nat) (w : World) : Calls Try.prog 8 #[.slice a 0 cap] w fun e w' => e = .returned (.slice none 0 0) ∧ w' = w := by
  go_enter Try.func8, Try.ntmps8
  go_wp2
  refine wp_loop_rounds 1 ?_
  rw [rounds_succ]
  go_wp2
  go_ret
  exact ⟨rfl, rfl⟩
/-- The document's steps that lie behind a slice. -/
structure DR (W : World) (base : Nat) (a : Option Addr) (c : Nat) (zs : List Int) (xs : List Told) : Prop where
  all : AllOf zs 0 xs
  own : W.ownsRow base 34 5 (.slice a xs.length c) xs.length (xs.flatMap Told.row5)
  lies : ∀ x ∈ xs, Lies base x W
theorem DR.below {W W' : World} {base c : Nat} {a : Option Addr} {zs : List Int} {xs : List Told} (h : DR W base a c zs xs) (hb : Below W.heap.size W W') : DR W' base a c zs xs :=
  ⟨h.all, own_blk' h.own (fun k hk => hb.block k (h.own.lt k hk).2), fun x hx => own_block (h.lies x hx) (fun k hk => hb.block k ((h.lies x hx).lt k hk).2)⟩
theorem flat_get5 (xs : List Told) (i j : Nat) (x : Told) (h : xs[i]? = some x) (hj : j < 5) : (xs.flatMap Told.row5)[i * 5 + j]? = x.row5[j]? := by
  induction xs generalizing i with
  | nil => simp at h
  | cons y r ih =>
    rw [List.flatMap_cons]
    have hm : y.row5.length = 5 := rfl
    cases i with
    | zero => simp at h; subst h; rw [List.getElem?_append_left (by omega)]; simp
    | succ i =>
      rw [List.getElem?_append_right (by omega), hm, show (i + 1) * 5 + j - 5 = i * 5 + j by omega]
      exact ih i (by simpa using h)
theorem DR.cell {W : World} {base c g : Nat} {zs : List Int} {xs : List Told} (h : DR W base (some ⟨g, 0, none⟩) c zs xs) (i : Nat) (x : Told) (hx : xs[i]? = some x) (j : Nat) (u : Value) (hu : x.row5[j]? = some u) : W.cell? ⟨g, i * 5 + j, none⟩ = some u := by
  have hi := (List.getElem?_eq_some_iff.1 hx).1
  have hj : j < 5 := by have := (List.getElem?_eq_some_iff.1 hu).1; simpa [Told.row5] using this
  rw [h.own.cellAt (i * 5 + j) (by omega), flat_get5 xs i j x hx hj, hu]
theorem rdecode_dr (a : Option Addr) (n cap : Nat) (zs : List Int) (w : World) (hP : Bs w a n cap zs) (hn : n ≤ 1099511627776) :
    Calls Try.prog 8 #[.slice a n cap] w fun e w' => ∃ xs av cv, e = .returned (.slice av xs.length cv) ∧ DR w' w.heap.size av cv zs xs ∧ Below w.heap.size w w' := by
  by_cases h0 : n = 0
  · subst h0
    have hz : zs = [] := List.length_eq_zero_iff.1 hP.len
    refine (rdecode_empty a cap w).mono ?_
    rintro e w' ⟨rfl, rfl⟩
    refine ⟨[], none, 0, rfl, ⟨⟨trivial, by rw [hz]; simp [lastOf]⟩, World.ownsRow_nil _ _ _ _, (fun x hx => by cases hx)⟩, Below.refl _ _⟩
  · have hlen := hP.len
    rcases hP.has with ⟨_, h⟩ | ⟨x, rfl, hx⟩
    · rw [h] at hlen; simp at hlen; omega
    · obtain ⟨b, off, rfl, hc⟩ := ints_at (k := .u8) hx (by omega)
      have hb : b < w.heap.size := by
        have := World.block_lt_of_cell? w _ (hc 0 (by omega)); simpa using this
      refine (rdecode_some b off n cap zs w hlen (fun j hj => hc j (by omega)) hP.oct hn hb).mono ?_
      rintro e w' ⟨xs, v, h1, rfl, h2, h3, h4⟩
      obtain ⟨av, cv, rfl⟩ := own_shape h2
      exact ⟨xs, av, cv, rfl, ⟨h1, h2, h3⟩, h4⟩
/-- The same bytes say the same places. -/
theorem places : ∀ (xs ys : List Told) (zs : List Int) (k : Nat), AllOf zs k xs → AllOf zs k ys → xs.map (·.at') = ys.map (·.at')
  | [], [], _, _, _, _ => rfl
  | [], y :: r, zs, k, h1, h2 => by
    have a1 := h1.2
    have a2 := h2.1.1.1
    simp only [lastOf] at *
    omega
  | x :: q, [], zs, k, h1, h2 => by
    have a1 := h2.2
    have a2 := h1.1.1.1
    simp only [lastOf] at *
    omega
  | x :: q, y :: r, zs, k, h1, h2 => by
    have := places q r zs _ ⟨h1.1.2, h1.2⟩ ⟨h2.1.2, h2.2⟩
    simp only [List.map_cons, this, h1.1.1.2.1, h2.1.1.2.1]
end Go.Proofs.Ytnbhadfhgecajaa
