/-
  The contract of awake, and what the walks over decoded steps share.
-/
import Derived.Test.YtnbhadfhgecajaaMath
import Derived.Test.YtnbhadfhgecajaaSame
import Derived.Deep.RegionHeld3
namespace Go.Proofs.Ytnbhadfhgecajaa
open Go.RowKit
set_option linter.unusedVariables false

/-- Decoded steps that lie behind a slice. -/
structure DL (W : World) (base : Nat) (a : Option Addr) (c : Nat) (zs : List Int) (xs : List Told) : Prop where
  all : AllOf zs 0 xs
  own : W.ownsRow base 32 4 (.slice a xs.length c) xs.length (xs.flatMap Told.row)
  lies : ∀ x ∈ xs, Lies base x W
theorem DL.below {W W' : World} {base c : Nat} {a : Option Addr} {zs : List Int} {xs : List Told} (h : DL W base a c zs xs) (hb : Below W.heap.size W W') : DL W' base a c zs xs :=
  ⟨h.all, own_blk' h.own (fun k hk => hb.block k (h.own.lt k hk).2), fun x hx => own_block (h.lies x hx) (fun k hk => hb.block k ((h.lies x hx).lt k hk).2)⟩
theorem flat_get' (xs : List Told) (i j : Nat) (x : Told) (h : xs[i]? = some x) (hj : j < 4) : (xs.flatMap Told.row)[i * 4 + j]? = x.row[j]? := by
  induction xs generalizing i with
  | nil => simp at h
  | cons y r ih =>
    rw [List.flatMap_cons]
    have hm : y.row.length = 4 := rfl
    cases i with
    | zero => simp at h; subst h; rw [List.getElem?_append_left (by omega)]; simp
    | succ i =>
      rw [List.getElem?_append_right (by omega), hm, show (i + 1) * 4 + j - 4 = i * 4 + j by omega]
      exact ih i (by simpa using h)
theorem DL.cell {W : World} {base c g : Nat} {zs : List Int} {xs : List Told} (h : DL W base (some ⟨g, 0, none⟩) c zs xs) (i : Nat) (x : Told) (hx : xs[i]? = some x) (j : Nat) (u : Value) (hu : x.row[j]? = some u) : W.cell? ⟨g, i * 4 + j, none⟩ = some u := by
  have hi := (List.getElem?_eq_some_iff.1 hx).1
  have hj : j < 4 := by have := (List.getElem?_eq_some_iff.1 hu).1; simpa [Told.row] using this
  rw [h.own.cellAt (i * 4 + j) (by omega), flat_get' xs i j x hx hj, hu]
theorem DL.some {W : World} {base c : Nat} {a : Option Addr} {zs : List Int} {xs : List Told} (h : DL W base a c zs xs) (hp : 0 < xs.length) : ∃ g, a = some ⟨g, 0, none⟩ := by
  rcases h.own.2 with ⟨h1, h2⟩ | ⟨g, cp, cur, h1, _⟩
  · omega
  · cases h1; exact ⟨g, rfl⟩
theorem lies_has {W : World} {base : Nat} {x : Told} (h : Lies base x W) : Has W x.s.d.a x.s.d.zs := by
  have h' : W.ownsRow base 5 1 (.slice x.s.d.a x.s.d.n x.s.d.cap) x.s.d.n (vals x.s.d.zs) := h
  rcases h'.2 with ⟨h1, h2⟩ | ⟨g, cp, cur, h1, _⟩
  · have h3 := h'.1
    simp [vals_length, h2] at h3
    injection h1 with h4
    exact .inl ⟨h4, h3⟩
  · injection h1 with h4 h5 h6
    rw [h4] at h' ⊢
    exact own_has h'
theorem DL.ls {W : World} {base c : Nat} {a : Option Addr} {zs : List Int} {xs : List Told} (h : DL W base a c zs xs) (hz : Octets zs) : LS W a (xs.map (·.s)) := by
  refine ⟨fun s hs => ?_, ?_⟩
  · obtain ⟨x, hx, rfl⟩ := List.mem_map.1 hs
    obtain ⟨h1, h2, h3, h4⟩ := row_may hz xs 0 h.all.1 x hx
    obtain ⟨a', c', hv, hB⟩ := own_bs (h.lies x hx) h2 (by omega)
    injection hv with e1 e2 e3
    rw [e1, e3]; exact hB
  · by_cases h0 : xs = []
    · exact .inl (by rw [h0]; rfl)
    · obtain ⟨g, rfl⟩ := h.some (List.length_pos_iff.2 h0)
      refine .inr ⟨g, 0, rfl, fun i s hi j u hu => ?_⟩
      rw [Nat.zero_add]
      rw [List.getElem?_map, Option.map_eq_some_iff] at hi
      obtain ⟨x, hx, rfl⟩ := hi
      have e : x.s.cells = x.row.toArray := rfl
      rw [e, List.getElem?_toArray] at hu
      exact h.cell i x hx j u hu
theorem decode_dl (a : Option Addr) (n cap : Nat) (zs : List Int) (w : World) (hP : Bs w a n cap zs) (hl : n ≤ 1099511627776) :
    Calls Try.prog 10 #[.slice a n cap] w fun e w' => ∃ xs av cv, e = .returned (.slice av xs.length cv) ∧ DL w' w.heap.size av cv zs xs ∧ Below w.heap.size w w' := by
  refine (decode_any a n cap zs w hP hl).mono ?_
  rintro e w' ⟨xs, v, h1, rfl, h2, h3, h4⟩
  obtain ⟨av, cv, rfl⟩ := own_shape h2
  exact ⟨xs, av, cv, rfl, ⟨h1, h2, h3⟩, h4⟩

theorem awake_steps (xs : List Told) (h : AllOf [1, 5, 0, 3, 7, 1, 1, 0, 97] 0 xs) : ∃ x1 x2, xs = [x1, x2] ∧ ssig x1.s = (1, 5, 0, 0, []) ∧ ssig x2.s = (3, 7, 1, 1, [97]) := by
  have h2 : AllOf [1, 5, 0, 3, 7, 1, 1, 0, 97] 0 [⟨0, ⟨1, 5, 0, ⟨none, 0, 0, []⟩⟩⟩, ⟨3, ⟨3, 7, 1, ⟨none, 1, 0, [97]⟩⟩⟩] := by
    refine ⟨⟨⟨by decide, rfl, ⟨by decide, by decide, by decide, by decide, by decide⟩⟩, ⟨by decide, by decide, ⟨by decide, by decide, by decide, by decide, by decide⟩⟩, trivial⟩, by decide⟩
  have := det xs _ _ _ 0 0 rfl h h2
  match xs, this with
  | [x1, x2], h =>
    simp only [List.map_cons, List.map_nil, List.cons.injEq, and_true] at h
    exact ⟨x1, x2, rfl, h.1, h.2⟩

set_option maxRecDepth 100000 in
set_option maxHeartbeats 1000000 in
theorem awake_any (w : World) : Calls Try.prog 22 #[] w fun e w' => e = .returned (.bool true) ∧ Below w.heap.size w w' := by
  go_enter Try.func22, Try.ntmps22
  go_wp2_with fail
  have hB : Bs (w.alloc (.cells #[.int .u8 1, .int .u8 5, .int .u8 0, .int .u8 3, .int .u8 7, .int .u8 1, .int .u8 1, .int .u8 0, .int .u8 97] 5)) (some ⟨w.heap.size, 0, none⟩) 9 9 [1, 5, 0, 3, 7, 1, 1, 0, 97] :=
    ⟨rfl, Has.of_block (zs := [1, 5, 0, 3, 7, 1, 1, 0, 97]) (heap_alloc_new w _), fun i => by rcases i with _ | _ | _ | _ | _ | _ | _ | _ | _ | i <;> simp, (fun h => by cases h), by decide, by decide, by decide⟩
  have b1 : Below w.heap.size w (w.alloc (.cells #[.int .u8 1, .int .u8 5, .int .u8 0, .int .u8 3, .int .u8 7, .int .u8 1, .int .u8 1, .int .u8 0, .int .u8 97] 5)) := (Below.refl _ w).alloc (Nat.le_refl _) _
  refine (decode_dl _ 9 9 _ _ hB (by decide)).mono ?_
  rintro e w1 ⟨xs, av, cv, rfl, hD, hb1⟩
  obtain ⟨x1, x2, rfl, s1, s2⟩ := awake_steps xs hD.all
  obtain ⟨g, rfl⟩ := hD.some (by simp)
  obtain ⟨t1, o1, a1, y1, d1⟩ := x1
  obtain ⟨t2, o2, a2, y2, d2⟩ := x2
  obtain ⟨da, dn, dc, dz⟩ := d2
  simp only [ssig, Prod.mk.injEq] at s1 s2
  obtain ⟨rfl, rfl, rfl, _⟩ := s1
  obtain ⟨rfl, rfl, rfl, rfl, rfl⟩ := s2
  have B1 : Hid (Below w.heap.size w w1) := b1.trans (hb1.mono (by simp))
  have c0 : w1.cell? ⟨g, 0, none⟩ = some (.int .i64 1) := hD.cell 0 _ rfl 0 _ rfl
  have c1 : w1.cell? ⟨g, 1, none⟩ = some (.int .i64 5) := hD.cell 0 _ rfl 1 _ rfl
  have c4 : w1.cell? ⟨g, 4, none⟩ = some (.int .i64 3) := hD.cell 1 _ rfl 0 _ rfl
  have c7 : w1.cell? ⟨g, 7, none⟩ = some (.slice da 1 dc) := hD.cell 1 _ rfl 3 _ rfl
  have hh := lies_has (hD.lies ⟨t2, 3, 7, 1, ⟨da, 1, dc, [97]⟩⟩ (by simp))
  obtain ⟨b, off, rfl, hc⟩ : ∃ b off, da = some ⟨b, off, none⟩ ∧ w1.cell? ⟨b, off, none⟩ = some (.int .u8 97) := by
    rcases hh with ⟨_, h⟩ | ⟨x, hx, hc⟩
    · cases h
    · obtain ⟨b, off, rfl, hc'⟩ := ints_at (k := .u8) hc (by simp)
      exact ⟨b, off, hx, by simpa using hc' 0 (by simp)⟩
  clear hh hD hb1 hB b1
  go_wp2
  go_ret
  exact ⟨rfl, B1.out⟩
end Go.Proofs.Ytnbhadfhgecajaa
