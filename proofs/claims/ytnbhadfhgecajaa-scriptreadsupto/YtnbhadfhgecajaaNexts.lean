/-
  The sequence of Each gone over with the two closures of ScriptReads: what they count and find.
-/
import Derived.Test.YtnbhadfhgecajaaClos
import Derived.Test.YtnbhadfhgecajaaEachC
import Derived.Test.YtnbhadfhgecajaaAwake
namespace Go.Proofs.Ytnbhadfhgecajaa
open Go.RowKit
set_option linter.unusedVariables false

/-- The step told behind some others is the one at that place. -/
theorem pick : ∀ (pre xs : List Told) (x : Told) (zs : List Int) (k : Nat), Row1 zs k (pre ++ [x]) → AllOf zs k xs → ∃ y, xs[pre.length]? = some y ∧ y.at' = x.at' ∧ ssig y.s = ssig x.s
  | [], [], x, zs, k, h1, h2 => by
    have a1 := h2.2
    have a2 := h1.1.1
    simp only [lastOf] at *
    omega
  | [], y :: r, x, zs, k, h1, h2 => ⟨y, rfl, h2.1.1.2.1.trans h1.1.2.1.symm, isStep_sig rfl h2.1.1.2.2 h1.1.2.2⟩
  | p :: q, [], x, zs, k, h1, h2 => by
    have a1 := h2.2
    have a2 := h1.1.1
    simp only [lastOf] at *
    omega
  | p :: q, y :: r, x, zs, k, h1, h2 => by
    obtain ⟨z, hz, h3, h4⟩ := pick q r x zs _ h1.2 ⟨h2.1.2, h2.2⟩
    exact ⟨z, by simpa using hz, h3, h4⟩
theorem row_short : ∀ (pre xs : List Told) (zs : List Int) (k : Nat), Row1 zs k pre → AllOf zs k xs → pre.length ≤ xs.length
  | [], xs, zs, k, h1, h2 => by simp
  | p :: q, [], zs, k, h1, h2 => by
    have a1 := h2.2
    have a2 := h1.1.1
    simp only [lastOf] at *
    omega
  | p :: q, y :: r, zs, k, h1, h2 => by
    have := row_short q r zs _ h1.2 ⟨h2.1.2, h2.2⟩
    simp; omega
theorem all_len {zs : List Int} {k : Nat} {xs ys : List Told} (h1 : AllOf zs k xs) (h2 : AllOf zs k ys) : xs.length = ys.length :=
  Nat.le_antisymm (row_short xs ys zs k h1.1 h2) (row_short ys xs zs k h2.1 h1)
theorem DR.some {W : World} {base c : Nat} {a : Option Addr} {zs : List Int} {xs : List Told} (h : DR W base a c zs xs) (hp : 0 < xs.length) : ∃ g, a = some ⟨g, 0, none⟩ := by
  rcases h.own.2 with ⟨h1, h2⟩ | ⟨g, cp, cur, h1, _⟩
  · omega
  · cases h1; exact ⟨g, rfl⟩
theorem DR.but {b : Nat} {A B : World} (hb : But b A B) {base c : Nat} {a : Option Addr} {zs : List Int} {xs : List Told} (h : DR A base a c zs xs) {cc : Array Value} {fr : Nat × Nat} (hn : A.heap[b]? = .some (.cells cc 3 fr)) : DR B base a c zs xs :=
  ⟨h.all, hb.own h.own hn (by decide), fun x hx => hb.own (h.lies x hx) hn (by decide)⟩
theorem DL.but {b : Nat} {A B : World} (hb : But b A B) {base c : Nat} {a : Option Addr} {zs : List Int} {xs : List Told} (h : DL A base a c zs xs) {cc : Array Value} {fr : Nat × Nat} (hn : A.heap[b]? = .some (.cells cc 3 fr)) : DL B base a c zs xs :=
  ⟨h.all, hb.own h.own hn (by decide), fun x hx => hb.own (h.lies x hx) hn (by decide)⟩
theorem Row.but {b : Nat} {A B : World} (hb : But b A B) {base g n cap : Nat} {zs : List Int} (h : Row A base g n cap zs) {cc : Array Value} {fr : Nat × Nat} (hn : A.heap[b]? = .some (.cells cc 3 fr)) : Row B base g n cap zs :=
  ⟨h.len, h.oct, h.small, hb.own h.owns hn (by decide)⟩
theorem But.cells {b : Nat} {A B : World} (hb : But b A B) {j : Nat} {o : Obj} (h : A.heap[j]? = some o) (hne : j ≠ b) : B.heap[j]? = some o := (hb.block j (Array.getElem?_eq_some_iff.1 h).1 hne).trans h
theorem cells_ne {A : World} {j b : Nat} {c1 c2 : Array Value} {t1 t2 : TypeId} {f1 f2 : Nat × Nat} (h1 : A.heap[j]? = some (.cells c1 t1 f1)) (h2 : A.heap[b]? = some (.cells c2 t2 f2)) (hne : t1 ≠ t2) : j ≠ b := by
  rintro rfl
  rw [h1] at h2
  cases h2
  exact hne rfl

theorem next1 (bf bn bw bm Bn n cv cr baseE baseR : Nat) (av ar : Option Addr) (zs : List Int) (xs : List Told) (q : Int) (W0 : World) (hl : zs.length = n) (hn : n ≤ 1099511627776) (hz : Octets zs)
    (hf : W0.heap[bf]? = some (.cells #[.bool true] 4 (0, 0))) (hc : W0.heap[bn]? = some (.cells #[.int .i64 0] 3 (0, 0))) (hw : W0.heap[bw]? = some (.cells #[.slice ar xs.length cr] 23 (0, 0))) (hm : W0.heap[bm]? = some (.cells #[.int .i64 q] 3 (0, 0))) (hmn : bm ≠ bn)
    (hB : W0.cell? ⟨Bn, 0, none⟩ = some (.slice av n cv)) (hnB : Bn ≠ bn) (hown : W0.ownsRow baseE 5 1 (.slice av n cv) n (vals zs)) (hR : DR W0 baseR ar cr zs xs) :
    Calls Try.prog 26 #[.func (.func 12) #[] #[.pointer (some ⟨bf, 0, none⟩), .pointer (some ⟨bn, 0, none⟩), .pointer (some ⟨bw, 0, none⟩), .pointer (some ⟨bm, 0, none⟩)], .pointer (some ⟨Bn, 0, none⟩)] W0 fun e W' => (∃ v, e = .returned v) ∧
      ∃ N : Nat, W'.heap[bn]? = some (.cells #[.int .i64 N] 3 (0, 0)) ∧ But bn W0 W' ∧ (0 < q → (N : Int) ≤ q) ∧ (N = xs.length ∨ (N : Int) = q) ∧ N ≤ xs.length := by
  have hBl : Bn < W0.heap.size := World.block_lt_of_cell? W0 _ hB
  have hnf := cells_ne hf hc (by decide)
  have hnw := cells_ne hw hc (by decide)
  have hxl : 5 * xs.length ≤ 5 * n := by
    have h2 := row_sum zs xs 0 hR.all.1
    have h4 : ∀ l : List St, 5 * l.length ≤ (l.map fun s => 5 + s.d.n).sum := by
      intro l
      induction l with
      | nil => simp
      | cons x r ih => simp; omega
    have h5 := h4 (xs.map (·.s))
    simp at h5
    simp at h2
    omega
  have hkeep : ∀ {W1 W2 : World}, But bn W1 W2 → W0.heap.size ≤ W1.heap.size → Keeps Bn (Value.slice av n cv).ownBlock W1 W2 := fun {W1 W2} h hs =>
    ⟨h.size, h.block Bn (Nat.lt_of_lt_of_le hBl hs) hnB, fun b hb => h.block b (Nat.lt_of_lt_of_le (hown.lt b hb).2 hs) (by
      obtain ⟨cur, hc'⟩ := own_cells hown b hb
      exact cells_ne hc' hc (by decide))⟩
  refine (eachc1 bf bn bw bm Bn n cv av baseE zs hl hn hz
    (fun pre W => W.heap[bn]? = some (.cells #[.int .i64 pre.length] 3 (0, 0)) ∧ But bn W0 W ∧ (0 < q → (pre.length : Int) < q))
    (fun pre W => W.heap[bn]? = some (.cells #[.int .i64 pre.length] 3 (0, 0)) ∧ But bn W0 W ∧ (pre.length : Int) = q) W0 ?_ ?_
    hBl hB hown ⟨hc, But.refl _ _, fun h => by simpa using h⟩).mono ?_
  · rintro pre A B hs ⟨h1, h2, h3⟩ hb
    exact ⟨(hb.block bn (Array.getElem?_eq_some_iff.1 h1).1).trans h1, h2.trans (But.of_below hb), h3⟩
  · rintro pre x W1 ⟨h1, h2, h3⟩ hLx hrow hs
    obtain ⟨y, hy, hya, hys⟩ := pick pre xs x zs 0 hrow hR.all
    have hyl := (List.getElem?_eq_some_iff.1 hy).1
    obtain ⟨g, rfl⟩ := hR.some (by omega)
    have hR1 := hR.but h2 hc
    have hmay := row_may hz _ 0 hrow x (by simp)
    have c0 := hR1.cell pre.length y hy 0 _ rfl
    have c1 := hR1.cell pre.length y hy 1 _ rfl
    have c2 := hR1.cell pre.length y hy 2 _ rfl
    have c3 := hR1.cell pre.length y hy 3 _ rfl
    have c4 := hR1.cell pre.length y hy 4 _ rfl
    have e1 := lies_has hLx
    have e2 := lies_has (hR1.lies y (List.mem_of_getElem? hy))
    obtain ⟨at1, op, x', y', a1, dn, d1, dz⟩ := x
    obtain ⟨at2, op2, x2, y2, a2, dn2, d2, dz2⟩ := y
    simp only [ssig, Prod.mk.injEq] at hys
    obtain ⟨rfl, rfl, rfl, rfl, rfl⟩ := hys
    simp only at hya
    subst hya
    refine (clos1_any bf bn bw bm g baseR cr pre.length xs.length q at2 op2 x2 y2 a1 a2 dn2 d1 d2 dz2 W1 (h2.cells hf hnf) h1 (h2.cells hw hnw) (h2.cells hm hmn) hyl (by omega) hmn c0 c1 c2 c3 c4 hmay.2.2.1 e1 e2 hmay.2.2.2).mono ?_
    rintro e W2 ⟨rfl, h4, h5⟩
    by_cases hq : (pre.length : Int) + 1 = q
    · refine .inr ⟨by simp [hq], ?_, h2.trans h5, by simp [hq]⟩
      simpa using h4
    · refine .inl ⟨by simp [hq], ⟨by simpa using h4, h2.trans h5, fun h => ?_⟩, hkeep h5 hs⟩
      have := h3 h
      simp; omega
  · rintro e W' ⟨hv, h⟩
    refine ⟨hv, ?_⟩
    rcases h with ⟨ys, hA, h1, h2, h3⟩ | ⟨pre, hrow, h1, h2, h3⟩
    · exact ⟨ys.length, h1, h2, fun h => Int.le_of_lt (h3 h), .inl (all_len hA hR.all), Nat.le_of_eq (all_len hA hR.all)⟩
    · exact ⟨pre.length, h1, h2, fun h => Int.le_of_eq h3, .inr h3, row_short pre xs zs 0 hrow hR.all⟩

theorem next2 (bf bn bw Bn n cv cr baseE baseR : Nat) (av ar : Option Addr) (zs : List Int) (xs : List Told) (W0 : World) (hl : zs.length = n) (hn : n ≤ 1099511627776) (hz : Octets zs)
    (hf : W0.heap[bf]? = some (.cells #[.bool true] 4 (0, 0))) (hc : W0.heap[bn]? = some (.cells #[.int .i64 0] 3 (0, 0))) (hw : W0.heap[bw]? = some (.cells #[.slice ar xs.length cr] 23 (0, 0)))
    (hB : W0.cell? ⟨Bn, 0, none⟩ = some (.slice av n cv)) (hnB : Bn ≠ bn) (hown : W0.ownsRow baseE 5 1 (.slice av n cv) n (vals zs)) (hR : DR W0 baseR ar cr zs xs) :
    Calls Try.prog 26 #[.func (.func 14) #[] #[.pointer (some ⟨bf, 0, none⟩), .pointer (some ⟨bn, 0, none⟩), .pointer (some ⟨bw, 0, none⟩)], .pointer (some ⟨Bn, 0, none⟩)] W0 fun e W' => (∃ v, e = .returned v) ∧
      W'.heap[bn]? = some (.cells #[.int .i64 xs.length] 3 (0, 0)) ∧ But bn W0 W' := by
  have hBl : Bn < W0.heap.size := World.block_lt_of_cell? W0 _ hB
  have hnf := cells_ne hf hc (by decide)
  have hnw := cells_ne hw hc (by decide)
  have hxl : 5 * xs.length ≤ 5 * n := by
    have h2 := row_sum zs xs 0 hR.all.1
    have h4 : ∀ l : List St, 5 * l.length ≤ (l.map fun s => 5 + s.d.n).sum := by
      intro l
      induction l with
      | nil => simp
      | cons x r ih => simp; omega
    have h5 := h4 (xs.map (·.s))
    simp at h5
    simp at h2
    omega
  have hkeep : ∀ {W1 W2 : World}, But bn W1 W2 → W0.heap.size ≤ W1.heap.size → Keeps Bn (Value.slice av n cv).ownBlock W1 W2 := fun {W1 W2} h hs =>
    ⟨h.size, h.block Bn (Nat.lt_of_lt_of_le hBl hs) hnB, fun b hb => h.block b (Nat.lt_of_lt_of_le (hown.lt b hb).2 hs) (by
      obtain ⟨cur, hc'⟩ := own_cells hown b hb
      exact cells_ne hc' hc (by decide))⟩
  refine (eachc2 bf bn bw Bn n cv av baseE zs hl hn hz
    (fun pre W => W.heap[bn]? = some (.cells #[.int .i64 pre.length] 3 (0, 0)) ∧ But bn W0 W)
    (fun pre W => False) W0 ?_ ?_
    hBl hB hown ⟨hc, But.refl _ _⟩).mono ?_
  · rintro pre A B hs ⟨h1, h2⟩ hb
    exact ⟨(hb.block bn (Array.getElem?_eq_some_iff.1 h1).1).trans h1, h2.trans (But.of_below hb)⟩
  · rintro pre x W1 ⟨h1, h2⟩ hLx hrow hs
    obtain ⟨y, hy, hya, hys⟩ := pick pre xs x zs 0 hrow hR.all
    have hyl := (List.getElem?_eq_some_iff.1 hy).1
    obtain ⟨g, rfl⟩ := hR.some (by omega)
    have hR1 := hR.but h2 hc
    have hmay := row_may hz _ 0 hrow x (by simp)
    have c0 := hR1.cell pre.length y hy 0 _ rfl
    have c1 := hR1.cell pre.length y hy 1 _ rfl
    have c2 := hR1.cell pre.length y hy 2 _ rfl
    have c3 := hR1.cell pre.length y hy 3 _ rfl
    have c4 := hR1.cell pre.length y hy 4 _ rfl
    have e1 := lies_has hLx
    have e2 := lies_has (hR1.lies y (List.mem_of_getElem? hy))
    obtain ⟨at1, op, x', y', a1, dn, d1, dz⟩ := x
    obtain ⟨at2, op2, x2, y2, a2, dn2, d2, dz2⟩ := y
    simp only [ssig, Prod.mk.injEq] at hys
    obtain ⟨rfl, rfl, rfl, rfl, rfl⟩ := hys
    simp only at hya
    subst hya
    refine (clos2_any bf bn bw g baseR cr pre.length xs.length at2 op2 x2 y2 a1 a2 dn2 d1 d2 dz2 W1 (h2.cells hf hnf) h1 (h2.cells hw hnw) hyl (by omega) c0 c1 c2 c3 c4 hmay.2.2.1 e1 e2 hmay.2.2.2).mono ?_
    rintro e W2 ⟨rfl, h4, h5⟩
    exact .inl ⟨rfl, ⟨by simpa using h4, h2.trans h5⟩, hkeep h5 hs⟩
  · rintro e W' ⟨hv, h⟩
    refine ⟨hv, ?_⟩
    rcases h with ⟨ys, hA, h1, h2⟩ | ⟨pre, hrow, h⟩
    · exact ⟨by rw [h1, all_len hA hR.all], h2⟩
    · exact h.elim
end Go.Proofs.Ytnbhadfhgecajaa
