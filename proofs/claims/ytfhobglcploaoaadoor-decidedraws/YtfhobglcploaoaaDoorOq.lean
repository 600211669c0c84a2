/-
  A request that came in, opened.
-/
import Derived.Test.YtfhobglcploaoaaDoorTo
import Derived.Test.YtfhobglcploaoaaDoorDd
import Derived.Lib.SmallJoins
namespace Go.Proofs.YtfhobglcploaoaaDoor
open Go.ChangeShapes Go.WideShapes Go.ChangeAt Go.RowKit Go.ChangeMaps Go.Deep
set_option linter.unusedVariables false
set_option linter.unusedSimpArgs false
theorem array7 {α : Type} {cs : Array α} (h : cs.size = 7) : ∃ c0 c1 c2 c3 c4 c5 c6, cs = #[c0, c1, c2, c3, c4, c5, c6] := by
  obtain ⟨l⟩ := cs
  match l, h with
  | [c0, c1, c2, c3, c4, c5, c6], _ => exact ⟨c0, c1, c2, c3, c4, c5, c6, rfl⟩
section
variable {H : Type} {enc : TypeId × Value → H} {P : Program} {w : World} {base : Nat} {spare : Nat → Bool} {held : Bool}
open Go.Joins in
theorem open_agg7 {r : Reach} {b0 : Nat} {t : TypeId} {f0 f1 f2 f3 f4 f5 f6 : Field} {v : Value} {d : DataW H} {p : List MemPlace} (hs : P.underlying t = some (.struct #[f0, f1, f2, f3, f4, f5, f6])) (hone : oneCellFields P #[f0, f1, f2, f3, f4, f5, f6] = true) (hC : P.cellsOf t = 7)
    (hv : Value.okWide P w r b0 t v) (h : DataW.Trod enc P w base spare held t v d p) :
    ∃ (v0 v1 v2 v3 v4 v5 v6 : Value) (y0 y1 y2 y3 y4 y5 y6 : DataW H × List MemPlace) (n : Nat), v = .agg #[v0, v1, v2, v3, v4, v5, v6] ∧ d = .agg [y0.1, y1.1, y2.1, y3.1, y4.1, y5.1, y6.1] ∧
      DataW.trod enc P w base spare held n f0.type [v0] = some y0 ∧ DataW.trod enc P w base spare held n f1.type [v1] = some y1 ∧ DataW.trod enc P w base spare held n f2.type [v2] = some y2 ∧ DataW.trod enc P w base spare held n f3.type [v3] = some y3 ∧ DataW.trod enc P w base spare held n f4.type [v4] = some y4 ∧ DataW.trod enc P w base spare held n f5.type [v5] = some y5 ∧ DataW.trod enc P w base spare held n f6.type [v6] = some y6 := by
  obtain ⟨cs, rfl, hsz⟩ := okWide_struct hs hv
  obtain ⟨c0, c1, c2, c3, c4, c5, c6, rfl⟩ := array7 (hsz.trans hC)
  obtain ⟨fuel, hf⟩ := h
  obtain ⟨xs, n, _, hx, hl, hlen, hff⟩ := DataW.trod_struct hs hf
  obtain ⟨o0, k0⟩ := hone_of hone 0 f0 rfl
  obtain ⟨o1, k1⟩ := hone_of hone 1 f1 rfl
  obtain ⟨o2, k2⟩ := hone_of hone 2 f2 rfl
  obtain ⟨o3, k3⟩ := hone_of hone 3 f3 rfl
  obtain ⟨o4, k4⟩ := hone_of hone 4 f4 rfl
  obtain ⟨o5, k5⟩ := hone_of hone 5 f5 rfl
  obtain ⟨o6, k6⟩ := hone_of hone 6 f6 rfl
  match xs, hlen with
  | [y0, y1, y2, y3, y4, y5, y6], _ =>
    simp only [Prod.mk.injEq] at hx
    exact ⟨c0, c1, c2, c3, c4, c5, c6, y0, y1, y2, y3, y4, y5, y6, n, rfl, by simpa using hx.1, by simpa [Value.cells, o0, k0] using hff 0 f0 rfl, by simpa [Value.cells, o1, k1] using hff 1 f1 rfl, by simpa [Value.cells, o2, k2] using hff 2 f2 rfl, by simpa [Value.cells, o3, k3] using hff 3 f3 rfl, by simpa [Value.cells, o4, k4] using hff 4 f4 rfl, by simpa [Value.cells, o5, k5] using hff 5 f5 rfl, by simpa [Value.cells, o6, k6] using hff 6 f6 rfl⟩
end
set_option maxRecDepth 100000 in
theorem open_rq {H : Type} {enc : TypeId × Value → H} {W : World} {v : Value} {d : DataW H} {p : List MemPlace} {base : Nat} (hv : Value.okWide Tryd.prog W .any base 30 v)
    (h : DataW.Trod enc Tryd.prog W 0 (fun _ => true) true 30 v d p) (hb : Wb 30 d) :
    ∃ q : Rq, v = .agg #[.string q.me, .string q.ho, .string q.pa, .float .f64 q.u, .int .i64 q.n, .int .u64 q.a, .int .u64 q.b] ∧ okS q.ho ∧ okS q.pa ∧ (-9223372036854775808 ≤ q.n ∧ q.n ≤ 9223372036854775807) := by
  obtain ⟨u0, u1, u2, u3, u4, u5, u6, y0, y1, y2, y3, y4, y5, y6, m, rfl, rfl, g0, g1, g2, g3, g4, g5, g6⟩ := open_agg7 Tryd.underlying30 (by kernel_rfl) (by kernel_rfl) hv h
  obtain ⟨s1, rfl, h1⟩ := str_ok g1 (wb_agg Tryd.underlying30 hb 1 9 y1.1 rfl rfl)
  obtain ⟨s2, rfl, h2⟩ := str_ok g2 (wb_agg Tryd.underlying30 hb 2 9 y2.1 rfl rfl)
  obtain ⟨s0, rfl, h0⟩ := str_ok g0 (wb_agg Tryd.underlying30 hb 0 9 y0.1 rfl rfl)
  obtain ⟨x, e3, _, w3⟩ := trod_float Tryd.underlying27 g3
  obtain ⟨k, e4, _, w4⟩ := DataW.trod_int Tryd.underlying3 g4
  obtain ⟨k5, e5, _, w5⟩ := DataW.trod_int Tryd.underlying28 g5
  obtain ⟨k6, e6, _, w6⟩ := DataW.trod_int Tryd.underlying28 g6
  have b4 := bounds_i64 w4
  obtain rfl : u3 = .float .f64 x := by simpa using e3
  obtain rfl : u4 = .int .i64 k := by simpa using e4
  obtain rfl : u5 = .int .u64 k5 := by simpa using e5
  obtain rfl : u6 = .int .u64 k6 := by simpa using e6
  exact ⟨⟨s0, s1, s2, x, k, k5, k6⟩, rfl, h1, h2, b4.1, by have := b4.2; omega⟩
end Go.Proofs.YtfhobglcploaoaaDoor
