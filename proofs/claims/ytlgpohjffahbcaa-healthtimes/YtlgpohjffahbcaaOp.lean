/- What came in, opened: probes, runs. -/
import Derived.Test.YtlgpohjffahbcaaHe
import Derived.ProofKit
import Derived.ChangeOld
import Derived.JoinedCond
import Derived.Lib.SmallJoins
import Derived.ChangeMaps5
import Derived.SizedLaws
namespace Go.Proofs.Ytlgpohjffahbcaa
open Go.ChangeShapes Go.WideShapes Go.ChangeAt Go.RowKit Go.ChangeMaps Go.Deep
set_option linter.unusedVariables false
set_option linter.unusedSimpArgs false
/-- things of k cells, one behind the other -/
def Cel (w : World) (a : Option Addr) (k : Nat) (rows : List (List Value)) : Prop := rows = [] ∨ ∃ g off, a = some ⟨g, off, none⟩ ∧ ∀ (i : Nat) (r : List Value), rows[i]? = some r → ∀ (j : Nat) (u : Value), r[j]? = some u → w.cell? ⟨g, off + i * k + j, none⟩ = some u
theorem Cel.below {w w' : World} {a : Option Addr} {k : Nat} {rows : List (List Value)} (h : Cel w a k rows) (hb : Below w.heap.size w w') : Cel w' a k rows := by
  rcases h with h | ⟨g, off, h1, h2⟩
  · exact .inl h
  · exact .inr ⟨g, off, h1, fun i r hi j u hu => cell_of_below hb (h2 i r hi j u hu)⟩
theorem Cel.at_ {w : World} {a : Option Addr} {k : Nat} {α : Type} {f : α → List Value} {l : List α} (h : Cel w a k (l.map f)) {i : Nat} {x : α} (hi : l[i]? = some x) : ∃ g off, a = some ⟨g, off, none⟩ ∧ ∀ (j : Nat) (u : Value), (f x)[j]? = some u → w.cell? ⟨g, off + i * k + j, none⟩ = some u := by
  rcases h with h | ⟨g, off, h1, h2⟩
  · simp at h; subst h; simp at hi
  · exact ⟨g, off, h1, fun j u hu => h2 i (f x) (by simp [hi]) j u hu⟩
theorem own : ownKnob Try.prog.godebug = none := by kernel_rfl
theorem laidOut : laidOutB Try.prog = true := by kernel_rfl
/-- all that it holds is within reach -/
def Wb {H : Type} (t : TypeId) (d : DataW H) : Prop := ∀ n ∈ d.weights Try.prog t, n ≤ 140737488355328
theorem wb_all {H : Type} {e : TypeId} {d : DataW H} : ∀ {l : List (DataW H)}, (∀ n ∈ DataW.weightsAll Try.prog e l, n ≤ 140737488355328) → d ∈ l → Wb e d
  | x :: l, h, hd => by
    rw [DataW.weightsAll] at h
    rcases List.mem_cons.1 hd with rfl | hd
    · exact fun n hn => h n (List.mem_append.2 (.inl hn))
    · exact wb_all (fun n hn => h n (List.mem_append.2 (.inr hn))) hd
theorem wb_slice {H : Type} {t e : TypeId} (hu : Try.prog.underlying t = some (.slice e)) {l r : List (DataW H)} (h : Wb t (.slice l r)) : (l.length + r.length) * Try.prog.bytesOf e ≤ 140737488355328 ∧ ∀ d ∈ l, Wb e d := by
  unfold Wb at h
  rw [DataW.weights, hu] at h
  exact ⟨h _ (List.mem_cons_self), fun d hd => wb_all (fun n hn => h n (List.mem_cons_of_mem _ (List.mem_append.2 (.inl hn)))) hd⟩
theorem wb_each {H : Type} : ∀ {ts : List TypeId} {ds : List (DataW H)}, (∀ n ∈ DataW.weightsEach Try.prog ts ds, n ≤ 140737488355328) → ∀ (j : Nat) (t : TypeId) (d : DataW H), ts[j]? = some t → ds[j]? = some d → Wb t d
  | t :: ts, x :: ds, h, 0, t', d, ht, hd => by
    simp at ht hd
    subst ht hd
    rw [DataW.weightsEach] at h
    exact fun n hn => h n (List.mem_append.2 (.inl hn))
  | t :: ts, x :: ds, h, j + 1, t', d, ht, hd => by
    rw [DataW.weightsEach] at h
    exact wb_each (fun n hn => h n (List.mem_append.2 (.inr hn))) j t' d (by simpa using ht) (by simpa using hd)
theorem wb_agg {H : Type} {t : TypeId} {fs : Array Field} (hu : Try.prog.underlying t = some (.struct fs)) {l : List (DataW H)} (h : Wb t (.agg l)) : ∀ (j : Nat) (t' : TypeId) (d : DataW H), (fs.toList.map (·.type))[j]? = some t' → l[j]? = some d → Wb t' d := by
  unfold Wb at h
  rw [DataW.weights, hu] at h
  exact wb_each h
theorem pick_list {α : Type} (R : Nat → α → Prop) : ∀ n, (∀ i, i < n → ∃ s, R i s) → ∃ ss : List α, ss.length = n ∧ ∀ (i : Nat) (s : α), ss[i]? = some s → R i s
  | 0, _ => ⟨[], rfl, fun i s h => by simp at h⟩
  | n + 1, h => by
    obtain ⟨ss, h1, h2⟩ := pick_list R n (fun i hi => h i (by omega))
    obtain ⟨s, hs⟩ := h n (by omega)
    refine ⟨ss ++ [s], by simp [h1], fun i t ht => ?_⟩
    by_cases hi : i < n
    · rw [List.getElem?_append_left (by omega)] at ht; exact h2 i t ht
    · have hlt := (List.getElem?_eq_some_iff.1 ht).1
      simp at hlt
      obtain rfl : i = n := by omega
      rw [List.getElem?_append_right (by omega)] at ht
      simp [h1] at ht
      rw [← ht]; exact hs
theorem two_ {α : Type} {cs : List α} (h : cs.length = 2) : ∃ c0 c1, cs = [c0, c1] := by
  match cs, h with
  | [c0, c1], _ => exact ⟨c0, c1, rfl⟩
theorem three_ {α : Type} {cs : List α} (h : cs.length = 3) : ∃ c0 c1 c2, cs = [c0, c1, c2] := by
  match cs, h with
  | [c0, c1, c2], _ => exact ⟨c0, c1, c2, rfl⟩
theorem four_ {α : Type} {cs : List α} (h : cs.length = 4) : ∃ c0 c1 c2 c3, cs = [c0, c1, c2, c3] := by
  match cs, h with
  | [c0, c1, c2, c3], _ => exact ⟨c0, c1, c2, c3, rfl⟩
/-- a list of things of k cells, opened -/
theorem open_row {H : Type} {enc : TypeId × Value → H} {W : World} {fuel : Nat} {st et k : Nat} {cs : List Value} {y : DataW H × List MemPlace} (α : Type) (f : α → List Value) (Q : α → Prop) (hk : ∀ x, (f x).length = k) (hk0 : 0 < k)
    (hu : Try.prog.underlying st = some (.slice et)) (hce : Try.prog.cellsOf et = k) (hby : 0 < Try.prog.bytesOf et)
    (hel : ∀ (fuel : Nat) (cs : List Value) (z : DataW H × List MemPlace), DataW.trod enc Try.prog W 0 (fun _ => true) true fuel et cs = some z → Wb et z.1 → ∃ x : α, cs = f x ∧ Q x)
    (hf : DataW.trod enc Try.prog W 0 (fun _ => true) true fuel st cs = some y) (hb : Wb st y.1) :
    ∃ (a : Option Addr) (c : Nat) (L : List α), cs = [.slice a L.length c] ∧ Cel W a k (L.map f) ∧ (∀ x ∈ L, Q x) ∧ L.length ≤ 140737488355328 := by
  rcases DataW.trod_slice hu hf with ⟨hcs, hx⟩ | ⟨x, l, c, elems, rest, n, _, hcs, hx, _, hl, hm, hlen, hel', _⟩
  · exact ⟨none, 0, [], hcs, .inl rfl, fun x hx => (by cases hx), by simp⟩
  · subst hx
    obtain ⟨hbl, hbe⟩ := wb_slice hu hb
    simp only [List.length_map] at hbl
    have l1 : elems.length ≤ 140737488355328 := by
      have : elems.length + rest.length ≤ (elems.length + rest.length) * Try.prog.bytesOf et := Nat.le_mul_of_pos_right _ hby
      omega
    rw [hce] at hel'
    have each : ∀ i, i < l → ∃ s : α, W.cells? 0 (x.add (i * k)) k = some (f s) ∧ Q s := by
      intro i hi
      have he := hel' i hi
      obtain ⟨e, hee⟩ : ∃ e, elems[i]? = some e := ⟨elems[i]'(by omega), List.getElem?_eq_getElem _⟩
      rw [hee, Option.bind_eq_some_iff] at he
      obtain ⟨cs', hcs', hy⟩ := he
      obtain ⟨s, rfl, hB⟩ := hel _ _ _ hy (hbe e.1 (List.mem_map.2 ⟨e, List.mem_of_getElem? hee, rfl⟩))
      exact ⟨s, hcs', hB⟩
    obtain ⟨ss, hsl, hss⟩ := pick_list _ l each
    subst hsl
    refine ⟨some x, c, ss, hcs, ?_, fun s hs => ?_, by omega⟩
    · by_cases h0 : ss = []
      · exact .inl (by rw [h0]; rfl)
      · have hp : 0 < ss.length := List.length_pos_iff.2 h0
        have hcell : ∀ (i : Nat) (s : α), ss[i]? = some s → ∀ (j : Nat) (u : Value), (f s)[j]? = some u → W.cell? ((x.add (i * k)).add j) = some u := fun i s hi j u hu => by
          have hh := (hss i s hi).1
          have hj : j < k := by have := (List.getElem?_eq_some_iff.1 hu).1; rwa [hk] at this
          have := (World.cells?_some hh).2.2 j hj
          rw [this]; exact hu
        have hspot : x.spot = none := by
          have hlf : 0 < (f ss[0]).length := by rw [hk]; exact hk0
          have := hcell 0 ss[0] (List.getElem?_eq_getElem hp) 0 _ (List.getElem?_eq_getElem hlf)
          have := World.cell?_spot this
          simpa [Addr.add] using this
        obtain ⟨b, off, spot⟩ := x
        subst hspot
        refine .inr ⟨b, off, rfl, fun i r hi j u hu => ?_⟩
        simp only [List.getElem?_map, Option.map_eq_some_iff] at hi
        obtain ⟨s, hs, rfl⟩ := hi
        have := hcell i s hs j u hu
        rwa [Go.WideShapes.add_plain, Go.WideShapes.add_plain] at this
    · obtain ⟨i, hi⟩ := List.getElem?_of_mem hs
      exact (hss i s hi).2
theorem trod_float {H : Type} {enc : TypeId × Value → H} {P : Program} {w : World} {base : Nat} {spare : Nat → Bool} {held : Bool} {fuel : Nat} {t : TypeId} {cs : List Value} {x : DataW H × List MemPlace} {k : FloatKind} (ht : P.underlying t = some (.float k)) (h : DataW.trod enc P w base spare held fuel t cs = some x) : ∃ n, cs = [.float k n] ∧ x = (.lit (.float k n), []) ∧ (Lit.float k n).wf = true := by
  cases fuel with
  | zero => simp [DataW.trod] at h
  | succ n =>
    unfold DataW.trod at h
    rw [ht] at h
    split at h <;> simp_all

theorem c4 : Try.prog.cellsOf 4 = 1 := by kernel_rfl
theorem c32 : Try.prog.cellsOf 32 = 1 := by kernel_rfl
theorem c34 : Try.prog.cellsOf 34 = 2 := by kernel_rfl
theorem b34 : 0 < Try.prog.bytesOf 34 := by rw [show Try.prog.bytesOf 34 = 16 by kernel_rfl]; decide
def okP (p : Bool × Nat) : Prop := p.2 < 18446744073709551616
theorem open_pr {H : Type} {enc : TypeId × Value → H} {W : World} (fuel : Nat) (cs : List Value) (z : DataW H × List MemPlace) (hf : DataW.trod enc Try.prog W 0 (fun _ => true) true fuel 34 cs = some z) (hb : Wb 34 z.1) : ∃ t : Bool × Nat, cs = prow t ∧ okP t := by
  obtain ⟨xs, n, _, hx, hl, hlen, hff⟩ := DataW.trod_struct Try.underlying34 hf
  rw [c34] at hl
  obtain ⟨a0, a1, rfl⟩ := two_ hl
  match xs, hlen with
  | [y0, y1], _ =>
    have t0 := hff 0 _ rfl
    have t1 := hff 1 _ rfl
    simp [c4, c32] at t0 t1
    obtain ⟨b, e1, _⟩ := DataW.trod_bool Try.underlying4 t0
    obtain ⟨wt, e2, _, w2⟩ := trod_float Try.underlying32 t1
    simp at e1 e2
    subst e1 e2
    refine ⟨⟨b, wt⟩, rfl, ?_⟩
    simp [Lit.wf] at w2
    exact w2
/-- probes behind a slice -/
structure Pin (W : World) (a : Option Addr) (c : Nat) (L : List (Bool × Nat)) : Prop where
  cel : Cel W a 2 (L.map prow)
  ok : ∀ p ∈ L, p.2 < 18446744073709551616
  len : L.length ≤ 140737488355328
/-- a run -/
structure Ru where
  rise : Int
  fall : Int
  L : List (Bool × Nat)
  a : Option Addr
  c : Nat
  cp : Int
  none : Bool
def Ru.val (r : Ru) : Value := .agg #[.int .i64 r.rise, .int .i64 r.fall, .slice r.a r.L.length r.c, .int .i64 r.cp, .bool r.none]
structure Rin (W : World) (r : Ru) : Prop where
  p : Pin W r.a r.c r.L
  r1 : -9223372036854775808 ≤ r.rise ∧ r.rise ≤ 9223372036854775807
  f1 : -9223372036854775808 ≤ r.fall ∧ r.fall ≤ 9223372036854775807
  c1 : -9223372036854775808 ≤ r.cp ∧ r.cp ≤ 9223372036854775807
theorem array5 {α : Type} {cs : Array α} (h : cs.size = 5) : ∃ c0 c1 c2 c3 c4, cs = #[c0, c1, c2, c3, c4] := by
  obtain ⟨l⟩ := cs
  match l, h with
  | [c0, c1, c2, c3, c4], _ => exact ⟨c0, c1, c2, c3, c4, rfl⟩
section
variable {H : Type} {enc : TypeId × Value → H} {P : Program} {w : World} {base : Nat} {spare : Nat → Bool} {held : Bool}
open Go.Joins in
theorem open_agg5 {r : Reach} {b0 : Nat} {t : TypeId} {f0 f1 f2 f3 f4 : Field} {v : Value} {d : DataW H} {p : List MemPlace} (hs : P.underlying t = some (.struct #[f0, f1, f2, f3, f4])) (hone : oneCellFields P #[f0, f1, f2, f3, f4] = true) (hC : P.cellsOf t = 5)
    (hv : Value.okWide P w r b0 t v) (h : DataW.Trod enc P w base spare held t v d p) :
    ∃ (v0 v1 v2 v3 v4 : Value) (y0 y1 y2 y3 y4 : DataW H × List MemPlace) (n : Nat), v = .agg #[v0, v1, v2, v3, v4] ∧ d = .agg [y0.1, y1.1, y2.1, y3.1, y4.1] ∧
      DataW.trod enc P w base spare held n f0.type [v0] = some y0 ∧ DataW.trod enc P w base spare held n f1.type [v1] = some y1 ∧ DataW.trod enc P w base spare held n f2.type [v2] = some y2 ∧ DataW.trod enc P w base spare held n f3.type [v3] = some y3 ∧ DataW.trod enc P w base spare held n f4.type [v4] = some y4 := by
  obtain ⟨cs, rfl, hsz⟩ := okWide_struct hs hv
  obtain ⟨c0, c1, c2, c3, c4, rfl⟩ := array5 (hsz.trans hC)
  obtain ⟨fuel, hf⟩ := h
  obtain ⟨xs, n, _, hx, hl, hlen, hff⟩ := DataW.trod_struct hs hf
  obtain ⟨o0, k0⟩ := hone_of hone 0 f0 rfl
  obtain ⟨o1, k1⟩ := hone_of hone 1 f1 rfl
  obtain ⟨o2, k2⟩ := hone_of hone 2 f2 rfl
  obtain ⟨o3, k3⟩ := hone_of hone 3 f3 rfl
  obtain ⟨o4, k4⟩ := hone_of hone 4 f4 rfl
  match xs, hlen with
  | [y0, y1, y2, y3, y4], _ =>
    simp only [Prod.mk.injEq] at hx
    exact ⟨c0, c1, c2, c3, c4, y0, y1, y2, y3, y4, n, rfl, by simpa using hx.1, by simpa [Value.cells, o0, k0] using hff 0 f0 rfl, by simpa [Value.cells, o1, k1] using hff 1 f1 rfl, by simpa [Value.cells, o2, k2] using hff 2 f2 rfl, by simpa [Value.cells, o3, k3] using hff 3 f3 rfl, by simpa [Value.cells, o4, k4] using hff 4 f4 rfl⟩
end
theorem open_probes {H : Type} {enc : TypeId × Value → H} {W : World} {v : Value} {d : DataW H} {p : List MemPlace}
    (h : DataW.Trod enc Try.prog W 0 (fun _ => true) true 22 v d p) (hb : Wb 22 d) (a : Option Addr) (n c : Nat) (hv : v = .slice a n c) : ∃ L : List (Bool × Nat), n = L.length ∧ Pin W a c L := by
  subst hv
  obtain ⟨fuel, hf⟩ := h
  obtain ⟨a', c', L, e, p1, p2, p3⟩ := open_row (Bool × Nat) prow okP (fun _ => rfl) (by decide) Try.underlying22 c34 b34 open_pr hf hb
  have e : Value.slice a n c = .slice a' L.length c' := by simpa [Value.cells] using e
  injection e with e1 e2 e3
  subst e1 e3
  exact ⟨L, e2, p1, p2, p3⟩
set_option maxRecDepth 100000 in
theorem open_run {H : Type} {enc : TypeId × Value → H} {W : World} {v : Value} {d : DataW H} {p : List MemPlace} {base : Nat} (hv : Value.okWide Try.prog W .any base 24 v)
    (h : DataW.Trod enc Try.prog W 0 (fun _ => true) true 24 v d p) (hb : Wb 24 d) : ∃ r : Ru, v = r.val ∧ Rin W r := by
  obtain ⟨u0, u1, u2, u3, u4, y0, y1, y2, y3, y4, m, rfl, rfl, g0, g1, g2, g3, g4⟩ := open_agg5 Try.underlying24 (by kernel_rfl) (by kernel_rfl) hv h
  obtain ⟨k0, e0, _, w0⟩ := DataW.trod_int Try.underlying3 g0
  obtain ⟨k1, e1, _, w1⟩ := DataW.trod_int Try.underlying3 g1
  obtain ⟨a, c, L, e2, p1, p2, p3⟩ := open_row (Bool × Nat) prow okP (fun _ => rfl) (by decide) Try.underlying22 c34 b34 open_pr g2 (wb_agg Try.underlying24 hb 2 22 y2.1 rfl rfl)
  obtain ⟨k3, e3, _, w3⟩ := DataW.trod_int Try.underlying3 g3
  obtain ⟨b, e4, _⟩ := DataW.trod_bool Try.underlying4 g4
  have b0 := bounds_i64 w0
  have b1 := bounds_i64 w1
  have b3 := bounds_i64 w3
  obtain rfl : u0 = .int .i64 k0 := by simpa using e0
  obtain rfl : u1 = .int .i64 k1 := by simpa using e1
  obtain rfl : u2 = .slice a L.length c := by simpa using e2
  obtain rfl : u3 = .int .i64 k3 := by simpa using e3
  obtain rfl : u4 = .bool b := by simpa using e4
  exact ⟨⟨k0, k1, L, a, c, k3, b⟩, rfl, ⟨⟨p1, p2, p3⟩, ⟨b0.1, by have := b0.2; omega⟩, ⟨b1.1, by have := b1.2; omega⟩, ⟨b3.1, by have := b3.2; omega⟩⟩⟩
end Go.Proofs.Ytlgpohjffahbcaa
