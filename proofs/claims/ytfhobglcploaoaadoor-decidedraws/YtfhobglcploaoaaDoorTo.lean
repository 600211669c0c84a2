/-
  What came in, opened, with its sizes: tables.
-/
import Derived.Test.YtfhobglcploaoaaDoorTb
import Derived.ProofKit
import Derived.ChangeOld
import Derived.JoinedCond
import Derived.Lib.SmallJoins
import Derived.ChangeMaps5
import Derived.SizedLaws
namespace Go.Proofs.YtfhobglcploaoaaDoor
open Go.ChangeShapes Go.WideShapes Go.ChangeAt Go.RowKit Go.ChangeMaps
set_option linter.unusedVariables false
set_option linter.unusedSimpArgs false
theorem own : ownKnob Tryd.prog.godebug = none := by kernel_rfl
theorem laidOut : laidOutB Tryd.prog = true := by kernel_rfl
/-- all that it holds is within reach -/
def Wb {H : Type} (t : TypeId) (d : DataW H) : Prop := ∀ n ∈ d.weights Tryd.prog t, n ≤ 140737488355328
theorem wb_all {H : Type} {e : TypeId} {d : DataW H} : ∀ {l : List (DataW H)}, (∀ n ∈ DataW.weightsAll Tryd.prog e l, n ≤ 140737488355328) → d ∈ l → Wb e d
  | x :: l, h, hd => by
    rw [DataW.weightsAll] at h
    rcases List.mem_cons.1 hd with rfl | hd
    · exact fun n hn => h n (List.mem_append.2 (.inl hn))
    · exact wb_all (fun n hn => h n (List.mem_append.2 (.inr hn))) hd
theorem wb_slice {H : Type} {t e : TypeId} (hu : Tryd.prog.underlying t = some (.slice e)) {l r : List (DataW H)} (h : Wb t (.slice l r)) : (l.length + r.length) * Tryd.prog.bytesOf e ≤ 140737488355328 ∧ ∀ d ∈ l, Wb e d := by
  unfold Wb at h
  rw [DataW.weights, hu] at h
  exact ⟨h _ (List.mem_cons_self), fun d hd => wb_all (fun n hn => h n (List.mem_cons_of_mem _ (List.mem_append.2 (.inl hn)))) hd⟩
theorem wb_each {H : Type} : ∀ {ts : List TypeId} {ds : List (DataW H)}, (∀ n ∈ DataW.weightsEach Tryd.prog ts ds, n ≤ 140737488355328) → ∀ (j : Nat) (t : TypeId) (d : DataW H), ts[j]? = some t → ds[j]? = some d → Wb t d
  | t :: ts, x :: ds, h, 0, t', d, ht, hd => by
    simp at ht hd
    subst ht hd
    rw [DataW.weightsEach] at h
    exact fun n hn => h n (List.mem_append.2 (.inl hn))
  | t :: ts, x :: ds, h, j + 1, t', d, ht, hd => by
    rw [DataW.weightsEach] at h
    exact wb_each (fun n hn => h n (List.mem_append.2 (.inr hn))) j t' d (by simpa using ht) (by simpa using hd)
theorem wb_agg {H : Type} {t : TypeId} {fs : Array Field} (hu : Tryd.prog.underlying t = some (.struct fs)) {l : List (DataW H)} (h : Wb t (.agg l)) : ∀ (j : Nat) (t' : TypeId) (d : DataW H), (fs.toList.map (·.type))[j]? = some t' → l[j]? = some d → Wb t' d := by
  unfold Wb at h
  rw [DataW.weights, hu] at h
  exact wb_each h
theorem wb_str {H : Type} {s : List UInt8} (h : Wb (H := H) 9 (.lit (.string s))) : s.length ≤ 140737488355328 := h _ (by rw [DataW.weights]; simp)
theorem pick_list {α : Type} (R : Nat → α → Prop) : ∀ n, (∀ i, i < n → ∃ s, R i s) → ∃ ss : List α, ss.length = n ∧ ∀ (i : Nat) (s : α), ss[i]? = some s → R i s
  | 0, _ => ⟨[], rfl, fun i s h => by simp at h⟩
  | n + 1, h => by
    obtain ⟨ss, h1, h2⟩ := pick_list R n (fun i hi => h i (by omega))
    obtain ⟨s, hs⟩ := h n (by omega)
    refine ⟨ss ++ [s], by simp [h1], fun i t ht => ?_⟩
    by_cases hi : i < n
    · rw [List.getElem?_append_left (by omega)] at ht; exact h2 i t ht
    · have hlt := (List.getElem?_eq_some_iff.1 ht).1
      simp at hlt
      obtain rfl : i = n := by omega
      rw [List.getElem?_append_right (by omega)] at ht
      simp [h1] at ht
      rw [← ht]; exact hs
theorem two_ {α : Type} {cs : List α} (h : cs.length = 2) : ∃ c0 c1, cs = [c0, c1] := by
  match cs, h with
  | [c0, c1], _ => exact ⟨c0, c1, rfl⟩
theorem three_ {α : Type} {cs : List α} (h : cs.length = 3) : ∃ c0 c1 c2, cs = [c0, c1, c2] := by
  match cs, h with
  | [c0, c1, c2], _ => exact ⟨c0, c1, c2, rfl⟩
theorem four_ {α : Type} {cs : List α} (h : cs.length = 4) : ∃ c0 c1 c2 c3, cs = [c0, c1, c2, c3] := by
  match cs, h with
  | [c0, c1, c2, c3], _ => exact ⟨c0, c1, c2, c3, rfl⟩
/-- a list of things of k cells, opened -/
theorem open_row {H : Type} {enc : TypeId × Value → H} {W : World} {fuel : Nat} {st et k : Nat} {cs : List Value} {y : DataW H × List MemPlace} (α : Type) (f : α → List Value) (Q : α → Prop) (hk : ∀ x, (f x).length = k) (hk0 : 0 < k)
    (hu : Tryd.prog.underlying st = some (.slice et)) (hce : Tryd.prog.cellsOf et = k) (hby : 0 < Tryd.prog.bytesOf et)
    (hel : ∀ (fuel : Nat) (cs : List Value) (z : DataW H × List MemPlace), DataW.trod enc Tryd.prog W 0 (fun _ => true) true fuel et cs = some z → Wb et z.1 → ∃ x : α, cs = f x ∧ Q x)
    (hf : DataW.trod enc Tryd.prog W 0 (fun _ => true) true fuel st cs = some y) (hb : Wb st y.1) :
    ∃ (a : Option Addr) (c : Nat) (L : List α), cs = [.slice a L.length c] ∧ Cel W a k (L.map f) ∧ (∀ x ∈ L, Q x) ∧ L.length ≤ 140737488355328 := by
  rcases DataW.trod_slice hu hf with ⟨hcs, hx⟩ | ⟨x, l, c, elems, rest, n, _, hcs, hx, _, hl, hm, hlen, hel', _⟩
  · exact ⟨none, 0, [], hcs, .inl rfl, fun x hx => (by cases hx), by simp⟩
  · subst hx
    obtain ⟨hbl, hbe⟩ := wb_slice hu hb
    simp only [List.length_map] at hbl
    have l1 : elems.length ≤ 140737488355328 := by
      have : elems.length + rest.length ≤ (elems.length + rest.length) * Tryd.prog.bytesOf et := Nat.le_mul_of_pos_right _ hby
      omega
    rw [hce] at hel'
    have each : ∀ i, i < l → ∃ s : α, W.cells? 0 (x.add (i * k)) k = some (f s) ∧ Q s := by
      intro i hi
      have he := hel' i hi
      obtain ⟨e, hee⟩ : ∃ e, elems[i]? = some e := ⟨elems[i]'(by omega), List.getElem?_eq_getElem _⟩
      rw [hee, Option.bind_eq_some_iff] at he
      obtain ⟨cs', hcs', hy⟩ := he
      obtain ⟨s, rfl, hB⟩ := hel _ _ _ hy (hbe e.1 (List.mem_map.2 ⟨e, List.mem_of_getElem? hee, rfl⟩))
      exact ⟨s, hcs', hB⟩
    obtain ⟨ss, hsl, hss⟩ := pick_list _ l each
    subst hsl
    refine ⟨some x, c, ss, hcs, ?_, fun s hs => ?_, by omega⟩
    · by_cases h0 : ss = []
      · exact .inl (by rw [h0]; rfl)
      · have hp : 0 < ss.length := List.length_pos_iff.2 h0
        have hcell : ∀ (i : Nat) (s : α), ss[i]? = some s → ∀ (j : Nat) (u : Value), (f s)[j]? = some u → W.cell? ((x.add (i * k)).add j) = some u := fun i s hi j u hu => by
          have hh := (hss i s hi).1
          have hj : j < k := by have := (List.getElem?_eq_some_iff.1 hu).1; rwa [hk] at this
          have := (World.cells?_some hh).2.2 j hj
          rw [this]; exact hu
        have hspot : x.spot = none := by
          have hlf : 0 < (f ss[0]).length := by rw [hk]; exact hk0
          have := hcell 0 ss[0] (List.getElem?_eq_getElem hp) 0 _ (List.getElem?_eq_getElem hlf)
          have := World.cell?_spot this
          simpa [Addr.add] using this
        obtain ⟨b, off, spot⟩ := x
        subst hspot
        refine .inr ⟨b, off, rfl, fun i r hi j u hu => ?_⟩
        simp only [List.getElem?_map, Option.map_eq_some_iff] at hi
        obtain ⟨s, hs, rfl⟩ := hi
        have := hcell i s hs j u hu
        rwa [Go.WideShapes.add_plain, Go.WideShapes.add_plain] at this
    · obtain ⟨i, hi⟩ := List.getElem?_of_mem hs
      exact (hss i s hi).2
theorem open_str {H : Type} {enc : TypeId × Value → H} {W : World} (fuel : Nat) (cs : List Value) (z : DataW H × List MemPlace) (h : DataW.trod enc Tryd.prog W 0 (fun _ => true) true fuel 9 cs = some z) (hb : Wb 9 z.1) : ∃ s : ByteArray, cs = strR s ∧ okS s := by
  obtain ⟨nm, e1, e2, w1⟩ := DataW.trod_string Tryd.underlying9 h
  subst e1
  refine ⟨nm, rfl, ?_⟩
  rw [e2] at hb
  have := wb_str hb
  exact this
theorem str_ok {H : Type} {enc : TypeId × Value → H} {W : World} {fuel : Nat} {c : Value} {z : DataW H × List MemPlace} (h : DataW.trod enc Tryd.prog W 0 (fun _ => true) true fuel 9 [c] = some z) (hb : Wb 9 z.1) : ∃ s : ByteArray, c = .string s ∧ okS s := by
  obtain ⟨s, e, hs⟩ := open_str fuel [c] z h hb
  unfold strR at e
  injection e with e
  exact ⟨s, e, hs⟩
theorem trod_float {H : Type} {enc : TypeId × Value → H} {P : Program} {w : World} {base : Nat} {spare : Nat → Bool} {held : Bool} {fuel : Nat} {t : TypeId} {cs : List Value} {x : DataW H × List MemPlace} {k : FloatKind} (ht : P.underlying t = some (.float k)) (h : DataW.trod enc P w base spare held fuel t cs = some x) : ∃ n, cs = [.float k n] ∧ x = (.lit (.float k n), []) ∧ (Lit.float k n).wf = true := by
  cases fuel with
  | zero => simp [DataW.trod] at h
  | succ n =>
    unfold DataW.trod at h
    rw [ht] at h
    split at h <;> simp_all
theorem c9 : Tryd.prog.cellsOf 9 = 1 := by kernel_rfl
theorem c4 : Tryd.prog.cellsOf 4 = 1 := by kernel_rfl
theorem c3 : Tryd.prog.cellsOf 3 = 1 := by kernel_rfl
theorem c58 : Tryd.prog.cellsOf 27 = 1 := by kernel_rfl
theorem c48 : Tryd.prog.cellsOf 48 = 1 := by kernel_rfl
theorem c30 : Tryd.prog.cellsOf 42 = 1 := by kernel_rfl
theorem c31 : Tryd.prog.cellsOf 43 = 1 := by kernel_rfl
theorem c22 : Tryd.prog.cellsOf 22 = 1 := by kernel_rfl
theorem c23 : Tryd.prog.cellsOf 23 = 1 := by kernel_rfl
theorem c60 : Tryd.prog.cellsOf 52 = 2 := by kernel_rfl
theorem c54 : Tryd.prog.cellsOf 64 = 3 := by kernel_rfl
theorem c50 : Tryd.prog.cellsOf 50 = 3 := by kernel_rfl
theorem c33 : Tryd.prog.cellsOf 45 = 4 := by kernel_rfl
theorem b60 : 0 < Tryd.prog.bytesOf 52 := by rw [show Tryd.prog.bytesOf 52 = 24 by kernel_rfl]; decide
theorem b54 : 0 < Tryd.prog.bytesOf 64 := by rw [show Tryd.prog.bytesOf 64 = 40 by kernel_rfl]; decide
theorem b50 : 0 < Tryd.prog.bytesOf 50 := by rw [show Tryd.prog.bytesOf 50 = 56 by kernel_rfl]; decide
theorem b33 : 0 < Tryd.prog.bytesOf 45 := by rw [show Tryd.prog.bytesOf 45 = 80 by kernel_rfl]; decide
theorem b9 : 0 < Tryd.prog.bytesOf 9 := by rw [show Tryd.prog.bytesOf 9 = 16 by kernel_rfl]; decide
theorem open_sh {H : Type} {enc : TypeId × Value → H} {W : World} (fuel : Nat) (cs : List Value) (z : DataW H × List MemPlace) (hf : DataW.trod enc Tryd.prog W 0 (fun _ => true) true fuel 52 cs = some z) (hb : Wb 52 z.1) : ∃ t : Sh, cs = t.row ∧ okS t.sv := by
  obtain ⟨xs, n, _, hx, hl, hlen, hff⟩ := DataW.trod_struct Tryd.underlying52 hf
  rw [c60] at hl
  obtain ⟨a0, a1, rfl⟩ := two_ hl
  match xs, hlen with
  | [y0, y1], _ =>
    have t0 := hff 0 _ rfl
    have t1 := hff 1 _ rfl
    simp [c9, c58] at t0 t1
    rw [hx] at hb
    have W0 := wb_agg Tryd.underlying52 hb 0 9 y0.1 rfl rfl
    obtain ⟨s0, rfl, h0⟩ := str_ok t0 W0
    obtain ⟨wt, e2, _, w2⟩ := trod_float Tryd.underlying27 t1
    simp at e2
    subst e2
    exact ⟨⟨s0, wt⟩, rfl, h0⟩
theorem open_pm {H : Type} {enc : TypeId × Value → H} {W : World} (fuel : Nat) (cs : List Value) (z : DataW H × List MemPlace) (hf : DataW.trod enc Tryd.prog W 0 (fun _ => true) true fuel 64 cs = some z) (hb : Wb 64 z.1) : ∃ t : Pm, cs = t.row ∧ okS t.pa := by
  obtain ⟨xs, n, _, hx, hl, hlen, hff⟩ := DataW.trod_struct Tryd.underlying64 hf
  rw [c54] at hl
  obtain ⟨a0, a1, a2, rfl⟩ := three_ hl
  match xs, hlen with
  | [y0, y1, y2], _ =>
    have t0 := hff 0 _ rfl
    have t1 := hff 1 _ rfl
    have t2 := hff 2 _ rfl
    simp [c9, c4] at t0 t1 t2
    rw [hx] at hb
    obtain ⟨s0, rfl, h0⟩ := str_ok t0 (wb_agg Tryd.underlying64 hb 0 9 y0.1 rfl rfl)
    obtain ⟨s1, rfl, h1⟩ := str_ok t1 (wb_agg Tryd.underlying64 hb 1 9 y1.1 rfl rfl)
    obtain ⟨al, e3, _⟩ := DataW.trod_bool Tryd.underlying4 t2
    simp at e3
    subst e3
    exact ⟨⟨s0, s1, al⟩, rfl, h0⟩
theorem open_en {H : Type} {enc : TypeId × Value → H} {W : World} (fuel : Nat) (cs : List Value) (z : DataW H × List MemPlace) (hf : DataW.trod enc Tryd.prog W 0 (fun _ => true) true fuel 50 cs = some z) (hb : Wb 50 z.1) : ∃ t : En, cs = t.row ∧ Ein W t := by
  obtain ⟨xs, n, _, hx, hl, hlen, hff⟩ := DataW.trod_struct Tryd.underlying50 hf
  rw [c50] at hl
  obtain ⟨a0, a1, a2, rfl⟩ := three_ hl
  match xs, hlen with
  | [y0, y1, y2], _ =>
    have t0 := hff 0 _ rfl
    have t1 := hff 1 _ rfl
    have t2 := hff 2 _ rfl
    simp [c9, c48] at t0 t1 t2
    rw [hx] at hb
    obtain ⟨s0, rfl, h0⟩ := str_ok t0 (wb_agg Tryd.underlying50 hb 0 9 y0.1 rfl rfl)
    obtain ⟨s1, rfl, h1⟩ := str_ok t1 (wb_agg Tryd.underlying50 hb 1 9 y1.1 rfl rfl)
    obtain ⟨ea, ec, shs, e2, p1, p2, p3⟩ := open_row Sh Sh.row (fun t => okS t.sv) (fun _ => rfl) (by decide) Tryd.underlying48 c60 b60 open_sh t2 (wb_agg Tryd.underlying50 hb 2 48 y2.1 rfl rfl)
    simp at e2
    subst e2
    exact ⟨⟨s0, s1, shs, ea, ec⟩, rfl, ⟨p1, p3, h0, p2⟩⟩
theorem open_ho {H : Type} {enc : TypeId × Value → H} {W : World} (fuel : Nat) (cs : List Value) (z : DataW H × List MemPlace) (hf : DataW.trod enc Tryd.prog W 0 (fun _ => true) true fuel 45 cs = some z) (hb : Wb 45 z.1) : ∃ t : Ho, cs = t.row ∧ Hin W t := by
  obtain ⟨xs, n, _, hx, hl, hlen, hff⟩ := DataW.trod_struct Tryd.underlying45 hf
  rw [c33] at hl
  obtain ⟨a0, a1, a2, a3, rfl⟩ := four_ hl
  match xs, hlen with
  | [y0, y1, y2, y3], _ =>
    have t0 := hff 0 _ rfl
    have t1 := hff 1 _ rfl
    have t2 := hff 2 _ rfl
    have t3 := hff 3 _ rfl
    simp [c9, c30, c31] at t0 t1 t2 t3
    rw [hx] at hb
    obtain ⟨s0, rfl, h0⟩ := str_ok t0 (wb_agg Tryd.underlying45 hb 0 9 y0.1 rfl rfl)
    obtain ⟨s1, rfl, h1⟩ := str_ok t1 (wb_agg Tryd.underlying45 hb 1 9 y1.1 rfl rfl)
    obtain ⟨ea, ec, ens, e2, p1, p2, p3⟩ := open_row En En.row (Ein W) (fun _ => rfl) (by decide) Tryd.underlying42 c50 b50 open_en t2 (wb_agg Tryd.underlying45 hb 2 42 y2.1 rfl rfl)
    obtain ⟨qa, qc, pms, e3, q1, q2, q3⟩ := open_row Pm Pm.row (fun t => okS t.pa) (fun _ => rfl) (by decide) Tryd.underlying43 c54 b54 open_pm t3 (wb_agg Tryd.underlying45 hb 3 43 y3.1 rfl rfl)
    simp at e2 e3
    subst e2 e3
    exact ⟨⟨s0, s1, ens, ea, ec, pms, qa, qc⟩, rfl, ⟨p1, q1, p3, q3, p2, q2, h0, h1⟩⟩
theorem open_tab {H : Type} {enc : TypeId × Value → H} {W : World} {v : Value} {d : DataW H} {p : List MemPlace} {base : Nat} (hv : Value.okWide Tryd.prog W .any base 25 v)
    (h : DataW.Trod enc Tryd.prog W 0 (fun _ => true) true 25 v d p) (hb : Wb 25 d) :
    ∃ t : Tb, v = .agg #[.int .i64 t.ver, .slice t.ha t.hos.length t.hc, .slice t.sa t.svs.length t.sc] ∧ Tin W t := by
  obtain ⟨u0, u1, u2, y0, y1, y2, m, rfl, rfl, -, g0, g1, g2⟩ := Go.Joins.open_agg3 Tryd.underlying25 (by kernel_rfl) (by kernel_rfl) hv h
  obtain ⟨ver, e0, _, w0⟩ := DataW.trod_int Tryd.underlying3 g0
  obtain ⟨ha, hc, hos, e1, p1, p2, p3⟩ := open_row Ho Ho.row (Hin W) (fun _ => rfl) (by decide) Tryd.underlying22 c33 b33 open_ho g1 (wb_agg Tryd.underlying25 hb 1 22 y1.1 rfl rfl)
  obtain ⟨sa, sc, svs, e2, q1, _, q3⟩ := open_row ByteArray strR okS (fun _ => rfl) (by decide) Tryd.underlying23 c9 b9 open_str g2 (wb_agg Tryd.underlying25 hb 2 23 y2.1 rfl rfl)
  simp at e0 e1 e2
  subst e0 e1 e2
  exact ⟨⟨ver, hos, ha, hc, svs, sa, sc⟩, rfl, ⟨p1, q1, p3, q3, p2⟩⟩
end Go.Proofs.YtfhobglcploaoaaDoor
