/-
  What came in, opened, under the bound on the readings' bulk: lists of resources.
-/
import Derived.Test.YtmljljpldljpjabPu
import Derived.ProofKit
import Derived.ChangeOld
import Derived.JoinedCond
import Derived.Lib.SmallJoins
namespace Go.Proofs.Ytmljljpldljpjab
open Go.ChangeShapes Go.WideShapes Go.ChangeAt Go.RowKit
set_option linter.unusedVariables false
set_option linter.unusedSimpArgs false

theorem own : ownKnob Try.prog.godebug = none := by kernel_rfl
theorem laidOut : laidOutB Try.prog = true := by kernel_rfl
theorem bulk_one {H : Type} (d : DataW H) : 1 ≤ Rows.uptoBulk d := by
  cases d with
  | lit l => cases l <;> simp [Rows.uptoBulk]
  | nil => simp [Rows.uptoBulk]
  | ptr d => simp [Rows.uptoBulk]
  | slice elems spare => simp [Rows.uptoBulk]
  | agg parts => simp [Rows.uptoBulk]
  | iface t d => simp [Rows.uptoBulk]
  | map entries => simp [Rows.uptoBulk]
  | held h => simp [Rows.uptoBulk]
theorem bulk_lengthN {H : Type} (N : Nat) (l : List (DataW H)) (h : ∀ d ∈ l, N ≤ Rows.uptoBulk d) : l.length * N ≤ Rows.uptoBulkAll l := by
  induction l with
  | nil => simp [Rows.uptoBulkAll]
  | cons x r ih =>
    have h1 := h x (List.mem_cons_self ..)
    have h2 := ih (fun d hd => h d (List.mem_cons_of_mem _ hd))
    simp only [Rows.uptoBulkAll, List.length_cons, Nat.succ_mul]
    omega
theorem bulk_part {H : Type} {d : DataW H} {l : List (DataW H)} (h : d ∈ l) : Rows.uptoBulk d ≤ Rows.uptoBulkAll l := by
  induction l with
  | nil => cases h
  | cons x r ih =>
    simp only [Rows.uptoBulkAll]
    cases List.mem_cons.1 h with
    | inl e => subst e; omega
    | inr e => have := ih e; omega
theorem bulk_length {H : Type} (l : List (DataW H)) : l.length ≤ Rows.uptoBulkAll l := by
  induction l with
  | nil => simp [Rows.uptoBulkAll]
  | cons x r ih => have := bulk_one x; simp only [Rows.uptoBulkAll, List.length_cons]; omega
theorem pick_list {α : Type} (R : Nat → α → Prop) : ∀ n, (∀ i, i < n → ∃ s, R i s) → ∃ ss : List α, ss.length = n ∧ ∀ (i : Nat) (s : α), ss[i]? = some s → R i s
  | 0, _ => ⟨[], rfl, fun i s h => by simp at h⟩
  | n + 1, h => by
    obtain ⟨ss, h1, h2⟩ := pick_list R n (fun i hi => h i (by omega))
    obtain ⟨s, hs⟩ := h n (by omega)
    refine ⟨ss ++ [s], by simp [h1], fun i t ht => ?_⟩
    by_cases hi : i < n
    · rw [List.getElem?_append_left (by omega)] at ht; exact h2 i t ht
    · have hlt := (List.getElem?_eq_some_iff.1 ht).1
      simp at hlt
      obtain rfl : i = n := by omega
      rw [List.getElem?_append_right (by omega)] at ht
      simp [h1] at ht
      rw [← ht]; exact hs
theorem three {α : Type} {cs : List α} (h : cs.length = 3) : ∃ c0 c1 c2, cs = [c0, c1, c2] := by
  match cs, h with
  | [c0, c1, c2], _ => exact ⟨c0, c1, c2, rfl⟩
theorem four {α : Type} {cs : List α} (h : cs.length = 4) : ∃ c0 c1 c2 c3, cs = [c0, c1, c2, c3] := by
  match cs, h with
  | [c0, c1, c2, c3], _ => exact ⟨c0, c1, c2, c3, rfl⟩
theorem eight {α : Type} {cs : List α} (h : cs.length = 8) : ∃ c0 c1 c2 c3 c4 c5 c6 c7, cs = [c0, c1, c2, c3, c4, c5, c6, c7] := by
  match cs, h with
  | [c0, c1, c2, c3, c4, c5, c6, c7], _ => exact ⟨c0, c1, c2, c3, c4, c5, c6, c7, rfl⟩
/-- a list of things of k cells, opened -/
theorem open_row {H : Type} {enc : TypeId × Value → H} {W : World} {fuel : Nat} {st et k : Nat} {cs : List Value} {y : DataW H × List MemPlace} (α : Type) (f : α → List Value) (Q : α → Prop) (hk : ∀ x, (f x).length = k) (hk0 : 0 < k)
    (hu : Try.prog.underlying st = some (.slice et)) (hce : Try.prog.cellsOf et = k)
    (hel : ∀ (fuel : Nat) (cs : List Value) (z : DataW H × List MemPlace), DataW.trod enc Try.prog W 0 (fun _ => true) true fuel et cs = some z → Rows.uptoBulk z.1 ≤ 1048576 → ∃ x : α, cs = f x ∧ Q x)
    (hf : DataW.trod enc Try.prog W 0 (fun _ => true) true fuel st cs = some y) (hb : Rows.uptoBulk y.1 ≤ 1048576) :
    ∃ (a : Option Addr) (c : Nat) (L : List α), cs = [.slice a L.length c] ∧ Cel W a k (L.map f) ∧ (∀ x ∈ L, Q x) ∧ L.length ≤ 1048576 ∧ Frm a L.length c := by
  rcases DataW.trod_slice hu hf with ⟨hcs, hx⟩ | ⟨x, l, c, elems, rest, n, _, hcs, hx, _, hl, hm, hlen, hel', _⟩
  · exact ⟨none, 0, [], hcs, .inl rfl, fun x hx => (by cases hx), by simp, .inl ⟨rfl, rfl, rfl⟩⟩
  · subst hx
    simp only [Rows.uptoBulk] at hb
    have l1 := bulk_length (elems.map (·.1))
    simp only [List.length_map] at l1
    rw [hce] at hel'
    have each : ∀ i, i < l → ∃ s : α, W.cells? 0 (x.add (i * k)) k = some (f s) ∧ Q s := by
      intro i hi
      have he := hel' i hi
      obtain ⟨e, hee⟩ : ∃ e, elems[i]? = some e := ⟨elems[i]'(by omega), List.getElem?_eq_getElem _⟩
      rw [hee, Option.bind_eq_some_iff] at he
      obtain ⟨cs', hcs', hy⟩ := he
      have hbe : Rows.uptoBulk e.1 ≤ Rows.uptoBulkAll (elems.map (·.1)) := bulk_part (List.mem_map.2 ⟨e, List.mem_of_getElem? hee, rfl⟩)
      obtain ⟨s, rfl, hB⟩ := hel _ _ _ hy (by omega)
      exact ⟨s, hcs', hB⟩
    obtain ⟨ss, hsl, hss⟩ := pick_list _ l each
    subst hsl
    refine ⟨some x, c, ss, hcs, ?_, fun s hs => ?_, by omega, .inr ⟨x, rfl, hl, ?_⟩⟩
    · by_cases h0 : ss = []
      · exact .inl (by rw [h0]; rfl)
      · have hp : 0 < ss.length := List.length_pos_iff.2 h0
        have hcell : ∀ (i : Nat) (s : α), ss[i]? = some s → ∀ (j : Nat) (u : Value), (f s)[j]? = some u → W.cell? ((x.add (i * k)).add j) = some u := fun i s hi j u hu => by
          have hh := (hss i s hi).1
          have hj : j < k := by have := (List.getElem?_eq_some_iff.1 hu).1; rwa [hk] at this
          have := (World.cells?_some hh).2.2 j hj
          rw [this]; exact hu
        have hspot : x.spot = none := by
          have hlf : 0 < (f ss[0]).length := by rw [hk]; exact hk0
          have := hcell 0 ss[0] (List.getElem?_eq_getElem hp) 0 _ (List.getElem?_eq_getElem hlf)
          have := World.cell?_spot this
          simpa [Addr.add] using this
        obtain ⟨b, off, spot⟩ := x
        subst hspot
        refine .inr ⟨b, off, rfl, fun i r hi j u hu => ?_⟩
        simp only [List.getElem?_map, Option.map_eq_some_iff] at hi
        obtain ⟨s, hs, rfl⟩ := hi
        have := hcell i s hs j u hu
        rwa [Go.WideShapes.add_plain, Go.WideShapes.add_plain] at this
    · obtain ⟨i, hi⟩ := List.getElem?_of_mem hs
      exact (hss i s hi).2
    · exact hm
/-- a list of things of k cells, each of bulk N at least, opened -/
theorem open_rowN {H : Type} {enc : TypeId × Value → H} {W : World} {fuel : Nat} {st et k : Nat} {cs : List Value} {y : DataW H × List MemPlace} (α : Type) (f : α → List Value) (Q : α → Prop) (hk : ∀ x, (f x).length = k) (hk0 : 0 < k)
    (hu : Try.prog.underlying st = some (.slice et)) (hce : Try.prog.cellsOf et = k)
    (N : Nat) (hN : ∀ (fuel : Nat) (cs : List Value) (z : DataW H × List MemPlace), DataW.trod enc Try.prog W 0 (fun _ => true) true fuel et cs = some z → N ≤ Rows.uptoBulk z.1)
    (hel : ∀ (fuel : Nat) (cs : List Value) (z : DataW H × List MemPlace), DataW.trod enc Try.prog W 0 (fun _ => true) true fuel et cs = some z → Rows.uptoBulk z.1 ≤ 1048576 → ∃ x : α, cs = f x ∧ Q x)
    (hf : DataW.trod enc Try.prog W 0 (fun _ => true) true fuel st cs = some y) (hb : Rows.uptoBulk y.1 ≤ 1048576) :
    ∃ (a : Option Addr) (c : Nat) (L : List α), cs = [.slice a L.length c] ∧ Cel W a k (L.map f) ∧ (∀ x ∈ L, Q x) ∧ L.length * N ≤ 1048576 ∧ Frm a L.length c := by
  rcases DataW.trod_slice hu hf with ⟨hcs, hx⟩ | ⟨x, l, c, elems, rest, n, _, hcs, hx, _, hl, hm, hlen, hel', _⟩
  · exact ⟨none, 0, [], hcs, .inl rfl, fun x hx => (by cases hx), by simp, .inl ⟨rfl, rfl, rfl⟩⟩
  · subst hx
    simp only [Rows.uptoBulk] at hb
    rw [hce] at hel'
    have l1 : l * N ≤ Rows.uptoBulkAll (elems.map (·.1)) := by
      have := bulk_lengthN N (elems.map (·.1)) (fun d hd => by
        obtain ⟨e, he, rfl⟩ := List.mem_map.1 hd
        obtain ⟨i, hi⟩ := List.getElem?_of_mem he
        have hil : i < l := by have := (List.getElem?_eq_some_iff.1 hi).1; omega
        have h := hel' i hil
        rw [hi, Option.bind_eq_some_iff] at h
        obtain ⟨cs', _, hy⟩ := h
        exact hN _ _ _ hy)
      rw [List.length_map, hlen] at this
      exact this
    have each : ∀ i, i < l → ∃ s : α, W.cells? 0 (x.add (i * k)) k = some (f s) ∧ Q s := by
      intro i hi
      have he := hel' i hi
      obtain ⟨e, hee⟩ : ∃ e, elems[i]? = some e := ⟨elems[i]'(by omega), List.getElem?_eq_getElem _⟩
      rw [hee, Option.bind_eq_some_iff] at he
      obtain ⟨cs', hcs', hy⟩ := he
      have hbe : Rows.uptoBulk e.1 ≤ Rows.uptoBulkAll (elems.map (·.1)) := bulk_part (List.mem_map.2 ⟨e, List.mem_of_getElem? hee, rfl⟩)
      obtain ⟨s, rfl, hB⟩ := hel _ _ _ hy (by omega)
      exact ⟨s, hcs', hB⟩
    obtain ⟨ss, hsl, hss⟩ := pick_list _ l each
    subst hsl
    refine ⟨some x, c, ss, hcs, ?_, fun s hs => ?_, by omega, .inr ⟨x, rfl, hl, ?_⟩⟩
    · by_cases h0 : ss = []
      · exact .inl (by rw [h0]; rfl)
      · have hp : 0 < ss.length := List.length_pos_iff.2 h0
        have hcell : ∀ (i : Nat) (s : α), ss[i]? = some s → ∀ (j : Nat) (u : Value), (f s)[j]? = some u → W.cell? ((x.add (i * k)).add j) = some u := fun i s hi j u hu => by
          have hh := (hss i s hi).1
          have hj : j < k := by have := (List.getElem?_eq_some_iff.1 hu).1; rwa [hk] at this
          have := (World.cells?_some hh).2.2 j hj
          rw [this]; exact hu
        have hspot : x.spot = none := by
          have hlf : 0 < (f ss[0]).length := by rw [hk]; exact hk0
          have := hcell 0 ss[0] (List.getElem?_eq_getElem hp) 0 _ (List.getElem?_eq_getElem hlf)
          have := World.cell?_spot this
          simpa [Addr.add] using this
        obtain ⟨b, off, spot⟩ := x
        subst hspot
        refine .inr ⟨b, off, rfl, fun i r hi j u hu => ?_⟩
        simp only [List.getElem?_map, Option.map_eq_some_iff] at hi
        obtain ⟨s, hs, rfl⟩ := hi
        have := hcell i s hs j u hu
        rwa [Go.WideShapes.add_plain, Go.WideShapes.add_plain] at this
    · obtain ⟨i, hi⟩ := List.getElem?_of_mem hs
      exact (hss i s hi).2
    · exact hm
theorem open_str {H : Type} {enc : TypeId × Value → H} {W : World} (fuel : Nat) (cs : List Value) (z : DataW H × List MemPlace) (h : DataW.trod enc Try.prog W 0 (fun _ => true) true fuel 9 cs = some z) (hb : Rows.uptoBulk z.1 ≤ 1048576) : ∃ s : ByteArray, cs = strR s ∧ okS s := by
  obtain ⟨nm, e1, e2, w1⟩ := DataW.trod_string Try.underlying9 h
  subst e1
  refine ⟨nm, rfl, ?_⟩
  rw [e2] at hb
  simp [Rows.uptoBulk] at hb
  unfold okS
  have : nm.size = nm.data.size := rfl
  omega
theorem str_ok {H : Type} {enc : TypeId × Value → H} {W : World} {fuel : Nat} {c : Value} {z : DataW H × List MemPlace} (h : DataW.trod enc Try.prog W 0 (fun _ => true) true fuel 9 [c] = some z) (hb : Rows.uptoBulk z.1 ≤ 1048576) : ∃ s : ByteArray, c = .string s ∧ okS s := by
  obtain ⟨s, e, hs⟩ := open_str fuel [c] z h hb
  unfold strR at e
  injection e with e
  exact ⟨s, e, hs⟩
theorem trod_float {H : Type} {enc : TypeId × Value → H} {P : Program} {w : World} {base : Nat} {spare : Nat → Bool} {held : Bool} {fuel : Nat} {t : TypeId} {cs : List Value} {x : DataW H × List MemPlace} {k : FloatKind} (ht : P.underlying t = some (.float k)) (h : DataW.trod enc P w base spare held fuel t cs = some x) : ∃ n, cs = [.float k n] ∧ x = (.lit (.float k n), []) ∧ (Lit.float k n).wf = true := by
  cases fuel with
  | zero => simp [DataW.trod] at h
  | succ n =>
    unfold DataW.trod at h
    rw [ht] at h
    split at h <;> simp_all
theorem open_tg {H : Type} {enc : TypeId × Value → H} {W : World} (fuel : Nat) (cs : List Value) (z : DataW H × List MemPlace) (hf : DataW.trod enc Try.prog W 0 (fun _ => true) true fuel 46 cs = some z) (hb : Rows.uptoBulk z.1 ≤ 1048576) : ∃ t : Tg, cs = t.row ∧ (okS t.sv ∧ okS t.sp ∧ t.wt < 18446744073709551616) := by
  obtain ⟨xs, n, _, hx, hl, hlen, hff⟩ := DataW.trod_struct Try.underlying46 hf
  have hc : Try.prog.cellsOf 46 = 3 := by kernel_rfl
  have c9 : Try.prog.cellsOf 9 = 1 := by kernel_rfl
  have c44 : Try.prog.cellsOf 44 = 1 := by kernel_rfl
  rw [hc] at hl
  obtain ⟨a0, a1, a2, rfl⟩ := three hl
  match xs, hlen with
  | [y0, y1, y2], _ =>
    have t0 := hff 0 _ rfl
    have t1 := hff 1 _ rfl
    have t2 := hff 2 _ rfl
    simp [c9, c44] at t0 t1 t2
    rw [hx] at hb
    simp only [Rows.uptoBulk, Rows.uptoBulkAll, List.map_cons, List.map_nil] at hb
    obtain ⟨s0, rfl, h0⟩ := str_ok t0 (by omega)
    obtain ⟨s1, rfl, h1⟩ := str_ok t1 (by omega)
    obtain ⟨wt, e2, _, w2⟩ := trod_float Try.underlying44 t2
    simp at e2
    subst e2
    exact ⟨⟨s0, s1, wt⟩, rfl, h0, h1, by simpa [Lit.wf] using w2⟩
theorem open_ru {H : Type} {enc : TypeId × Value → H} {W : World} (fuel : Nat) (cs : List Value) (z : DataW H × List MemPlace) (hf : DataW.trod enc Try.prog W 0 (fun _ => true) true fuel 58 cs = some z) (hb : Rows.uptoBulk z.1 ≤ 1048576) : ∃ t : Ru, cs = t.row ∧ (okS t.pa ∧ okS t.me ∧ okS t.sp) := by
  obtain ⟨xs, n, _, hx, hl, hlen, hff⟩ := DataW.trod_struct Try.underlying58 hf
  have hc : Try.prog.cellsOf 58 = 4 := by kernel_rfl
  have c9 : Try.prog.cellsOf 9 = 1 := by kernel_rfl
  have c4 : Try.prog.cellsOf 4 = 1 := by kernel_rfl
  rw [hc] at hl
  obtain ⟨a0, a1, a2, a3, rfl⟩ := four hl
  match xs, hlen with
  | [y0, y1, y2, y3], _ =>
    have t0 := hff 0 _ rfl
    have t1 := hff 1 _ rfl
    have t2 := hff 2 _ rfl
    have t3 := hff 3 _ rfl
    simp [c9, c4] at t0 t1 t2 t3
    rw [hx] at hb
    simp only [Rows.uptoBulk, Rows.uptoBulkAll, List.map_cons, List.map_nil] at hb
    obtain ⟨s0, rfl, h0⟩ := str_ok t0 (by omega)
    obtain ⟨s1, rfl, h1⟩ := str_ok t1 (by omega)
    obtain ⟨s2, rfl, h2⟩ := str_ok t2 (by omega)
    obtain ⟨al, e3, _⟩ := DataW.trod_bool Try.underlying4 t3
    simp at e3
    subst e3
    exact ⟨⟨s0, s1, s2, al⟩, rfl, h0, h1, h2⟩
theorem open_rx {H : Type} {enc : TypeId × Value → H} {W : World} (fuel : Nat) (cs : List Value) (z : DataW H × List MemPlace) (hf : DataW.trod enc Try.prog W 0 (fun _ => true) true fuel 34 cs = some z) (hb : Rows.uptoBulk z.1 ≤ 1048576) : ∃ o : Rx, cs = o.row ∧ (Rin W o ∧ Bare o) := by
  obtain ⟨xs, n, _, hx, hl, hlen, hff⟩ := DataW.trod_struct Try.underlying34 hf
  have hc : Try.prog.cellsOf 34 = 8 := by kernel_rfl
  have c9 : Try.prog.cellsOf 9 = 1 := by kernel_rfl
  have c4 : Try.prog.cellsOf 4 = 1 := by kernel_rfl
  have c3 : Try.prog.cellsOf 3 = 1 := by kernel_rfl
  have c30 : Try.prog.cellsOf 30 = 1 := by kernel_rfl
  have c31 : Try.prog.cellsOf 31 = 1 := by kernel_rfl
  have c32 : Try.prog.cellsOf 32 = 1 := by kernel_rfl
  rw [hc] at hl
  obtain ⟨a0, a1, a2, a3, a4, a5, a6, a7, rfl⟩ := eight hl
  match xs, hlen with
  | [y0, y1, y2, y3, y4, y5, y6, y7], _ =>
    have t0 := hff 0 _ rfl
    have t1 := hff 1 _ rfl
    have t2 := hff 2 _ rfl
    have t3 := hff 3 _ rfl
    have t4 := hff 4 _ rfl
    have t5 := hff 5 _ rfl
    have t6 := hff 6 _ rfl
    have t7 := hff 7 _ rfl
    simp [c9, c4, c3, c30, c31, c32] at t0 t1 t2 t3 t4 t5 t6 t7
    rw [hx] at hb
    simp only [Rows.uptoBulk, Rows.uptoBulkAll, List.map_cons, List.map_nil] at hb
    obtain ⟨kd, e0, _, w0⟩ := DataW.trod_int Try.underlying3 t0
    obtain ⟨nm, rfl, h1⟩ := str_ok t1 (by omega)
    obtain ⟨ea, ec, eps, e2, p1, p2, p3, p4⟩ := open_row ByteArray strR okS strR_len (by decide) Try.underlying30 c9 open_str t2 (by omega)
    have c46 : Try.prog.cellsOf 46 = 3 := by kernel_rfl
    have c58 : Try.prog.cellsOf 58 = 4 := by kernel_rfl
    obtain ⟨ta, tc, tgs, e3, q1, q2, q3, q4⟩ := open_row Tg Tg.row (fun t => okS t.sv ∧ okS t.sp ∧ t.wt < 18446744073709551616) tg_len (by decide) Try.underlying31 c46 open_tg t3 (by omega)
    obtain ⟨host, rfl, h4⟩ := str_ok t4 (by omega)
    obtain ⟨ra, rc, rus, e5, r1, r2, r3, r4⟩ := open_row Ru Ru.row (fun t => okS t.pa ∧ okS t.me ∧ okS t.sp) ru_len (by decide) Try.underlying32 c58 open_ru t5 (by omega)
    obtain ⟨route, rfl, h6⟩ := str_ok t6 (by omega)
    obtain ⟨del, e7, _⟩ := DataW.trod_bool Try.underlying4 t7
    simp at e0 e2 e3 e5 e7
    subst e0 e2 e3 e5 e7
    have bar : ∀ {a : Option Addr} {l c : Nat}, Frm a l c → a = none → c = 0 := by
      rintro a l c (⟨_, _, h⟩ | ⟨x, h, _⟩) hn
      · exact h
      · rw [hn] at h; cases h
    exact ⟨⟨⟨kd, nm, eps, tgs, host, rus, route, del⟩, ea, ec, ta, tc, ra, rc⟩, rfl, ⟨p1, q1, r1, bounds_i64 w0, h1, h4, h6, p2, q2, r2, p3, q3, r3⟩, ⟨bar p4, bar q4, bar r4⟩⟩
theorem bulk_rx {H : Type} {enc : TypeId × Value → H} {W : World} (fuel : Nat) (cs : List Value) (z : DataW H × List MemPlace) (hf : DataW.trod enc Try.prog W 0 (fun _ => true) true fuel 34 cs = some z) : 2 ≤ Rows.uptoBulk z.1 := by
  obtain ⟨xs, n, _, hx, hl, hlen, hff⟩ := DataW.trod_struct Try.underlying34 hf
  match xs, hlen with
  | y0 :: y1 :: xs', _ =>
    rw [hx]
    simp only [Rows.uptoBulk, Rows.uptoBulkAll, List.map_cons]
    have := bulk_one y0.1
    have := bulk_one y1.1
    omega
theorem open_res {H : Type} {enc : TypeId × Value → H} {W : World} {a : Option Addr} {len cap : Nat} {d : DataW H} {p : List MemPlace} {ds : List (DataW H)} {j : Nat}
    (h : DataW.Trod enc Try.prog W 0 (fun _ => true) true 22 (.slice a len cap) d p) (hd : ds[j]? = some d) (hb : Rows.uptoBulkAll ds ≤ 1048576) :
    ∃ os : List Rx, os.length = len ∧ Lr W a os ∧ (∀ o ∈ os, Bare o) ∧ len ≤ 524288 ∧ Frm a len cap := by
  have h1 := bulk_part (List.mem_of_getElem? hd)
  obtain ⟨fuel, hf⟩ := h
  have c34 : Try.prog.cellsOf 34 = 8 := by kernel_rfl
  obtain ⟨a', c', L, e, p1, p2, p3, p4⟩ := open_rowN Rx Rx.row (fun o => Rin W o ∧ Bare o) rx_len (by decide) Try.underlying22 c34 2 bulk_rx open_rx hf (by show Rows.uptoBulk d ≤ 1048576; omega)
  simp [Value.cells] at e
  obtain ⟨rfl, rfl, rfl⟩ := e
  exact ⟨L, rfl, ⟨fun o ho => (p2 o ho).1, p1⟩, fun o ho => (p2 o ho).2, by omega, p4⟩
end Go.Proofs.Ytmljljpldljpjab
