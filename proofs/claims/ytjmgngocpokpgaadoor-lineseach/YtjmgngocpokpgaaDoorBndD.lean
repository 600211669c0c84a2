import Derived.Test.YtjmgngocpokpgaaDoorBndC
import Derived.Test.YtjmgngocpokpgaaDoorOpen
import Derived.Test.YtjmgngocpokpgaaDoorCards
import Derived.Test.YtjmgngocpokpgaaDoorTie
import Derived.SevenTiedAt
import Derived.Deep.DeepHandedRow
import Derived.Lay
/-
  A round of the statement over what is told.
-/
namespace Go.Proofs.YtjmgngocpokpgaaDoor
open Go.RowKit
set_option linter.unusedVariables false
set_option linter.unusedSimpArgs false
/-- What stands so far. -/
def Jr (w : World) (B p1 p2 p3 p4 p5 p6 p7 N0 : Nat) (vw : Value) (T0 : List Tk) (fd fl fe r most : Int) (W0 : World) (pre : List Tl) (W : World) : Prop := Jc w B p1 p2 p3 p4 p5 p6 p7 N0 vw T0 fd fl fe r most (cnt pre) (endd pre) W ∧ Kx [p1, p2, p3] W0 W
def Jy (w : World) (B p1 p2 p3 p4 p5 p6 p7 N0 : Nat) (vw : Value) (T0 : List Tk) (fd fl fe r most : Int) (W0 : World) (pre : List Tl) (W : World) : Prop := Jr w B p1 p2 p3 p4 p5 p6 p7 N0 vw T0 fd fl fe r most W0 pre W ∧ r ≤ 0 ∧ (cnt pre : Int) = most ∧ 0 < cnt pre
theorem yield_any (w : World) (B p1 p2 p3 p4 p5 p6 p7 N0 : Nat) (aw : Option Addr) (cw : Nat) (T0 : List Tk) (fd fl fe r most : Int) (W0 : World) (A : List Tl) (hA : Shp A T0) (hN : T0.length = N0) (hNl : N0 ≤ 65537) (hF : fltOf A = (fd, fl, fe)) (hav : 0 < N0 → ∃ g, aw = some ⟨g, 0, none⟩) (pre : List Tl) (x : Tl) (W1 : World) (hp : pre ++ [x] <+: A)
    (hJ : Jr w B p1 p2 p3 p4 p5 p6 p7 N0 (.slice aw N0 cw) T0 fd fl fe r most W0 pre W1) :
    Calls Tryd.prog 16 #[.agg #[.int .i64 x.tk.kind, .int .i64 x.tk.line, .int .i64 x.tk.col, .string ⟨x.tk.text.toArray⟩, .bool x.tk.q], .agg #[.int .i64 x.d, .int .i64 x.ln, .int .i64 x.e], .pointer (some ⟨p1, 0, none⟩), .pointer (some ⟨p2, 0, none⟩), .pointer (some ⟨p3, 0, none⟩), .pointer (some ⟨p4, 0, none⟩), .pointer (some ⟨p5, 0, none⟩), .pointer (some ⟨p6, 0, none⟩), .pointer (some ⟨p7, 0, none⟩)] W1 fun e W' =>
      (e = .returned (.bool true) ∧ Jr w B p1 p2 p3 p4 p5 p6 p7 N0 (.slice aw N0 cw) T0 fd fl fe r most W0 (pre ++ [x]) W' ∧ Kx [p1, p2, p3] W1 W') ∨ (e = .returned (.bool false) ∧ Jy w B p1 p2 p3 p4 p5 p6 p7 N0 (.slice aw N0 cw) T0 fd fl fe r most W0 (pre ++ [x]) W') := by
  obtain ⟨hJ, hK⟩ := hJ
  by_cases hx : x.e = 0
  · obtain ⟨h1, h2, h3, h4⟩ := step_ok hA hp hx
    have hlt : cnt pre < N0 := by rw [← hN]; exact (List.getElem?_eq_some_iff.1 h2).1
    obtain ⟨g, rfl⟩ := hav (by omega)
    rw [h1] at hJ
    obtain ⟨t, rfl⟩ : ∃ t, x = okT t := by
      rcases shp_step hA hp with ⟨_, t, h, _⟩ | ⟨h, _⟩
      · exact ⟨t, h⟩
      · exact absurd hx h
    refine (clos_ok w B p1 p2 p3 p4 p5 p6 p7 N0 g cw T0 fd fl fe r most (cnt pre) t W1 hNl hlt h2 (decide (0 < r ∨ ((cnt pre : Int) + 1) ≠ most)) rfl hJ).mono ?_
    rintro e W' ⟨rfl, hJ', hK'⟩
    have hj : Jr w B p1 p2 p3 p4 p5 p6 p7 N0 (.slice (some ⟨g, 0, none⟩) N0 cw) T0 fd fl fe r most W0 (pre ++ [okT t]) W' := ⟨by rw [h3, h4]; exact hJ', hK.trans hK'⟩
    by_cases hb : 0 < r ∨ ((cnt pre : Int) + 1) ≠ most
    · left
      exact ⟨by rw [decide_eq_true hb], hj, hK'⟩
    · right
      refine ⟨by rw [decide_eq_false hb], hj, by omega, by rw [h3]; omega, by rw [h3]; omega⟩
  · obtain ⟨h1, h2, h3, h4, h5, h6⟩ := step_bad hA hp hx
    rw [hF] at h3
    have e1 : fd = x.d := congrArg Prod.fst h3
    have e2 : fl = x.ln := congrArg (fun q => q.2.1) h3
    have e3 : fe = x.e := congrArg (fun q => q.2.2) h3
    rw [h1, h2, hN] at hJ
    rw [h4, ← e1, ← e2, ← e3]
    refine (clos_bad w B p1 p2 p3 p4 p5 p6 p7 N0 aw cw T0 fd fl fe r most W1 (by rw [e3]; exact hx) hJ).mono ?_
    rintro e W' ⟨rfl, hJ', hK'⟩
    left
    exact ⟨rfl, ⟨by rw [h5, h6, hN]; exact hJ', hK.trans hK'⟩, hK'⟩
/-- Behind a round. -/
def Rnd (w : World) (B p1 p2 p3 p4 p5 p6 p7 N0 : Nat) (vw : Value) (T0 : List Tk) (fd fl fe r most : Int) (W0 : World) (e : Ending) (W : World) : Prop := ∃ v n en, e = .returned v ∧ Jc w B p1 p2 p3 p4 p5 p6 p7 N0 vw T0 fd fl fe r most n en W ∧ Kx [p1, p2, p3] W0 W ∧ n ≤ N0 ∧ ((n = N0 ∧ en = decide (fe ≠ 0)) ∨ (r ≤ 0 ∧ (n : Int) = most ∧ 0 < n))
theorem rnd_of {w : World} {B p1 p2 p3 p4 p5 p6 p7 N0 : Nat} {vw : Value} {T0 : List Tk} {fd fl fe r most : Int} {W0 W : World} {A : List Tl} {e : Ending} (hA : Shp A T0) (hN : T0.length = N0) (hF : fltOf A = (fd, fl, fe)) (h : (∃ v, e = .returned v) ∧ (Jr w B p1 p2 p3 p4 p5 p6 p7 N0 vw T0 fd fl fe r most W0 A W ∨ ∃ pre, pre <+: A ∧ Jy w B p1 p2 p3 p4 p5 p6 p7 N0 vw T0 fd fl fe r most W0 pre W)) : Rnd w B p1 p2 p3 p4 p5 p6 p7 N0 vw T0 fd fl fe r most W0 e W := by
  obtain ⟨⟨v, hv⟩, h | ⟨pre, hp, ⟨h, hk⟩, h2, h3, h4⟩⟩ := h
  · have e1 : cnt A = N0 := by unfold cnt; rw [shp_pre hA, hN]
    have e2 : endd A = decide (fe ≠ 0) := by rw [shp_endd hA, hF]
    exact ⟨v, cnt A, endd A, hv, h.1, h.2, by omega, .inl ⟨e1, e2⟩⟩
  · exact ⟨v, cnt pre, endd pre, hv, h, hk, by rw [← hN]; exact cnt_le hA hp, .inr ⟨h2, h3, h4⟩⟩
theorem rnd27 (w : World) (B p1 p2 p3 p4 p5 p6 p7 N0 : Nat) (aw : Option Addr) (cw : Nat) (T0 : List Tk) (fd fl fe r most : Int) (W0 : World) (l : List UInt8) (hl : l.length ≤ 65536) (mm : Int) (Bn : Nat) (hA : Shp (allF l) T0) (hN : T0.length = N0) (hNl : N0 ≤ 65537) (hF : fltOf (allF l) = (fd, fl, fe)) (hav : 0 < N0 → ∃ g, aw = some ⟨g, 0, none⟩)
    (hJ : Jc w B p1 p2 p3 p4 p5 p6 p7 N0 (.slice aw N0 cw) T0 fd fl fe r most 0 false W0) (hw : 0 < w.heap.size) (hm : W0.cell? ⟨0, 0, none⟩ = some (.int .i64 mm)) (hcB : W0.cell? ⟨Bn, 0, none⟩ = some (.string ⟨l.toArray⟩)) :
    Calls Tryd.prog 27 #[.func (.func 16) #[] #[.pointer (some ⟨p1, 0, none⟩), .pointer (some ⟨p2, 0, none⟩), .pointer (some ⟨p3, 0, none⟩), .pointer (some ⟨p4, 0, none⟩), .pointer (some ⟨p5, 0, none⟩), .pointer (some ⟨p6, 0, none⟩), .pointer (some ⟨p7, 0, none⟩)], .pointer (some ⟨Bn, 0, none⟩)] W0 (Rnd w B p1 p2 p3 p4 p5 p6 p7 N0 (.slice aw N0 cw) T0 fd fl fe r most W0) := by
  obtain ⟨l1, l2, l3, _⟩ := hJ.lts
  have g1 := hJ.low1
  have g2 := hJ.low2
  have g3 := hJ.low3
  refine (eachc p1 p2 p3 p4 p5 p6 p7 Bn l hl mm [p1, p2, p3] (Jr w B p1 p2 p3 p4 p5 p6 p7 N0 (.slice aw N0 cw) T0 fd fl fe r most W0) (Jy w B p1 p2 p3 p4 p5 p6 p7 N0 (.slice aw N0 cw) T0 fd fl fe r most W0) W0 ?_ ?_ ?_ ?_ hcB ?_).mono ?_
  · intro k hk
    simp at hk
    omega
  · simp
    omega
  · rintro pre X Y ⟨h1, h2⟩ hb
    exact ⟨h1.below hb, h2.trans (Kx.of_below hb)⟩
  · intro pre x W1 h1 h2
    exact yield_any w B p1 p2 p3 p4 p5 p6 p7 N0 aw cw T0 fd fl fe r most W0 _ hA hN hNl hF hav pre x W1 h2 h1
  · exact ⟨⟨hJ, Kx.refl _ _⟩, hm, Kx.refl _ _⟩
  · intro e W h
    exact rnd_of hA hN hF h
theorem rnd26 (w : World) (B p1 p2 p3 p4 p5 p6 p7 N0 : Nat) (aw : Option Addr) (cw : Nat) (T0 : List Tk) (fd fl fe r most : Int) (W0 : World) (hA : Shp [longT] T0) (hN : T0.length = N0) (hNl : N0 ≤ 65537) (hF : fltOf [longT] = (fd, fl, fe)) (hav : 0 < N0 → ∃ g, aw = some ⟨g, 0, none⟩)
    (hJ : Jc w B p1 p2 p3 p4 p5 p6 p7 N0 (.slice aw N0 cw) T0 fd fl fe r most 0 false W0) :
    Calls Tryd.prog 26 #[.func (.func 16) #[] #[.pointer (some ⟨p1, 0, none⟩), .pointer (some ⟨p2, 0, none⟩), .pointer (some ⟨p3, 0, none⟩), .pointer (some ⟨p4, 0, none⟩), .pointer (some ⟨p5, 0, none⟩), .pointer (some ⟨p6, 0, none⟩), .pointer (some ⟨p7, 0, none⟩)]] W0 (Rnd w B p1 p2 p3 p4 p5 p6 p7 N0 (.slice aw N0 cw) T0 fd fl fe r most W0) := by
  refine (eachl p1 p2 p3 p4 p5 p6 p7 (Jr w B p1 p2 p3 p4 p5 p6 p7 N0 (.slice aw N0 cw) T0 fd fl fe r most W0) (Jy w B p1 p2 p3 p4 p5 p6 p7 N0 (.slice aw N0 cw) T0 fd fl fe r most W0) W0 ?_).mono ?_
  · refine (yield_any w B p1 p2 p3 p4 p5 p6 p7 N0 aw cw T0 fd fl fe r most W0 _ hA hN hNl hF hav [] longT W0 (List.prefix_refl _) ⟨hJ, Kx.refl _ _⟩).mono ?_
    rintro e W (⟨h1, h2, _⟩ | ⟨h1, h2⟩)
    · exact .inl ⟨h1, h2⟩
    · exact .inr ⟨h1, h2⟩
  · intro e W h
    exact rnd_of hA hN hF h
theorem equalIn_func_nil (d : Nat) (f : Fn) (cs : Array Value) (w : World) : (Op.equalIn (d + 1) 43 (.func f #[] cs) .nilFunc).run Tryd.prog w = .ok false w := by
  simp [Op.equalIn, run_underlying Tryd.underlying43]
theorem func_nil (f : Fn) (cs : Array Value) (w : World) : (binOp BinOp.eql 43 (.func f #[] cs) .nilFunc).run Tryd.prog w = .ok (.bool false) w := by
  simp only [binOp]
  simp [Op.equal, Op.maxDepth, equalIn_func_nil 9999 f cs w]
theorem each_long15 (a : Option Addr) (n cap : Nat) (w : World) (h : 65536 < n) (hl : n ≤ 140737488351232) : Calls Tryd.prog 15 #[.slice a n cap] w fun e w' => e = .returned (.func (.func 26) #[] #[]) ∧ w' = w := by
  have h' : (65536 : Int) < n := by omega
  go_enter Tryd.func15, Tryd.ntmps15
  go_wp2
  go_ret
  exact ⟨rfl, rfl⟩
theorem each_short15 (a : Option Addr) (n cap : Nat) (l : List UInt8) (w : World) (h : ¬ 65536 < n) (hn : l.length = n) (hB : Has w a (zL l)) : Calls Tryd.prog 15 #[.slice a n cap] w fun e w' => e = .returned (.func (.func 27) #[] #[.pointer (some ⟨w.heap.size, 0, none⟩)]) ∧ w' = w.alloc (.cells #[.string ⟨l.toArray⟩] 9 (0, 0)) := by
  have h' : ¬ (65536 : Int) < n := by omega
  have hcv := str_has w a n cap l hn hB
  clear hn hB
  go_enter Tryd.func15, Tryd.ntmps15
  go_wp2
  go_ret
  exact ⟨rfl, rfl⟩
end Go.Proofs.YtjmgngocpokpgaaDoor

/-
  LinesEach.
-/
namespace Go.Proofs.YtjmgngocpokpgaaDoor
open Go.RowKit
set_option linter.unusedVariables false
set_option linter.unusedSimpArgs false
/-- What stands ahead of a round. -/
structure Bx (w : World) (B p4 p5 p6 p7 N0 : Nat) (vw : Value) (T0 : List Tk) (fd fl fe r most : Int) (W : World) : Prop where
  want : W.heap[p4]? = some (.cells #[vw] 23 (0, 0))
  flt : W.heap[p5]? = some (.cells #[.int .i64 fd, .int .i64 fl, .int .i64 fe] 25 (0, 0))
  rnd : W.heap[p6]? = some (.cells #[.int .i64 r] 3 (0, 0))
  most : W.heap[p7]? = some (.cells #[.int .i64 most] 3 (0, 0))
  row : W.ownsRow B 40 5 vw N0 (T0.flatMap Tk.row)
  bel : Below w.heap.size w W
theorem Bx.below {w : World} {B p4 p5 p6 p7 N0 : Nat} {vw : Value} {T0 : List Tk} {fd fl fe r most : Int} {W W' : World} (h : Bx w B p4 p5 p6 p7 N0 vw T0 fd fl fe r most W) (hb : Below W.heap.size W W') : Bx w B p4 p5 p6 p7 N0 vw T0 fd fl fe r most W' := by
  have k : ∀ {q o}, W.heap[q]? = some o → W'.heap[q]? = some o := fun hq => (hb.block _ (Array.getElem?_eq_some_iff.1 hq).1).trans hq
  exact ⟨k h.want, k h.flt, k h.rnd, k h.most, own_blk h.row (fun q hq => hb.block q (h.row.lt q hq).2), h.bel.trans (hb.mono h.bel.size)⟩
theorem Bx.jc {w : World} {B p4 p5 p6 p7 N0 : Nat} {vw : Value} {T0 : List Tk} {fd fl fe r most : Int} {W : World} (h : Bx w B p4 p5 p6 p7 N0 vw T0 fd fl fe r most W) :
    Jc w B (W.heap.size + 1) (W.heap.size + 2) W.heap.size p4 p5 p6 p7 N0 vw T0 fd fl fe r most 0 false (((W.alloc (.cells #[.int .i64 0] 3 (0, 0))).alloc (.cells #[.bool true] 4 (0, 0))).alloc (.cells #[.bool false] 4 (0, 0))) := by
  have hb : Below W.heap.size W (((W.alloc (.cells #[.int .i64 0] 3 (0, 0))).alloc (.cells #[.bool true] 4 (0, 0))).alloc (.cells #[.bool false] 4 (0, 0))) := (((Below.refl _ W).alloc (Nat.le_refl _) _).alloc (by simp) _).alloc (by simp; omega) _
  have h2 := h.below hb
  have hs := h.bel.size
  have q6 := (Array.getElem?_eq_some_iff.1 h.rnd).1
  have q7 := (Array.getElem?_eq_some_iff.1 h.most).1
  have a1 := Go.heap_alloc_new W (.cells #[.int .i64 0] 3 (0, 0))
  have a2 := Go.heap_alloc_new (W.alloc (.cells #[.int .i64 0] 3 (0, 0))) (.cells #[.bool true] 4 (0, 0))
  have a3 := Go.heap_alloc_new ((W.alloc (.cells #[.int .i64 0] 3 (0, 0))).alloc (.cells #[.bool true] 4 (0, 0))) (.cells #[.bool false] 4 (0, 0))
  have s1 : (W.alloc (.cells #[.int .i64 0] 3 (0, 0))).heap.size = W.heap.size + 1 := by simp
  have s2 : ((W.alloc (.cells #[.int .i64 0] 3 (0, 0))).alloc (.cells #[.bool true] 4 (0, 0))).heap.size = W.heap.size + 2 := by simp
  rw [s1] at a2
  rw [s2] at a3
  have o1 : (((W.alloc (.cells #[.int .i64 0] 3 (0, 0))).alloc (.cells #[.bool true] 4 (0, 0))).alloc (.cells #[.bool false] 4 (0, 0))).heap[W.heap.size]? = some (.cells #[.int .i64 0] 3 (0, 0)) := (Go.heap_alloc_old _ _ (by rw [s2]; omega)).trans ((Go.heap_alloc_old _ _ (by rw [s1]; omega)).trans a1)
  have o2 : (((W.alloc (.cells #[.int .i64 0] 3 (0, 0))).alloc (.cells #[.bool true] 4 (0, 0))).alloc (.cells #[.bool false] 4 (0, 0))).heap[W.heap.size + 1]? = some (.cells #[.bool true] 4 (0, 0)) := (Go.heap_alloc_old _ _ (by rw [s2]; omega)).trans a2
  exact ⟨o2, a3, o1, h2.want, h2.flt, h2.rnd, h2.most, h2.row, h2.bel, by omega, by omega, hs, by omega, by omega, by omega⟩
theorem Bx.of {w : World} {B p1 p2 p3 p4 p5 p6 p7 N0 : Nat} {vw : Value} {T0 : List Tk} {fd fl fe r most : Int} {n : Nat} {en : Bool} {W : World} (h : Jc w B p1 p2 p3 p4 p5 p6 p7 N0 vw T0 fd fl fe r most n en W) : Bx w B p4 p5 p6 p7 N0 vw T0 fd fl fe r most W := ⟨h.want, h.flt, h.rnd, h.most, h.row, h.bel⟩
/-- What stands ahead of all rounds. -/
structure Px (w : World) (B p4 p5 p7 N0 : Nat) (vw : Value) (T0 : List Tk) (fd fl fe most : Int) (W : World) : Prop where
  want : W.heap[p4]? = some (.cells #[vw] 23 (0, 0))
  flt : W.heap[p5]? = some (.cells #[.int .i64 fd, .int .i64 fl, .int .i64 fe] 25 (0, 0))
  most : W.heap[p7]? = some (.cells #[.int .i64 most] 3 (0, 0))
  row : W.ownsRow B 40 5 vw N0 (T0.flatMap Tk.row)
  bel : Below w.heap.size w W
theorem Px.below {w : World} {B p4 p5 p7 N0 : Nat} {vw : Value} {T0 : List Tk} {fd fl fe most : Int} {W W' : World} (h : Px w B p4 p5 p7 N0 vw T0 fd fl fe most W) (hb : Below W.heap.size W W') : Px w B p4 p5 p7 N0 vw T0 fd fl fe most W' := by
  have k : ∀ {q o}, W.heap[q]? = some o → W'.heap[q]? = some o := fun hq => (hb.block _ (Array.getElem?_eq_some_iff.1 hq).1).trans hq
  exact ⟨k h.want, k h.flt, k h.most, own_blk h.row (fun q hq => hb.block q (h.row.lt q hq).2), h.bel.trans (hb.mono h.bel.size)⟩
theorem Px.bx {w : World} {B p4 p5 p7 N0 : Nat} {vw : Value} {T0 : List Tk} {fd fl fe most : Int} {W : World} (h : Px w B p4 p5 p7 N0 vw T0 fd fl fe most W) (r : Int) : Bx w B p4 p5 W.heap.size p7 N0 vw T0 fd fl fe r most (W.alloc (.cells #[.int .i64 r] 3 (0, 0))) := by
  have h2 := h.below ((Below.refl _ W).alloc (Nat.le_refl _) (.cells #[.int .i64 r] 3 (0, 0)))
  exact ⟨h2.want, h2.flt, Go.heap_alloc_new W _, h2.most, h2.row, h2.bel⟩
theorem px_first {w w1 : World} {N0 : Nat} {vw : Value} {T0 : List Tk} {fd fl fe most : Int} (hr : w1.ownsRow (w.alloc (.cells #[.int .i64 most] 3 (0, 0))).heap.size 40 5 vw N0 (T0.flatMap Tk.row)) (hb : Below w.heap.size w w1) (hk : w1.heap[w.heap.size]? = some (.cells #[.int .i64 most] 3 (0, 0))) :
    Px w w.heap.size w1.heap.size (w1.heap.size + 1) w.heap.size N0 vw T0 fd fl fe most ((w1.alloc (.cells #[vw] 23 (0, 0))).alloc (.cells #[.int .i64 fd, .int .i64 fl, .int .i64 fe] 25 (0, 0))) := by
  have b : Below w1.heap.size w1 ((w1.alloc (.cells #[vw] 23 (0, 0))).alloc (.cells #[.int .i64 fd, .int .i64 fl, .int .i64 fe] 25 (0, 0))) := ((Below.refl _ w1).alloc (Nat.le_refl _) _).alloc (by simp) _
  have s1 : (w1.alloc (.cells #[vw] 23 (0, 0))).heap.size = w1.heap.size + 1 := by simp
  have a2 := Go.heap_alloc_new (w1.alloc (.cells #[vw] 23 (0, 0))) (.cells #[.int .i64 fd, .int .i64 fl, .int .i64 fe] 25 (0, 0))
  rw [s1] at a2
  refine ⟨(Go.heap_alloc_old _ _ (by rw [s1]; omega)).trans (Go.heap_alloc_new w1 _), a2, (b.block _ (Array.getElem?_eq_some_iff.1 hk).1).trans hk, own_blk (own_low hr (by simp)) (fun q hq => b.block q (hr.lt q hq).2), hb.trans (b.mono hb.size)⟩
theorem Bx.px {w : World} {B p4 p5 p6 p7 N0 : Nat} {vw : Value} {T0 : List Tk} {fd fl fe r most : Int} {W : World} (h : Bx w B p4 p5 p6 p7 N0 vw T0 fd fl fe r most W) : Px w B p4 p5 p7 N0 vw T0 fd fl fe most W := ⟨h.want, h.flt, h.most, h.row, h.bel⟩
theorem scn_few (l : List UInt8) : (preT (scnF l)).length ≤ 65537 := by
  have h : (scnF l).length ≤ 65537 := by
    unfold scnF
    split
    · simp
    · have := linF_few (l.length + 1) l 1 0
      unfold allF
      omega
  unfold preT
  rw [List.length_map]
  exact Nat.le_trans (List.takeWhile_sublist _).length_le h
def rOf (t : Value) (w : World) : Nat := match t with
  | .pointer (some a) => (match w.cell? a with | some (.int _ x) => x.toNat | _ => 0)
  | _ => 0
theorem rOf_of {w : World} {a : Addr} {x : Int} {k : Nat} (h : w.cell? a = some (.int .i64 x)) (hk : x.toNat = k) : rOf (.pointer (some a)) w = k := by
  simp only [rOf, h]
  exact hk
theorem lt_eq {a b c : Nat} (h : a = b) (k : b < c) : a < c := h ▸ k
set_option maxRecDepth 100000 in
set_option maxHeartbeats 8000000 in
theorem eaches_any (a : Option Addr) (n cap : Nat) (l : List UInt8) (most : Int) (w : World) (hm : HasM w) (hn : l.length = n) (hB : Has w a (zL l)) (hl : n ≤ 140737488351232) (hcap : n ≤ cap) :
    Calls Tryd.prog 4 #[.slice a n cap, .int .i64 most] w fun e w' => e = .returned (.bool true) ∧ Below w.heap.size w w' := by
  have hw0 := hm.lt
  obtain ⟨A, hA⟩ : ∃ A, scnF l = A := ⟨_, rfl⟩
  obtain ⟨T0, hS0⟩ := scnF_shape l
  rw [hA] at hS0
  have hT0 := shp_pre hS0
  obtain ⟨fd, fl, fe, hF⟩ : ∃ fd fl fe, fltOf A = (fd, fl, fe) := ⟨_, _, _, rfl⟩
  obtain ⟨N0, hN0⟩ : ∃ N, T0.length = N := ⟨_, rfl⟩
  have b0 : Below w.heap.size w (w.alloc (.cells #[.int .i64 most] 3 (0, 0))) := (Below.refl _ w).alloc (Nat.le_refl _) _
  have k0 := Go.heap_alloc_new w (.cells #[.int .i64 most] 3 (0, 0))
  have c9 := rscan_any a n cap l (w.alloc (.cells #[.int .i64 most] 3 (0, 0))) hn (hB.of_below b0) (by unfold maxLen; omega) hcap T0 fd fl fe N0 hN0 (by rw [hA]; exact hT0) (by rw [hA]; exact hF)
  have HA := hide2 hA
  have HS0 := hide2 hS0
  have HF := hide2 hF
  have HN := hide2 hN0
  have Hn := hide2 hn
  have HB := hide2 hB
  have HM := hide2 hm
  have hNl : N0 ≤ 65537 := by rw [← hN0, ← hT0, ← hA]; exact scn_few l
  clear hA hT0 hS0 hF hN0 hn hB hm
  go_enter Tryd.func4, Tryd.ntmps4
  go_wp2_with fail
  refine c9.mono ?_
  rintro e w1 ⟨aw, cw, rfl, hrw, haw, b1⟩
  have HRW := hide2 hrw
  have hs0 : (w.alloc (.cells #[.int .i64 most] 3 (0, 0))).heap.size = w.heap.size + 1 := by simp
  have B1 : Below w.heap.size w w1 := b0.trans (b1.mono b0.size)
  have k1 := (b1.block _ (by rw [hs0]; omega)).trans k0
  have s1 := b1.size
  rw [hs0] at s1
  have HB1 := hide2 B1
  have HK1 := hide2 k1
  clear hrw b1 b0 k0 B1 k1 c9 hs0
  have HP2 := hide2 (px_first (fd := fd) (fl := fl) (fe := fe) HRW.out HB1.out HK1.out)
  clear HRW HK1
  by_cases hlong : 65536 < n
  · go_wp2_with fail
    obtain ⟨w2, hw2⟩ : ∃ W, (w1.alloc (.cells #[.slice aw N0 cw] 23 (0, 0))).alloc (.cells #[.int .i64 fd, .int .i64 fl, .int .i64 fe] 25 (0, 0)) = W := ⟨_, rfl⟩
    rw [hw2] at HP2 ⊢
    clear hw2
    refine (each_long15 a n cap w2 hlong hl).mono ?_
    rintro e w3 ⟨rfl, hw3⟩
    obtain rfl := hw3.symm
    have hq : ∀ W : World, (binOp BinOp.eql 43 (.func (.func 26) #[] #[]) .nilFunc).run Tryd.prog W = .ok (.bool false) W := fun W => func_nil _ _ W
    have HBX := hide2 (HP2.out.bx 0)
    have HAL : Hid (A = [longT]) := by show _ = _; rw [← HA.out]; unfold scnF; rw [if_pos (by have := Hn.out; omega)]
    go_wp2_with fail
    clear hq
    go_loopw [8] (fun t8 wr => ∃ (p6 r : Nat), t8 = .pointer (some ⟨p6, 0, none⟩) ∧ r ≤ 2 ∧ Hid (Bx w w.heap.size w1.heap.size (w1.heap.size + 1) p6 w.heap.size N0 (.slice aw N0 cw) T0 fd fl fe r most wr)) (fun t8 wr => 2 - rOf t8 wr)
    case atStart => exact ⟨_, 0, rfl, by omega, HBX⟩
    case round =>
      obtain ⟨p6, r, rfl, hr2, HBr⟩ := hrel
      clear HBX
      have c6 := cell_of HBr.out.rnd 0 _ rfl
      have hro : rOf (.pointer (some ⟨p6, 0, none⟩)) wr = r := by simp [rOf, c6]
      have HRO := hide2 hro
      clear hro
      have hl6 := (Array.getElem?_eq_some_iff.1 HBr.out.rnd).1
      by_cases hr : r < 2
      · have hr' : (r : Int) < 2 := by omega
        have r0 : (0 : Int) ≤ r := by omega
        have HJ := hide2 HBr.out.jc
        go_wp2_with fail
        refine (rnd26 w w.heap.size (wr.heap.size + 1) (wr.heap.size + 2) wr.heap.size w1.heap.size (w1.heap.size + 1) p6 w.heap.size N0 aw cw T0 fd fl fe r most _ (HAL.out ▸ HS0.out) HN.out hNl (HAL.out ▸ HF.out) haw HJ.out).mono ?_
        rintro e W4 ⟨v, nn, en, rfl, hJ4, hK4, hn4, hcase⟩
        have HJ4 := hide2 hJ4
        obtain ⟨c1, c2, c3, c4, ⟨_, _, c7⟩, c8, c9⟩ := hJ4.cells
        obtain ⟨l1, l2, l3, l4, l5, l6, l7⟩ := hJ4.lts
        have HP4 := hide2 (Bx.of hJ4).px
        have HNX : Hid (Bx w w.heap.size w1.heap.size (w1.heap.size + 1) W4.heap.size w.heap.size N0 (.slice aw N0 cw) T0 fd fl fe ((r : Int) + 1) most (W4.alloc (.cells #[.int .i64 ((r : Int) + 1)] 3 (0, 0)))) := HP4.out.bx ((r : Int) + 1)
        have hro2 : rOf (.pointer (some ⟨W4.heap.size, 0, none⟩)) (W4.alloc (.cells #[.int .i64 ((r : Int) + 1)] 3 (0, 0))) = r + 1 := rOf_of (cell_of HNX.out.rnd 0 _ rfl) (by omega)
        have HRO2 := hide2 hro2

        clear hJ4 hK4 HJ hro2 HBr
        have nn0 : (nn : Int) ≤ 65537 := by omega
        rcases hcase with ⟨rfl, rfl⟩ | ⟨h1, h2, h3⟩
        · have hNN : ((nn : Int) != nn) = false := by simp
          by_cases hfe : fe = 0
          · subst hfe
            rcases Nat.lt_or_ge r 1 with h | h
            · obtain rfl : r = 0 := by omega
              by_cases hm0 : 0 < most
              · by_cases hme : (nn : Int) = most
                · have hmb : ((nn : Int) == most) = true := by simpa using hme
                  clear hme
                  go_wp2_with fail
                  exact ⟨⟨_, 1, rfl, by omega, HNX⟩, lt_eq (congrArg (2 - ·) HRO2.out) (by rw [HRO.out]; omega)⟩
                · have hmb : ((nn : Int) == most) = false := by simpa using hme
                  go_wp2_with fail
                  exact ⟨⟨_, 1, rfl, by omega, HNX⟩, lt_eq (congrArg (2 - ·) HRO2.out) (by rw [HRO.out]; omega)⟩
              · go_wp2_with fail
                exact ⟨⟨_, 1, rfl, by omega, HNX⟩, lt_eq (congrArg (2 - ·) HRO2.out) (by rw [HRO.out]; omega)⟩
            · obtain rfl : r = 1 := by omega
              go_wp2_with fail
              exact ⟨⟨_, 2, rfl, by omega, HNX⟩, lt_eq (congrArg (2 - ·) HRO2.out) (by rw [HRO.out]; omega)⟩
          · have hfb : (fe != 0) = true := by simpa using hfe
            have hfd : decide (fe ≠ 0) = true := decide_eq_true hfe
            rw [hfd] at c2
            clear hfd
            rcases Nat.lt_or_ge r 1 with h | h
            · obtain rfl : r = 0 := by omega
              by_cases hm0 : 0 < most
              · by_cases hme : (nn : Int) = most
                · have hmb : ((nn : Int) == most) = true := by simpa using hme
                  clear hme
                  go_wp2_with fail
                  exact ⟨⟨_, 1, rfl, by omega, HNX⟩, lt_eq (congrArg (2 - ·) HRO2.out) (by rw [HRO.out]; omega)⟩
                · have hmb : ((nn : Int) == most) = false := by simpa using hme
                  go_wp2_with fail
                  exact ⟨⟨_, 1, rfl, by omega, HNX⟩, lt_eq (congrArg (2 - ·) HRO2.out) (by rw [HRO.out]; omega)⟩
              · go_wp2_with fail
                exact ⟨⟨_, 1, rfl, by omega, HNX⟩, lt_eq (congrArg (2 - ·) HRO2.out) (by rw [HRO.out]; omega)⟩
            · obtain rfl : r = 1 := by omega
              go_wp2_with fail
              exact ⟨⟨_, 2, rfl, by omega, HNX⟩, lt_eq (congrArg (2 - ·) HRO2.out) (by rw [HRO.out]; omega)⟩
        · obtain rfl : r = 0 := by omega
          have hm0 : 0 < most := by omega
          have hme : ((nn : Int) == most) = true := by simpa using h2
          clear h2
          go_wp2_with fail
          exact ⟨⟨_, 1, rfl, by omega, HNX⟩, lt_eq (congrArg (2 - ·) HRO2.out) (by rw [HRO.out]; omega)⟩
      · have hr' : ¬ (r : Int) < 2 := by omega
        go_wp2
        go_ret
        exact ⟨rfl, HBr.out.bel⟩

  · go_wp2_with fail
    obtain ⟨w2, hw2⟩ : ∃ W, (w1.alloc (.cells #[.slice aw N0 cw] 23 (0, 0))).alloc (.cells #[.int .i64 fd, .int .i64 fl, .int .i64 fe] 25 (0, 0)) = W := ⟨_, rfl⟩
    rw [hw2] at HP2 ⊢
    clear hw2
    refine (each_short15 a n cap l w2 hlong Hn.out (HB.out.of_below HP2.out.bel)).mono ?_
    rintro e w3 ⟨rfl, hw3⟩
    have HP3 := hide2 (HP2.out.below ((Below.refl _ w2).alloc (Nat.le_refl _) (.cells #[.string ⟨l.toArray⟩] 9 (0, 0))))
    have hb3 := Go.heap_alloc_new w2 (.cells #[.string ⟨l.toArray⟩] 9 (0, 0))
    rw [← hw3] at HP3 hb3
    have hs3 : w2.heap.size < w3.heap.size := (Array.getElem?_eq_some_iff.1 hb3).1
    have hq : ∀ W : World, (binOp BinOp.eql 43 (.func (.func 27) #[] #[.pointer (some ⟨w2.heap.size, 0, none⟩)]) .nilFunc).run Tryd.prog W = .ok (.bool false) W := fun W => func_nil _ _ W
    have HBX := hide2 (HP3.out.bx 0)
    have HBN : Hid ((w3.alloc (.cells #[.int .i64 0] 3 (0, 0))).heap[w2.heap.size]? = some (.cells #[.string ⟨l.toArray⟩] 9 (0, 0))) := (Go.heap_alloc_old _ _ hs3).trans hb3
    have HAL : Hid (A = allF l) := by show _ = _; rw [← HA.out]; unfold scnF; rw [if_neg (by have := Hn.out; omega)]
    clear hw3 hb3
    go_wp2_with fail
    clear hq
    go_loopw [8] (fun t8 wr => ∃ (p6 r : Nat), t8 = .pointer (some ⟨p6, 0, none⟩) ∧ r ≤ 2 ∧ Hid (Bx w w.heap.size w1.heap.size (w1.heap.size + 1) p6 w.heap.size N0 (.slice aw N0 cw) T0 fd fl fe r most wr) ∧ Hid (wr.heap[w2.heap.size]? = some (.cells #[.string ⟨l.toArray⟩] 9 (0, 0)))) (fun t8 wr => 2 - rOf t8 wr)
    case atStart => exact ⟨_, 0, rfl, by omega, HBX, HBN⟩
    case round =>
      obtain ⟨p6, r, rfl, hr2, HBr, HBn⟩ := hrel
      clear HBX
      have c6 := cell_of HBr.out.rnd 0 _ rfl
      have hro : rOf (.pointer (some ⟨p6, 0, none⟩)) wr = r := by simp [rOf, c6]
      have HRO := hide2 hro
      clear hro
      have hl6 := (Array.getElem?_eq_some_iff.1 HBr.out.rnd).1
      by_cases hr : r < 2
      · have hr' : (r : Int) < 2 := by omega
        have r0 : (0 : Int) ≤ r := by omega
        have HJ := hide2 HBr.out.jc
        go_wp2_with fail
        have hm0 := (HM.out.below HJ.out.bel hw0)
        obtain ⟨mm, hmm⟩ := hm0
        have hbn : Below wr.heap.size wr (((wr.alloc (.cells #[.int .i64 0] 3 (0, 0))).alloc (.cells #[.bool true] 4 (0, 0))).alloc (.cells #[.bool false] 4 (0, 0))) := (((Below.refl _ wr).alloc (Nat.le_refl _) _).alloc (by simp) _).alloc (by simp; omega) _
        have HBa := hide2 ((hbn.block _ (Array.getElem?_eq_some_iff.1 HBn.out).1).trans HBn.out)
        have hln := (Array.getElem?_eq_some_iff.1 HBn.out).1
        have lnn : l.length ≤ 65536 := by have := Hn.out; omega
        refine (rnd27 w w.heap.size (wr.heap.size + 1) (wr.heap.size + 2) wr.heap.size w1.heap.size (w1.heap.size + 1) p6 w.heap.size N0 aw cw T0 fd fl fe r most _ l lnn mm w2.heap.size (HAL.out ▸ HS0.out) HN.out hNl (HAL.out ▸ HF.out) haw HJ.out hw0 hmm (cell_of HBa.out 0 _ rfl)).mono ?_
        rintro e W4 ⟨v, nn, en, rfl, hJ4, hK4, hn4, hcase⟩
        have HJ4 := hide2 hJ4
        obtain ⟨c1, c2, c3, c4, ⟨_, _, c7⟩, c8, c9⟩ := hJ4.cells
        obtain ⟨l1, l2, l3, l4, l5, l6, l7⟩ := hJ4.lts
        have HP4 := hide2 (Bx.of hJ4).px
        have HNX : Hid (Bx w w.heap.size w1.heap.size (w1.heap.size + 1) W4.heap.size w.heap.size N0 (.slice aw N0 cw) T0 fd fl fe ((r : Int) + 1) most (W4.alloc (.cells #[.int .i64 ((r : Int) + 1)] 3 (0, 0)))) := HP4.out.bx ((r : Int) + 1)
        have hro2 : rOf (.pointer (some ⟨W4.heap.size, 0, none⟩)) (W4.alloc (.cells #[.int .i64 ((r : Int) + 1)] 3 (0, 0))) = r + 1 := rOf_of (cell_of HNX.out.rnd 0 _ rfl) (by omega)
        have HRO2 := hide2 hro2
        have HBX4 : Hid ((W4.alloc (.cells #[.int .i64 ((r : Int) + 1)] 3 (0, 0))).heap[w2.heap.size]? = some (.cells #[.string ⟨l.toArray⟩] 9 (0, 0))) := by
          show _ = _
          have h4 := (hK4.block w2.heap.size (Array.getElem?_eq_some_iff.1 HBa.out).1 (by simp; omega)).trans HBa.out
          exact (Go.heap_alloc_old _ _ (Array.getElem?_eq_some_iff.1 h4).1).trans h4
        clear hbn hmm HBa
        clear hJ4 hK4 HJ hro2 HBr
        have nn0 : (nn : Int) ≤ 65537 := by omega
        rcases hcase with ⟨rfl, rfl⟩ | ⟨h1, h2, h3⟩
        · have hNN : ((nn : Int) != nn) = false := by simp
          by_cases hfe : fe = 0
          · subst hfe
            rcases Nat.lt_or_ge r 1 with h | h
            · obtain rfl : r = 0 := by omega
              by_cases hm0 : 0 < most
              · by_cases hme : (nn : Int) = most
                · have hmb : ((nn : Int) == most) = true := by simpa using hme
                  clear hme
                  go_wp2_with fail
                  exact ⟨⟨_, 1, rfl, by omega, HNX, HBX4⟩, lt_eq (congrArg (2 - ·) HRO2.out) (by rw [HRO.out]; omega)⟩
                · have hmb : ((nn : Int) == most) = false := by simpa using hme
                  go_wp2_with fail
                  exact ⟨⟨_, 1, rfl, by omega, HNX, HBX4⟩, lt_eq (congrArg (2 - ·) HRO2.out) (by rw [HRO.out]; omega)⟩
              · go_wp2_with fail
                exact ⟨⟨_, 1, rfl, by omega, HNX, HBX4⟩, lt_eq (congrArg (2 - ·) HRO2.out) (by rw [HRO.out]; omega)⟩
            · obtain rfl : r = 1 := by omega
              go_wp2_with fail
              exact ⟨⟨_, 2, rfl, by omega, HNX, HBX4⟩, lt_eq (congrArg (2 - ·) HRO2.out) (by rw [HRO.out]; omega)⟩
          · have hfb : (fe != 0) = true := by simpa using hfe
            have hfd : decide (fe ≠ 0) = true := decide_eq_true hfe
            rw [hfd] at c2
            clear hfd
            rcases Nat.lt_or_ge r 1 with h | h
            · obtain rfl : r = 0 := by omega
              by_cases hm0 : 0 < most
              · by_cases hme : (nn : Int) = most
                · have hmb : ((nn : Int) == most) = true := by simpa using hme
                  clear hme
                  go_wp2_with fail
                  exact ⟨⟨_, 1, rfl, by omega, HNX, HBX4⟩, lt_eq (congrArg (2 - ·) HRO2.out) (by rw [HRO.out]; omega)⟩
                · have hmb : ((nn : Int) == most) = false := by simpa using hme
                  go_wp2_with fail
                  exact ⟨⟨_, 1, rfl, by omega, HNX, HBX4⟩, lt_eq (congrArg (2 - ·) HRO2.out) (by rw [HRO.out]; omega)⟩
              · go_wp2_with fail
                exact ⟨⟨_, 1, rfl, by omega, HNX, HBX4⟩, lt_eq (congrArg (2 - ·) HRO2.out) (by rw [HRO.out]; omega)⟩
            · obtain rfl : r = 1 := by omega
              go_wp2_with fail
              exact ⟨⟨_, 2, rfl, by omega, HNX, HBX4⟩, lt_eq (congrArg (2 - ·) HRO2.out) (by rw [HRO.out]; omega)⟩
        · obtain rfl : r = 0 := by omega
          have hm0 : 0 < most := by omega
          have hme : ((nn : Int) == most) = true := by simpa using h2
          clear h2
          go_wp2_with fail
          exact ⟨⟨_, 1, rfl, by omega, HNX, HBX4⟩, lt_eq (congrArg (2 - ·) HRO2.out) (by rw [HRO.out]; omega)⟩
      · have hr' : ¬ (r : Int) < 2 := by omega
        go_wp2
        go_ret
        exact ⟨rfl, HBr.out.bel⟩

end Go.Proofs.YtjmgngocpokpgaaDoor

/-
  LinesEach holds of the program: tokens told one by one are just those that the document says, up to the line that has a fault, which is told then; the sequence may be left early, and gone over again. Condition: the listed package variables (two tables of unicode/utf8) start as the text lays them (the card ties them); none of the tables is read on this road.
-/
namespace Go.Proofs.YtjmgngocpokpgaaDoor
open Go.ChangeShapes Go.WideShapes Go.ChangeAt Go.RowKit Go.ChangeMaps
set_option linter.unusedVariables false
set_option linter.unusedSimpArgs false
theorem open_fits {H : Type} {enc : TypeId × Value → H} {W : World} {a : Option Addr} {len cap : Nat} {d : DataW H} {p : List MemPlace} {ts : List TypeId} {ds : List (DataW H)} {j : Nat}
    (h : DataW.Trod enc Tryd.prog W 0 (fun _ => true) true 22 (.slice a len cap) d p) (hsz : (DataW.weightsEach Tryd.prog ts ds).all (· ≤ reachBytes) = true) (ht : ts[j]? = some 22) (hd : ds[j]? = some d) : len ≤ cap := by
  obtain ⟨zs, hB, hc⟩ := open_bytes h hsz ht hd
  exact hB.fits

theorem linesEach_reads (os : Os) {H : Type} (enc : TypeId × Value → H) : ∃ places, DataW.whole enc Tryd.prog ((World.laidAll Tryd.prog os Rows.linesEachRow.laid).forCall (fun _ _ => 0) ⟨#[], #[.slice none 0 0, .int .i64 0], []⟩).memory Tryd.f4.params.toList Rows.linesEachSpec.vars false #[Value.slice none 0 0, .int .i64 0].toList 8 = some ([.nil, .lit (.int .i64 0)], [], places) :=
  ⟨[], by kernel_rfl⟩
theorem linesEach_met (os : Os) : laidMetH Tryd.prog Rows.linesEachRow.laid ((World.laidAll Tryd.prog os Rows.linesEachRow.laid).forCall (fun _ _ => 0) ⟨#[], #[.slice none 0 0, .int .i64 0], []⟩).memory := by
  rw [MakeChecks.laidMetH_plain _ _ _ (by kernel_rfl)]
  exact laidMet_laidAll _ (by kernel_rfl) (by kernel_rfl)

set_option maxRecDepth 100000 in
theorem linesEach_lifted (os : Os) (started : os.Started) (H : Type) (enc : TypeId × Value → H) (F : Stop.Interp) :
    ReturnsInHanded {} Tryd.checked os 4 .any ((OpenSpec.ofChange Rows.linesEachSpec).preRow enc Tryd.prog Tryd.f4 Rows.linesEachRow.domain false Rows.linesEachRow.laid) (((OpenSpec.ofChange Rows.linesEachSpec).at F).post enc Tryd.prog Tryd.f4 false true false false) := by
  obtain ⟨places, hx⟩ := linesEach_reads os enc
  refine returnsInHanded_of_row (C := Tryd.checked) (s := (OpenSpec.ofChange Rows.linesEachSpec)) own started (by kernel_rfl) Tryd.func4
    (witness_row_at (enc := enc) (C := Tryd.checked) false (World.laidAll Tryd.prog os Rows.linesEachRow.laid) #[.slice none 0 0, .int .i64 0] (World.laidAll_os _ _ _) (by kernel_rfl) (by kernel_rfl) (by kernel_rfl)
      (OpenSpec.preRow_of_cond 8 hx (by kernel_rfl) (fun k hk => by cases hk) (by kernel_rfl) (linesEach_met os))) ?_
  intro W base args ds gs before hval0 hW _ hcond hsz0 hL hsh _
  have hm : HasM W := hasM_of hsh
  have hval : ∀ (j : Nat) t v, Tryd.f4.params[j]? = some t → args[j]? = some v → Value.okWide Tryd.prog W .any base t v := hval0
  have hsz : (DataW.weightsEach Tryd.prog (Tryd.f4.params.toList ++ Rows.linesEachSpec.plain.varTypes Tryd.prog) (ds ++ gs)).all (· ≤ reachBytes) = true := hsz0
  have hW' := hW
  obtain ⟨p, q, hA0, hV, rfl, hfz, hnd⟩ := hW
  have hA : DataW.TrodAll enc Tryd.prog W 0 (fun _ => true) true Tryd.f4.params.toList args.toList ds p := hA0
  rw [Tryd.params4] at hA hval hsz
  obtain ⟨v0, vs0, d0, ds0, p0, q0, hargs, rfl, rfl, h0, r0⟩ := trodAll_cons hA
  obtain ⟨v1, vs1, d1, ds1, p1, q1, rfl, rfl, rfl, h1, r1⟩ := trodAll_cons r0
  obtain ⟨rfl, rfl, rfl⟩ := trodAll_nil r1
  obtain rfl : args = #[v0, v1] := by cases args; simp_all
  obtain ⟨rfl, rfl⟩ := trodVars_none hV
  obtain ⟨a0, len0, cap0, rfl⟩ := okWide_slice Tryd.underlying22 (hval 0 22 v0 rfl rfl)
  have k0 := h0
  have lt0 : ∀ x ∈ p0, x.block < W.heap.size := by obtain ⟨m, hm⟩ := k0; exact DataW.trod_lt m _ _ _ hm
  obtain ⟨l0, n0, h0', bare0, small0⟩ := open_list h0 hsz (j := 0) rfl rfl
  obtain ⟨a1, rfl, rfl, rfl, w1⟩ := open_int Tryd.underlying3 (hval 1 3 v1 rfl rfl) h1
  have b1 := bounds_i64 w1
  clear hA0 hval0
  refine (eaches_any a0 len0 cap0 l0 a1 W hm n0 h0' small0 (open_fits k0 hsz (j := 0) rfl rfl)).mono fun e W' ⟨he, bel⟩ => ?_
  subst he
  exact ⟨_, rfl, _, _, _, [], _, [], hW', trodAll_mk1 (shut_bool Tryd.underlying4 _), (trodAll_cons_mk (Below.trod laidOut (by kernel_rfl) (of_decide_eq_true (by kernel_rfl)) k0 bel lt0) (trodAll_cons_mk (shut_int Tryd.underlying3 w1) trodAll_mk0)), rfl, bel.frame _, fun h => by cases h⟩

theorem linesEach_row : Rows.LinesEachSaid :=
  OpenClaim.holds_of_cond 4 Tryd.f4 rfl rfl rfl rfl rfl rfl rfl ⟨rfl, rfl, rfl, rfl, rfl⟩ rfl rfl rfl rfl rfl (by kernel_rfl) Tryd.func4 (by kernel_rfl)
    (of_decide_eq_true (by kernel_rfl)) (by unfold Func.isWrapper; first | (rw [if_pos (by decide +kernel)]; kernel_rfl) | (rw [if_neg (by decide +kernel)]; exact ⟨rfl, rfl⟩))
    (fun os started H enc _ F => by rw [OpenClaim.pre_eq_preRow]; exact linesEach_lifted os started H enc F)

theorem linesEach_holds : Rows.LinesEachCardSaid :=
  Claim7.holds_tied_plain_at .later [] _ _ _ _
    linesEach_row (fun _ h => by cases h) (by kernel_rfl) (fun _ h => by cases h) linesEach_row_tie rfl ⟨rfl, rfl⟩ (by kernel_rfl) rfl
    (fun f fn hf hfn => by
      obtain rfl : f = 4 := Option.some.inj ((show Tryd.prog.funcNamed Rows.linesEachRow.func = some 4 by kernel_rfl).symm.trans hf) |>.symm
      obtain rfl : fn = Tryd.f4 := (Option.some.inj (Tryd.func4.symm.trans hfn)).symm
      exact ⟨by kernel_rfl, fun j t ht => by
        rw [Tryd.params4] at ht
        have hm : t ∈ [22, 3] := by simpa using Array.mem_of_getElem? ht
        have hall : ([22, 3].all fun u => !Tryd.prog.wantsStandIn u) = true := by kernel_rfl
        exact (show Tryd.prog.wantsStandIn t = false by simpa using List.all_eq_true.1 hall t hm)⟩)
    (by kernel_rfl)
#print axioms linesEach_holds
end Go.Proofs.YtjmgngocpokpgaaDoor
