/-
  What the walk of FramesBack holds on to.
-/
import Derived.Test.YteeclghhoioapaaDoorAv
import Derived.Laws.AppendOwnNone
namespace Go.Proofs.YteeclghhoioapaaDoor
open Go.RowKit
set_option linter.unusedVariables false
set_option linter.unusedSimpArgs false
set_option maxRecDepth 100000
structure Fbs (w0 : World) (m : Ms) (a : Option Addr) (n cap : Nat) (zs : List Int) (w : World) : Prop where
  hw : Hw w0 m w
  tab : Tab w
  tl : Bs w a n cap zs
theorem Fbs.below {w0 w w' : World} {m : Ms} {a : Option Addr} {n cap : Nat} {zs : List Int} (h : Fbs w0 m a n cap zs w) (hb : Below w.heap.size w w') : Fbs w0 m a n cap zs w' :=
  ⟨h.hw.below hb, h.tab.below hb h.tab.pos, h.tl.below hb⟩
theorem Fbs.alloc {w0 w : World} {m : Ms} {a : Option Addr} {n cap : Nat} {zs : List Int} (h : Fbs w0 m a n cap zs w) (o : Obj) : Fbs w0 m a n cap zs (w.alloc o) := h.below ((Below.refl _ _).alloc (Nat.le_refl _) _)
theorem Fbs.start (w : World) (m : Ms) (a : Option Addr) (n cap : Nat) (zs : List Int) (hT : Tab w) (h : Bs w a n cap zs) : Fbs w m a n cap zs (w.alloc (.cells (mcs m).toArray 23)) :=
  ⟨Hw.start w m 23, hT.below ((Below.refl w.heap.size w).alloc (Nat.le_refl _) _) hT.pos, h.below ((Below.refl _ _).alloc (Nat.le_refl _) _)⟩
/-- What lent answers is a row of its own. -/
theorem Lent.row {w w' : World} {zs : List Int} {v : Value} (h : Lent w zs v w') : Rw w' w.heap.size v zs ∧ Below w.heap.size w w' := by
  obtain ⟨g, cap, rfl, ho, hb⟩ := h
  refine ⟨⟨by simp [vals], .inr ?_⟩, hb⟩
  rcases ho.2 with ⟨h, _⟩ | ⟨g', cap', cur, hv, hbg, hgg, h1, h2, h3, h4⟩
  · cases h
  · cases hv
    refine ⟨g, cap, cur, rfl, hbg, hgg, by omega, h2, h3, ?_⟩
    have := congrArg (List.take (zs.length * 1)) h4
    rw [List.take_take, vals_append] at this
    rw [Nat.min_eq_left (by omega)] at this
    rw [this, List.take_left' (by simp [vals])]
theorem lentE (a : Option Addr) (n cap : Nat) (zs : List Int) (w : World) (h : Bs w a n cap zs) (hn : n ≤ 100000000) : Calls Tryd.prog 12 #[.slice a n cap] w fun e w' => ∃ v, e = .returned v ∧ Lent w zs v w' :=
  lent_any a n cap zs w h.len h.has h.bare (by omega)
theorem Below.own_app {w w' : World} {base : Nat} {v : Value} {zs : List Int} (h : Rw w base v zs) (hg : w.grownBy w' v.ownBlock) (hb : base ≤ w.heap.size) : Below base w w' :=
  (Below.refl _ _).grown hg hb (ows_base h)
/-- append of bytes that are there, or none. -/
theorem wpList_append_bs {ops : Array Oper} {rest : List Oper} {o : Oper} {a : Act} {w : World} {Q : Exit → Act → World → Prop} (hgd : o.guard = none) (s x : Operand)
    (ho : o.op = .call { callee := .builtin .append, args := #[s, x], argTypes := #[24, 24] })
    (base : Nat) (v : Value) (xs : List Int) (hs : a.eval s = v) (hown : Rw w base v xs) (b : Option Addr) (m c : Nat) (zs : List Int) (hx : a.eval x = .slice b m c) (hB : Bs w b m c zs)
    (hl : xs.length + m ≤ 100000000) (hb : base ≤ w.heap.size)
    (h : ∀ v' w', Rw w' base v' (xs ++ zs) → Below base w w' → wpList Tryd.prog ops Q rest (a.put o.dst v') w') : wpList Tryd.prog ops Q (o :: rest) a w := by
  obtain ⟨i0, hi, hz0, hz1, hz2⟩ := info_parts Tryd.info5
  have hlen := hB.len
  rcases hB.has with ⟨rfl, rfl⟩ | ⟨ad, rfl, hh⟩
  · have hm : m = 0 := by simpa using hlen.symm
    have hc := hB.bare rfl
    subst hm hc
    refine wpList_append_own_none hgd s x 24 ho base 5 i0 1 Tryd.underlying24 hi v xs.length (vals xs) hs hown hx ?_
    have := h v w (by rw [List.append_nil]; exact hown) (Below.refl _ _)
    exact this
  · refine wpList_append_own _ hgd s x 24 ho base 5 i0 (.int .u8 0) 1 1 Tryd.underlying24 hi hz0 hz1 hz2 rfl (by decide) v xs.length (vals xs) hs hown ad m c (vals zs) hx (by rw [vals_length, hlen]; omega) (fun j u hu => ?_) (vals_one _) (by unfold maxLen; omega) (by omega) hb ?_
    · obtain ⟨hj, rfl⟩ := vals_at zs j u hu
      exact hh j hj
    · intro v' w' h1 h2 _
      exact h v' w' (Rw.app h1 rfl hlen) (Below.own_app hown h2 hb)
end Go.Proofs.YteeclghhoioapaaDoor
