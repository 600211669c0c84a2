/-
  The document's payload of a message.
-/
import Derived.Test.YteeclghhoioapaaDoorRg
namespace Go.Proofs.YteeclghhoioapaaDoor
open Go.RowKit
set_option linter.unusedVariables false
set_option linter.unusedSimpArgs false
set_option maxRecDepth 100000
theorem ret_two {v : Value} {a b : Bool} (h : a = b) : Ending.returned (.tuple #[v, .bool a]) = .returned (.tuple #[v, .bool b]) := by rw [h]
/-- What laid leaves. -/
def LdE (w : World) (wd : Nat) (n : Int) (e : Ending) (w' : World) : Prop := ∃ g cp, e = .returned (.slice (some ⟨g, 0, none⟩) wd cp) ∧ (∀ j u, (vals (digs wd (uw n)))[j]? = some u → w'.cell? ((⟨g, 0, none⟩ : Addr).add j) = some u) ∧ Below w.heap.size w w'
theorem laidE (n : Int) (wd : Nat) (w : World) (hw : wd = 2 ∨ wd = 4 ∨ wd = 8) (h0 : -9223372036854775808 ≤ n) (h1 : n ≤ 9223372036854775807) : Calls Tryd.prog 45 #[.int .i64 n, .int .i64 wd] w fun e w' => LdE w wd n e w' := by
  refine (laid_any n wd w hw h0 h1).mono ?_
  rintro e w' ⟨v, rfl, hr, hb⟩
  have hl : (digs wd (uw n)).length = wd := digs_length _ _
  have h' : w'.ownsRow w.heap.size 5 1 v wd (vals (digs wd (uw n))) := by have := hr; unfold Rw at this; rwa [hl] at this
  obtain ⟨g, cp, hv, _, _⟩ := h'.form (by omega)
  subst hv
  exact ⟨g, cp, rfl, fun j u h => h'.cells rfl j u h, hb⟩
theorem laid8 (n : Int) (w : World) (h0 : -9223372036854775808 ≤ n) (h1 : n ≤ 9223372036854775807) : Calls Tryd.prog 45 #[.int .i64 n, .int .i64 8] w fun e w' => LdE w 8 n e w' := laidE n 8 w (by simp) h0 h1
theorem laid4 (n : Int) (w : World) (h0 : -9223372036854775808 ≤ n) (h1 : n ≤ 9223372036854775807) : Calls Tryd.prog 45 #[.int .i64 n, .int .i64 4] w fun e w' => LdE w 4 n e w' := laidE n 4 w (by simp) h0 h1
theorem laid2 (n : Int) (w : World) (h0 : -9223372036854775808 ≤ n) (h1 : n ≤ 9223372036854775807) : Calls Tryd.prog 45 #[.int .i64 n, .int .i64 2] w fun e w' => LdE w 2 n e w' := laidE n 2 w (by simp) h0 h1
/-- The message as the document lays it, whatever its numbers. -/
def wrM (m : Ms) : Ms := { m with ver := uw m.ver, frm := uw m.frm, non := uw m.non, err := uw m.err }
/-- The first byte is laid. -/
theorem Rw.made (w : World) (z : Int) (base g : Nat) (hb : base ≤ w.heap.size) (hg : g = w.heap.size) : Rw (w.alloc (.cells #[.int .u8 z] 5)) base (.slice (some ⟨g, 0, none⟩) 1 1) [z] := by
  subst hg
  exact ⟨rfl, .inr ⟨w.heap.size, 1, _, rfl, hb, heap_alloc_new w _, Nat.le_refl _, by decide, rfl, rfl⟩⟩
/-- What is held on the way: the box and the row under way. -/
def Hp (w0 : World) (m : Ms) (w : World) (v : Value) (xs : List Int) : Prop := Hw w0 m w ∧ Rw w (w0.heap.size + 1) v xs
theorem Hp.app {w0 w1 w2 : World} {m : Ms} {v v2 : Value} {xs zs : List Int} {k : Nat} (h : Hw w0 m w1) (hr : Rw w1 (w0.heap.size + 1) v xs) (hk : zs.length = k) (hown : w2.ownsRow (w0.heap.size + 1) 5 1 v2 (xs.length + k) (vals xs ++ vals zs)) (hg : w1.grownBy w2 v.ownBlock) : Hp w0 m w2 v2 (xs ++ zs) :=
  ⟨h.step (Below.of_rows (Below.refl _ _) h.2.2 hg (ows_base hr)), Rw.app hown rfl hk⟩
theorem Hw.below {w0 w w' : World} {m : Ms} (h : Hw w0 m w) (hb : Below w.heap.size w w') : Hw w0 m w' := h.step (hb.mono h.2.2)
theorem Hw.alloc {w0 w : World} {m : Ms} (h : Hw w0 m w) (o : Obj) : Hw w0 m (w.alloc o) := h.below ((Below.refl _ _).alloc (Nat.le_refl _) _)
theorem Hw.drew {w0 w : World} {m : Ms} (h : Hw w0 m w) : Hw w0 m w.drew := h.below ((Below.refl _ _).drew)
/-- Sizes and numbers that may come in. -/
def Smn (name text : ByteArray) (ver frm non err : Int) : Prop := name.size ≤ 1048576 ∧ text.size ≤ 1048576 ∧ (-9223372036854775808 ≤ ver ∧ ver ≤ 9223372036854775807) ∧ (-9223372036854775808 ≤ frm ∧ frm ≤ 9223372036854775807) ∧ (-9223372036854775808 ≤ non ∧ non ≤ 9223372036854775807) ∧ (-9223372036854775808 ≤ err ∧ err ≤ 9223372036854775807)
/-- What Payload answers. -/
def PayE (w : World) (m : Ms) (zs : List Int) (b : Bool) (e : Ending) (w' : World) : Prop := ∃ v, e = .returned (.tuple #[v, .bool b]) ∧ Hp w m w' v zs
end Go.Proofs.YteeclghhoioapaaDoor
