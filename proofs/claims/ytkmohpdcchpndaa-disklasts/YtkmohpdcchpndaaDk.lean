/-
  A whole disk in memory.
-/
import Derived.Test.YtkmohpdcchpndaaAdd
import Derived.Test.YtkmohpdcchpndaaFail2
namespace Go.Proofs.Ytkmohpdcchpndaa
open Go.RowKit
set_option linter.unusedVariables false
set_option linter.unusedSimpArgs false
set_option maxRecDepth 100000
/-- a file of the disk: its number, its block, what it has -/
structure En where
  num : Nat
  b : Nat
  f : Fs
/-- a failure that is to come: its block, its choices' value, when, the choices -/
structure Am where
  b : Nat
  v : Value
  after : Nat
  cs : List Int
  gl : List Nat
structure AmOk (w : World) (base : Nat) (a : Am) : Prop where
  blk : ∃ t, w.heap[a.b]? = some (.cells #[.int .i64 a.after, a.v] t (0, 0))
  low : base ≤ a.b
  aft : a.after < 9223372036854775808
  row : ∃ ao cap, a.v = .slice ao a.cs.length cap ∧ (a.cs = [] ∨ ∃ g off, ao = some ⟨g, off, none⟩ ∧ g ∈ a.gl ∧ ∀ j, j < a.cs.length → w.cell? ⟨g, off + j, none⟩ = some (.int .i64 (a.cs.getD j 0)))
  rng : ∀ c ∈ a.cs, -9223372036854775808 ≤ c ∧ c ≤ 9223372036854775807
  few : a.cs.length ≤ 17592186044000
  lt : ∀ k ∈ a.gl, base ≤ k ∧ k < w.heap.size
theorem AmOk.keep {w w' : World} {base : Nat} {a : Am} (h : AmOk w base a) (hb : w'.heap[a.b]? = w.heap[a.b]?) (hg : ∀ k ∈ a.gl, w'.heap[k]? = w.heap[k]?) (hs : w.heap.size ≤ w'.heap.size) : AmOk w' base a := by
  obtain ⟨t, hb0⟩ := h.blk
  obtain ⟨ao, cap, h1, h2⟩ := h.row
  refine ⟨⟨t, hb.trans hb0⟩, h.low, h.aft, ⟨ao, cap, h1, h2.imp id fun ⟨g, off, e, hm, hc⟩ => ⟨g, off, e, hm, fun j hj => ?_⟩⟩, h.rng, h.few, fun k hk => ⟨(h.lt k hk).1, Nat.lt_of_lt_of_le (h.lt k hk).2 hs⟩⟩
  exact (World.cell?_of_block (w := w) (hg g hm)).trans (hc j hj)
/-- what may be turned of a disk -/
def dmut (d : Nat) (x : Dr) (am : Option Am) (es : List En) (k : Nat) : Prop :=
  k ∈ x.mut d ∨ mblk x.c6 = some k ∨ (∃ a, am = some a ∧ k = a.b) ∨ ∃ e ∈ es, k ∈ e.f.mut e.b
/-- a whole disk: each block has a label: 0 the directory, 1 the map of files, 2 the failure to come, 3 what is only read, 4 and more the files -/
structure Dk (w : World) (base d : Nat) (x : Dr) (am : Option Am) (fo : Option (DataW Unit)) (nf made : Nat) (es : List En) (lab : Nat → Nat) : Prop where
  dir : Dir w base d x
  rd : Rd x.last x.ls x.now
  fm : Fm w base x.c6 fo nf
  c7 : x.c7 = .int .i64 made
  c2 : x.c2 = .pointer (am.map fun a => ⟨a.b, 0, none⟩)
  arm : ∀ a, am = some a → AmOk w base a
  fil : ∀ e ∈ es, Fil w base e.b e.f
  rp : ∀ e ∈ es, Rp e.f.last e.f.ls e.f.now
  at_ : ∀ e ∈ es, At1 fo e.num e.b ∧ e.num ≤ made
  one : ∀ e ∈ es, ∀ y ∈ es, e.num = y.num → e = y
  named : ∀ nm num, Has1 x.now nm num → ∃ e ∈ es, num = e.num
  lasts : ∀ nm num, Has1 x.last nm num → ∃ e ∈ es, num = e.num
  loose : ∀ c ∈ x.ls, (∀ nm num, c.c = .nm nm num → ∃ e ∈ es, num = e.num) ∧ (∀ fr to_ num, c.c = .rn fr to_ num → ∃ e ∈ es, num = e.num)
  l0 : ∀ k ∈ x.mut d, lab k = 0
  l1 : ∀ k, mblk x.c6 = some k → lab k = 1
  l2 : ∀ a, am = some a → lab a.b = 2
  l2g : ∀ a, am = some a → ∀ k ∈ a.gl, lab k = 3
  l3 : ∀ c ∈ x.ls, ∀ k ∈ c.ro, lab k = 3
  l3e : ∀ e ∈ es, ∀ c ∈ e.f.ls, ∀ k ∈ c.ro, lab k = 3
  l4 : ∀ e ∈ es, ∀ k ∈ e.f.mut e.b, lab k = 4 + e.num
/-- the disk is turned: its own blocks, or new ones -/
structure Kt (w w' : World) (d : Nat) (x : Dr) (am : Option Am) (es : List En) (x' : Dr) (am' : Option Am) (es' : List En) : Prop where
  os : w'.os = w.os
  tape : w'.tape = w.tape
  output : w'.output = w.output
  size : w.heap.size ≤ w'.heap.size
  block : ∀ k, k < w.heap.size → ¬ dmut d x am es k → w'.heap[k]? = w.heap[k]?
  sub : ∀ k, dmut d x' am' es' k → dmut d x am es k ∨ w.heap.size ≤ k
theorem Kt.refl (w : World) (d : Nat) (x : Dr) (am : Option Am) (es : List En) : Kt w w d x am es x am es := ⟨rfl, rfl, rfl, Nat.le_refl _, fun _ _ _ => rfl, fun _ h => .inl h⟩
theorem Kt.trans {w w1 w2 : World} {d : Nat} {x x1 x2 : Dr} {am am1 am2 : Option Am} {es es1 es2 : List En} (h : Kt w w1 d x am es x1 am1 es1) (g : Kt w1 w2 d x1 am1 es1 x2 am2 es2) : Kt w w2 d x am es x2 am2 es2 :=
  ⟨g.os.trans h.os, g.tape.trans h.tape, g.output.trans h.output, Nat.le_trans h.size g.size, fun k hk hn => (g.block k (Nat.lt_of_lt_of_le hk h.size) (fun h' => (h.sub k h').elim hn (fun h'' => by omega))).trans (h.block k hk hn), fun k hk => (g.sub k hk).elim (h.sub k) (fun h' => .inr (Nat.le_trans h.size h'))⟩
def setf (es : List En) (num : Nat) (f' : Fs) : List En := es.map fun y => if y.num = num then { y with f := f' } else y
theorem mem_setf {es : List En} {num : Nat} {f' : Fs} {y : En} (h : y ∈ setf es num f') : (∃ z ∈ es, z.num = num ∧ y = { z with f := f' }) ∨ (y ∈ es ∧ y.num ≠ num) := by
  unfold setf at h
  rw [List.mem_map] at h
  obtain ⟨z, hz, e⟩ := h
  by_cases hn : z.num = num
  · rw [if_pos hn] at e
    exact .inl ⟨z, hz, hn, e.symm⟩
  · rw [if_neg hn] at e
    subst e
    exact .inr ⟨hz, hn⟩
theorem setf_of {es : List En} {num : Nat} {f' : Fs} {z : En} (h : z ∈ es) : ∃ y ∈ setf es num f', y.num = z.num := by
  refine ⟨_, List.mem_map.2 ⟨z, h, rfl⟩, ?_⟩
  split <;> rfl
/-- it stays, where its blocks stay -/
theorem Dk.keep {w w' : World} {base d : Nat} {x : Dr} {am : Option Am} {fo : Option (DataW Unit)} {nf made : Nat} {es : List En} {lab : Nat → Nat} (h : Dk w base d x am fo nf made es lab) (hs : w.heap.size ≤ w'.heap.size) (hb : ∀ k, k < w.heap.size → dmut d x am es k ∨ lab k = 3 → w'.heap[k]? = w.heap[k]?) : Dk w' base d x am fo nf made es lab :=
  { h with
    dir := h.dir.keep (fun k hk => hb k (h.dir.lt k hk).2 (.inl (.inl hk))) (fun c hc k hk => hb k ((h.dir.chg c hc).lt k hk).2 (.inr (h.l3 c hc k hk)))
    fm := h.fm.keep fun k hk => hb k (h.fm.low hk).2 (.inl (.inr (.inl hk)))
    arm := fun a ha => by
      have := h.arm a ha
      obtain ⟨t, hb0⟩ := this.blk
      exact this.keep (hb _ (lt_of_block hb0) (.inl (.inr (.inr (.inl ⟨a, ha, rfl⟩))))) (fun k hk => hb k (this.lt k hk).2 (.inr (h.l2g a ha k hk))) hs
    fil := fun e he => (h.fil e he).keep (fun k hk => hb k ((h.fil e he).lt k hk).2 (.inl (.inr (.inr (.inr ⟨e, he, hk⟩))))) (fun c hc k hk => hb k (((h.fil e he).chg c hc).lt k hk).2 (.inr (h.l3e e he c hc k hk))) }
theorem dmut_lab {w : World} {base d : Nat} {x : Dr} {am : Option Am} {fo : Option (DataW Unit)} {nf made : Nat} {es : List En} {lab : Nat → Nat} (h : Dk w base d x am fo nf made es lab) {k : Nat} (hk : dmut d x am es k) : lab k ≠ 3 ∧ k < w.heap.size := by
  rcases hk with hk | hk | ⟨a, ha, rfl⟩ | ⟨e, he, hk⟩
  · have := h.l0 k hk; exact ⟨by omega, (h.dir.lt k hk).2⟩
  · have := h.l1 k hk; exact ⟨by omega, (h.fm.low hk).2⟩
  · have := h.l2 a ha
    obtain ⟨t, hb⟩ := (h.arm a ha).blk
    exact ⟨by omega, lt_of_block hb⟩
  · have := h.l4 e he k hk; exact ⟨by omega, ((h.fil e he).lt k hk).2⟩
/-- the labels, with one for all that is new -/
def relab (lab : Nat → Nat) (n v : Nat) (k : Nat) : Nat := if k < n then lab k else v
theorem relab_old {lab : Nat → Nat} {n v k : Nat} (h : k < n) : relab lab n v k = lab k := if_pos h
theorem relab_new {lab : Nat → Nat} {n v k : Nat} (h : n ≤ k) : relab lab n v k = v := if_neg (by omega)
/-- other labels for what is new -/
theorem Dk.relab {w : World} {base d : Nat} {x : Dr} {am : Option Am} {fo : Option (DataW Unit)} {nf made : Nat} {es : List En} {lab lab' : Nat → Nat} (h : Dk w base d x am fo nf made es lab) (hl : ∀ k, k < w.heap.size → lab' k = lab k) : Dk w base d x am fo nf made es lab' :=
  { h with
    l0 := fun k hk => (hl k (h.dir.lt k hk).2).trans (h.l0 k hk)
    l1 := fun k hk => (hl k (h.fm.low hk).2).trans (h.l1 k hk)
    l2 := fun a ha => by
      obtain ⟨t, hb⟩ := (h.arm a ha).blk
      exact (hl _ (lt_of_block hb)).trans (h.l2 a ha)
    l2g := fun a ha k hk => (hl k ((h.arm a ha).lt k hk).2).trans (h.l2g a ha k hk)
    l3 := fun c hc k hk => (hl k ((h.dir.chg c hc).lt k hk).2).trans (h.l3 c hc k hk)
    l3e := fun e he c hc k hk => (hl k (((h.fil e he).chg c hc).lt k hk).2).trans (h.l3e e he c hc k hk)
    l4 := fun e he k hk => (hl k ((h.fil e he).lt k hk).2).trans (h.l4 e he k hk) }
/-- new blocks that are only read -/
theorem Dk.below {w w' : World} {base d : Nat} {x : Dr} {am : Option Am} {fo : Option (DataW Unit)} {nf made : Nat} {es : List En} {lab : Nat → Nat} (h : Dk w base d x am fo nf made es lab) (hb : Below w.heap.size w w') : Dk w' base d x am fo nf made es (Ytkmohpdcchpndaa.relab lab w.heap.size 3) :=
  (h.relab fun k hk => relab_old hk).keep hb.size fun k hk _ => hb.block k hk
/-- a file of the disk is turned -/
theorem Dk.file {w w' : World} {base d : Nat} {x : Dr} {am : Option Am} {fo : Option (DataW Unit)} {nf made : Nat} {es : List En} {lab : Nat → Nat} (h : Dk w base d x am fo nf made es lab) {e : En} (he : e ∈ es) {f' : Fs} (t : Ft w w' base e.b e.f f') (hrp : Rp f'.last f'.ls f'.now) (hls : ∀ c ∈ f'.ls, c ∈ e.f.ls ∨ ∀ k ∈ c.ro, k < w.heap.size ∧ lab k = 3) :
    Dk w' base d x am fo nf made (setf es e.num f') (Ytkmohpdcchpndaa.relab lab w.heap.size (4 + e.num)) ∧ Kt w w' d x am es x am (setf es e.num f') := by
  have lt := fun k (hk : k ∈ e.f.mut e.b) => ((h.fil e he).lt k hk).2
  have same : ∀ k, k < w.heap.size → lab k ≠ 4 + e.num → w'.heap[k]? = w.heap[k]? := fun k hk hn => t.turn.block k hk fun hm => hn (h.l4 e he k hm)
  have only : ∀ z ∈ es, z.num = e.num → z = e := fun z hz hn => h.one z hz e he hn
  have old : ∀ y ∈ setf es e.num f', y = ⟨e.num, e.b, f'⟩ ∨ (y ∈ es ∧ y.num ≠ e.num) := fun y hy => by
    rcases mem_setf hy with ⟨z, hz, hn, rfl⟩ | h'
    · have := only z hz hn
      subst this
      exact .inl rfl
    · exact .inr h'
  have ro3 : ∀ c ∈ f'.ls, ∀ k ∈ c.ro, k < w.heap.size ∧ lab k = 3 := fun c hc k hk => (hls c hc).elim (fun hm => ⟨(((h.fil e he).chg c hm).lt k hk).2, h.l3e e he c hm k hk⟩) (fun h' => h' k hk)
  have rl : ∀ k, k < w.heap.size → Ytkmohpdcchpndaa.relab lab w.heap.size (4 + e.num) k = lab k := fun k hk => relab_old hk
  refine ⟨{ h with dir := ?_, fm := ?_, arm := ?_, fil := ?_, rp := ?_, at_ := ?_, one := ?_, named := ?_, lasts := ?_, loose := ?_, l0 := ?_, l1 := ?_, l2 := ?_, l2g := ?_, l3 := ?_, l3e := ?_, l4 := ?_ }, ?_⟩
  · exact h.dir.keep (fun k hk => same k (h.dir.lt k hk).2 (by have := h.l0 k hk; omega)) (fun c hc k hk => same k ((h.dir.chg c hc).lt k hk).2 (by have := h.l3 c hc k hk; omega))
  · exact h.fm.keep fun k hk => same k (h.fm.low hk).2 (by have := h.l1 k hk; omega)
  · intro a ha
    have hA := h.arm a ha
    obtain ⟨ty, hb0⟩ := hA.blk
    exact hA.keep (same _ (lt_of_block hb0) (by have := h.l2 a ha; omega)) (fun k hk => same k (hA.lt k hk).2 (by have := h.l2g a ha k hk; omega)) t.turn.size
  · intro y hy
    rcases old y hy with rfl | ⟨hy, hn⟩
    · exact t.fil
    · exact (h.fil y hy).keep (fun k hk => same k ((h.fil y hy).lt k hk).2 (by have := h.l4 y hy k hk; omega)) (fun c hc k hk => same k (((h.fil y hy).chg c hc).lt k hk).2 (by have := h.l3e y hy c hc k hk; omega))
  · intro y hy
    rcases old y hy with rfl | ⟨hy, hn⟩
    · exact hrp
    · exact h.rp y hy
  · intro y hy
    rcases old y hy with rfl | ⟨hy, hn⟩
    · exact h.at_ e he
    · exact h.at_ y hy
  · intro y hy z hz hn
    rcases old y hy with rfl | ⟨hy, hn1⟩ <;> rcases old z hz with rfl | ⟨hz, hn2⟩
    · rfl
    · exact absurd hn.symm hn2
    · exact absurd hn hn1
    · exact h.one y hy z hz hn
  · intro nm num hh
    obtain ⟨z, hz, e1⟩ := h.named nm num hh
    obtain ⟨y, hy, e2⟩ := setf_of (num := e.num) (f' := f') hz
    exact ⟨y, hy, by rw [e2]; exact e1⟩
  · intro nm num hh
    obtain ⟨z, hz, e1⟩ := h.lasts nm num hh
    obtain ⟨y, hy, e2⟩ := setf_of (num := e.num) (f' := f') hz
    exact ⟨y, hy, by rw [e2]; exact e1⟩
  · intro c hc
    refine ⟨fun nm num hh => ?_, fun fr to_ num hh => ?_⟩
    · obtain ⟨z, hz, e1⟩ := (h.loose c hc).1 nm num hh
      obtain ⟨y, hy, e2⟩ := setf_of (num := e.num) (f' := f') hz
      exact ⟨y, hy, by rw [e2]; exact e1⟩
    · obtain ⟨z, hz, e1⟩ := (h.loose c hc).2 fr to_ num hh
      obtain ⟨y, hy, e2⟩ := setf_of (num := e.num) (f' := f') hz
      exact ⟨y, hy, by rw [e2]; exact e1⟩
  · exact fun k hk => (rl k (h.dir.lt k hk).2).trans (h.l0 k hk)
  · exact fun k hk => (rl k (h.fm.low hk).2).trans (h.l1 k hk)
  · intro a ha
    obtain ⟨ty, hb0⟩ := (h.arm a ha).blk
    exact (rl _ (lt_of_block hb0)).trans (h.l2 a ha)
  · exact fun a ha k hk => (rl k ((h.arm a ha).lt k hk).2).trans (h.l2g a ha k hk)
  · exact fun c hc k hk => (rl k ((h.dir.chg c hc).lt k hk).2).trans (h.l3 c hc k hk)
  · intro y hy c hc k hk
    rcases old y hy with rfl | ⟨hy, hn⟩
    · have := ro3 c hc k hk
      exact (rl k this.1).trans this.2
    · exact (rl k (((h.fil y hy).chg c hc).lt k hk).2).trans (h.l3e y hy c hc k hk)
  · intro y hy k hk
    rcases old y hy with rfl | ⟨hy, hn⟩
    · rcases t.sub k hk with h' | h'
      · exact (rl k (lt k h')).trans (h.l4 e he k h')
      · exact relab_new h'
    · exact (rl k ((h.fil y hy).lt k hk).2).trans (h.l4 y hy k hk)
  · refine ⟨t.turn.os, t.turn.tape, t.turn.output, t.turn.size, fun k hk hn => t.turn.block k hk fun hm => hn (.inr (.inr (.inr ⟨e, he, hm⟩))), fun k hk => ?_⟩
    rcases hk with hk | hk | hk | ⟨y, hy, hk⟩
    · exact .inl (.inl hk)
    · exact .inl (.inr (.inl hk))
    · exact .inl (.inr (.inr (.inl hk)))
    · rcases old y hy with rfl | ⟨hy, hn⟩
      · exact (t.sub k hk).imp (fun h' => .inr (.inr (.inr ⟨e, he, h'⟩))) id
      · exact .inl (.inr (.inr (.inr ⟨y, hy, hk⟩)))
end Go.Proofs.Ytkmohpdcchpndaa
