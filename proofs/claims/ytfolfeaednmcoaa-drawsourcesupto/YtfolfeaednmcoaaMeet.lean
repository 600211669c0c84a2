/- Four sources side by side. -/
import Derived.Test.YtfolfeaednmcoaaSrc5
namespace Go.Proofs.Ytfolfeaednmcoaa
open Go.RowKit
set_option linter.unusedVariables false
set_option linter.unusedSimpArgs false
def Ap (a b : List Nat) : Prop := ∀ k ∈ a, k ∉ b
theorem DS.base {w : World} {base base' b : Nat} {rest : List Int} {st : Int} {bs : List Nat} (h : DS w base b rest st bs) (hb : base' ≤ base) : DS w base' b rest st bs := by
  obtain ⟨a, n, c, t, ws, h1, h2, h3, h4, h5, h6, rfl⟩ := h
  exact ⟨a, n, c, t, ws, h1, own_base h2 hb, h3, h4, h5, Nat.le_trans hb h6, rfl⟩
theorem RS.base {w : World} {base base' b : Nat} {rest : List Int} {st : Int} {bs : List Nat} (h : RS w base b rest st bs) (hb : base' ≤ base) : RS w base' b rest st bs := by
  obtain ⟨a, c, h1, h2, h6, rfl⟩ := h
  exact ⟨a, c, h1, own_base h2 hb, Nat.le_trans hb h6, rfl⟩
/-- what was left behind: none, or a source and the document's -/
def Lf (w : World) (base : Nat) (l t : Option Addr) (r1 : List Int) (s1 : Int) (r2 : List Int) (s2 : Int) (b3 b4 : List Nat) : Prop :=
  (l = none ∧ b3 = [] ∧ b4 = []) ∨ ∃ lb tb, l = some ⟨lb, 0, none⟩ ∧ t = some ⟨tb, 0, none⟩ ∧ DS w base lb r1 s1 b3 ∧ RS w base tb r2 s2 b4
structure Inv (w : World) (base sb mb : Nat) (l t : Option Addr) (ra rb : List Int) (sa s2 : Int) (rc rd : List Int) (sc sd : Int) (b1 b2 b3 b4 : List Nat) : Prop where
  s : DS w base sb ra sa b1
  m : RS w base mb rb s2 b2
  l : Lf w base l t rc sc rd sd b3 b4
  a12 : Ap b1 b2
  a13 : Ap b1 b3
  a14 : Ap b1 b4
  a23 : Ap b2 b3
  a24 : Ap b2 b4
  a34 : Ap b3 b4
variable {w w' : World} {base sb mb : Nat} {l t : Option Addr} {ra rb : List Int} {sa s2 : Int} {rc rd : List Int} {sc sd : Int} {b1 b2 b3 b4 : List Nat}
theorem Lf.keep (h : Lf w base l t rc sc rd sd b3 b4) (h3 : ∀ k ∈ b3, w'.heap[k]? = w.heap[k]?) (h4 : ∀ k ∈ b4, w'.heap[k]? = w.heap[k]?) : Lf w' base l t rc sc rd sd b3 b4 := by
  rcases h with h | ⟨lb, tb, e1, e2, hd, hr⟩
  · exact .inl h
  · exact .inr ⟨lb, tb, e1, e2, hd.keep h3, hr.keep h4⟩
theorem Lf.lt3 (h : Lf w base l t rc sc rd sd b3 b4) : ∀ k ∈ b3, base ≤ k ∧ k < w.heap.size := by
  rcases h with ⟨_, rfl, _⟩ | ⟨lb, tb, e1, e2, hd, hr⟩
  · intro k h; cases h
  · exact hd.lt
theorem Lf.lt4 (h : Lf w base l t rc sc rd sd b3 b4) : ∀ k ∈ b4, base ≤ k ∧ k < w.heap.size := by
  rcases h with ⟨_, _, rfl⟩ | ⟨lb, tb, e1, e2, hd, hr⟩
  · intro k h; cases h
  · exact hr.lt
theorem Ap.symm {a b : List Nat} (h : Ap a b) : Ap b a := fun k hk hn => h k hn hk
theorem Ap.step {a a' b : List Nat} (h : Ap a b) (hs : Stp w w' a a') (hb : ∀ k ∈ b, base ≤ k ∧ k < w.heap.size) : Ap a' b := fun k hk hn => by
  rcases hs.new k hk with h1 | h1
  · exact h k h1 hn
  · have := (hb k hn).2; omega
theorem Ap.kept {a a' b : List Nat} (h : Ap a b) (hs : Stp w w' a a') (hb : ∀ k ∈ b, base ≤ k ∧ k < w.heap.size) : ∀ k ∈ b, w'.heap[k]? = w.heap[k]? := fun k hk => hs.old k (hb k hk).2 (fun h1 => h k h1 hk)
/-- all as it was -/
theorem Inv.keep (h : Inv w base sb mb l t ra rb sa s2 rc rd sc sd b1 b2 b3 b4) (hk : ∀ k, base ≤ k → k < w.heap.size → (k ∈ b1 ∨ k ∈ b2 ∨ k ∈ b3 ∨ k ∈ b4) → w'.heap[k]? = w.heap[k]?) : Inv w' base sb mb l t ra rb sa s2 rc rd sc sd b1 b2 b3 b4 :=
  ⟨h.s.keep fun k x => hk k (h.s.lt k x).1 (h.s.lt k x).2 (by simp [x]), h.m.keep fun k x => hk k (h.m.lt k x).1 (h.m.lt k x).2 (by simp [x]), h.l.keep (fun k x => hk k (h.l.lt3 k x).1 (h.l.lt3 k x).2 (by simp [x])) (fun k x => hk k (h.l.lt4 k x).1 (h.l.lt4 k x).2 (by simp [x])), h.a12, h.a13, h.a14, h.a23, h.a24, h.a34⟩
theorem Inv.below (h : Inv w base sb mb l t ra rb sa s2 rc rd sc sd b1 b2 b3 b4) (hb : Below w.heap.size w w') : Inv w' base sb mb l t ra rb sa s2 rc rd sc sd b1 b2 b3 b4 := h.keep fun k _ hk _ => hb.block k hk
theorem Inv.stepS (h : Inv w base sb mb l t ra rb sa s2 rc rd sc sd b1 b2 b3 b4) {ra' : List Int} {sa' : Int} {b1' : List Nat} (hD : DS w' base sb ra' sa' b1') (hs : Stp w w' b1 b1') : Inv w' base sb mb l t ra' rb sa' s2 rc rd sc sd b1' b2 b3 b4 :=
  ⟨hD, h.m.keep (h.a12.kept hs h.m.lt), h.l.keep (h.a13.kept hs h.l.lt3) (h.a14.kept hs h.l.lt4), h.a12.step hs h.m.lt, h.a13.step hs h.l.lt3, h.a14.step hs h.l.lt4, h.a23, h.a24, h.a34⟩
theorem Inv.stepM (h : Inv w base sb mb l t ra rb sa s2 rc rd sc sd b1 b2 b3 b4) {rb' : List Int} {s2' : Int} {b2' : List Nat} (hD : RS w' base mb rb' s2' b2') (hs : Stp w w' b2 b2') : Inv w' base sb mb l t ra rb' sa s2' rc rd sc sd b1 b2' b3 b4 :=
  ⟨h.s.keep (h.a12.symm.kept hs h.s.lt), hD, h.l.keep (h.a23.kept hs h.l.lt3) (h.a24.kept hs h.l.lt4), (h.a12.symm.step hs h.s.lt).symm, h.a13, h.a14, h.a23.step hs h.l.lt3, h.a24.step hs h.l.lt4, h.a34⟩
/-- two sources and the blocks of each -/
structure Duo (w : World) (base lb tb : Nat) (rc rd : List Int) (sc sd : Int) (b3 b4 : List Nat) : Prop where
  s : DS w base lb rc sc b3
  m : RS w base tb rd sd b4
  ap : Ap b3 b4
theorem Duo.stepS {lb tb : Nat} (h : Duo w base lb tb rc rd sc sd b3 b4) {rc' : List Int} {sc' : Int} {b3' : List Nat} (hD : DS w' base lb rc' sc' b3') (hs : Stp w w' b3 b3') : Duo w' base lb tb rc' rd sc' sd b3' b4 := ⟨hD, h.m.keep (h.ap.kept hs h.m.lt), h.ap.step hs h.m.lt⟩
theorem Duo.stepM {lb tb : Nat} (h : Duo w base lb tb rc rd sc sd b3 b4) {rd' : List Int} {sd' : Int} {b4' : List Nat} (hD : RS w' base tb rd' sd' b4') (hs : Stp w w' b4 b4') : Duo w' base lb tb rc rd' sc sd' b3 b4' := ⟨h.s.keep (h.ap.symm.kept hs h.s.lt), hD, (h.ap.symm.step hs h.s.lt).symm⟩
/-- a copy is laid: it is left behind, or goes on -/
theorem Inv.copied (h : Inv w base sb mb l t ra rb sa s2 rc rd sc sd b1 b2 b3 b4) (hbase : base ≤ w.heap.size) {w1 w2 : World} {c d : Nat} {b5 b6 : List Nat} (hD : DS w1 w.heap.size c ra sa b5) (hB1 : Below w.heap.size w w1) (hR : RS w2 w1.heap.size d rb s2 b6) (hB2 : Below w1.heap.size w1 w2) (e : sa = s2 ∧ ra = rb) :
    Inv w2 base sb mb (some ⟨c, 0, none⟩) (some ⟨d, 0, none⟩) ra rb sa s2 ra rb sa s2 b1 b2 b5 b6 ∧ Inv w2 base c mb (some ⟨sb, 0, none⟩) (some ⟨d, 0, none⟩) ra rb sa s2 ra rb sa s2 b5 b2 b1 b6 := by
  have k1 := fun k x => (h.s.lt k x)
  have k2 := fun k x => (h.m.lt k x)
  have k5 := fun k x => (hD.lt k x)
  have k6 := fun k x => (hR.lt k x)
  have z1 := hB1.size
  have hS : DS w2 base sb ra sa b1 := h.s.keep fun k x => (hB2.block k (by have := k1 k x; omega)).trans (hB1.block k (k1 k x).2)
  have hM : RS w2 base mb rb s2 b2 := h.m.keep fun k x => (hB2.block k (by have := k2 k x; omega)).trans (hB1.block k (k2 k x).2)
  have hD2 : DS w2 base c ra sa b5 := (hD.keep fun k x => hB2.block k (k5 k x).2).base hbase
  have hR2 : RS w2 base d rb s2 b6 := hR.base (by omega)
  have p15 : Ap b1 b5 := fun k x y => by have := k1 k x; have := k5 k y; omega
  have p16 : Ap b1 b6 := fun k x y => by have := k1 k x; have := k6 k y; omega
  have p25 : Ap b2 b5 := fun k x y => by have := k2 k x; have := k5 k y; omega
  have p26 : Ap b2 b6 := fun k x y => by have := k2 k x; have := k6 k y; omega
  have p56 : Ap b5 b6 := fun k x y => by have := k5 k x; have := k6 k y; omega
  exact ⟨⟨hS, hM, .inr ⟨c, d, rfl, rfl, hD2, hR2⟩, h.a12, p15, p16, p25, p26, p56⟩, ⟨hD2, hM, .inr ⟨sb, d, rfl, rfl, hS, hR2⟩, p25.symm, p15.symm, p56, h.a12.symm, p26, p16⟩⟩
end Go.Proofs.Ytfolfeaednmcoaa
