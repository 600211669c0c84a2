/-
  A line read: what holds at each label, and the walk from the labels wrong, end and quoted on.
-/
import Derived.Test.YtjmgngocpokpgaaDoorMdl
namespace Go.Proofs.YtjmgngocpokpgaaDoor
open Go.RowKit
set_option linter.unusedVariables false
set_option linter.unusedSimpArgs false
/-- What every jump keeps of the frame. -/
structure Fr (b : Nat) (a : Act) : Prop where
  nod : a.defers = []
  size : a.tmps.size = 73
  ptr : a.tmps.getD 6 undef = .pointer (some ⟨b, 0, none⟩)
/-- The reader at a place. -/
structure At (w : World) (l : List UInt8) (num : Int) (w' : World) (p : Nat) (tv : Value) (ts : List Tk) : Prop where
  rd : Rd w' w.heap.size w.heap.size l num p tv ts
  le : p ≤ l.length
  few : ts.length ≤ p
  bel : Below w.heap.size w w'
def J2 (w : World) (l : List UInt8) (num : Int) (a : Act) (w' : World) : Prop := Fr w.heap.size a ∧ ∃ n p tv ts, At w l num w' p tv ts ∧ l.length < n + p ∧ readF l num = conF num l n p ts
def J3 (w : World) (l : List UInt8) (num : Int) (a : Act) (w' : World) : Prop := Fr w.heap.size a ∧ ∃ p tv ts, At w l num w' p tv ts ∧ ovrF (l.drop p) = false ∧ readF l num = scaF num l p ts
def J4 (w : World) (l : List UInt8) (num : Int) (a : Act) (w' : World) : Prop := Fr w.heap.size a ∧ ∃ p tv ts, At w l num w' p tv ts ∧ p < l.length ∧ readF l num = qtdF num l p ts
def J1 (w : World) (l : List UInt8) (num : Int) (a : Act) (w' : World) : Prop := Fr w.heap.size a ∧ ∃ p tv ts, Rd w' w.heap.size w.heap.size l num p tv ts ∧ Below w.heap.size w w' ∧ readF l num = (ts, 0)
def J0 (w : World) (l : List UInt8) (num : Int) (a : Act) (w' : World) : Prop := a.defers = [] ∧ a.tmps.size = 73 ∧ ∃ e, a.tmps.getD 10 undef = .int .i64 e ∧ readF l num = ([], e) ∧ e ≠ 0 ∧ Below w.heap.size w w'
def JJ (w : World) (l : List UInt8) (num : Int) : Nat → Act → World → Prop
  | 0 => J0 w l num
  | 1 => J1 w l num
  | 2 => J2 w l num
  | 3 => J3 w l num
  | 4 => J4 w l num
  | _ => fun _ _ => False
def placeOf (b : Nat) (w : World) : Nat := (Lib.intOf ((w.cell? ⟨b, 2, none⟩).getD undef)).toNat
def mu (w : World) (l : List UInt8) : Nat → Act → World → Nat
  | 0, _, _ => 0
  | 1, _, _ => 0
  | 4, _, _ => 1
  | 3, _, _ => 2
  | _, _, w' => 3 + (l.length - placeOf w.heap.size w')
/-- What read answers. -/
def RdE (w : World) (l : List UInt8) (num : Int) (e : Ending) (w' : World) : Prop := Below w.heap.size w w' ∧ ∃ v, e = .returned (.tuple #[v, .int .i64 (readF l num).2]) ∧ w'.ownsRow w.heap.size 39 5 v (readF l num).1.length ((readF l num).1.flatMap Tk.row)
/-- A function's scope. -/
def scpOf (f : Func) : Code := match f.body with
  | some (.seq _ (.scope c)) => c
  | _ => .skip
set_option maxHeartbeats 4000000 in
theorem at0 (l : List UInt8) (num : Int) (w : World) (Jx : Nat → Act → World → Prop) (a : Act) (w1 : World) (hj : J0 w l num a w1) : ∃ rest, findLabel (scpOf Tryd.f29) 0 = some rest ∧ rest.wp Tryd.prog (jmps Jx (bodyPost Tryd.prog Tryd.f29 (RdE w l num))) a w1 := by
  refine ⟨_, rfl, ?_⟩
  obtain ⟨h1, h2, e, h3, h4, h5, h6⟩ := hj
  obtain ⟨tm, df⟩ := a
  dsimp only at h1 h2 h3
  subst h1
  obtain ⟨u0, u1, u2, u3, u4, u5, u6, u7, u8, u9, u10, u11, u12, u13, u14, u15, u16, u17, u18, u19, u20, u21, u22, u23, u24, u25, u26, u27, u28, u29, u30, u31, u32, u33, u34, u35, u36, u37, u38, u39, u40, u41, u42, u43, u44, u45, u46, u47, u48, u49, u50, u51, u52, u53, u54, u55, u56, u57, u58, u59, u60, u61, u62, u63, u64, u65, u66, u67, u68, u69, u70, u71, u72, rfl⟩ := frame73 tm h2
  obtain rfl : u10 = .int .i64 e := h3
  clear h2
  have H4 := hide2 h4
  clear h4
  go_wp2
  refine jmps_ret ?_
  refine bodyPost_ret (v := .tuple #[.slice none 0 0, .int .i64 e]) (by simp [results, Tryd.results29, go_sem]) rfl ?_
  exact ⟨h6, _, by rw [H4.out], by rw [H4.out]; exact World.ownsRow_nil _ _ _ _⟩
set_option maxHeartbeats 4000000 in
theorem at1 (l : List UInt8) (num : Int) (w : World) (Jx : Nat → Act → World → Prop) (a : Act) (w1 : World) (hj : J1 w l num a w1) : ∃ rest, findLabel (scpOf Tryd.f29) 1 = some rest ∧ rest.wp Tryd.prog (jmps Jx (bodyPost Tryd.prog Tryd.f29 (RdE w l num))) a w1 := by
  refine ⟨_, rfl, ?_⟩
  obtain ⟨⟨h1, h2, h3⟩, hJ⟩ := hj
  obtain ⟨tm, df⟩ := a
  dsimp only at h1 h2 h3
  subst h1
  obtain ⟨u0, u1, u2, u3, u4, u5, u6, u7, u8, u9, u10, u11, u12, u13, u14, u15, u16, u17, u18, u19, u20, u21, u22, u23, u24, u25, u26, u27, u28, u29, u30, u31, u32, u33, u34, u35, u36, u37, u38, u39, u40, u41, u42, u43, u44, u45, u46, u47, u48, u49, u50, u51, u52, u53, u54, u55, u56, u57, u58, u59, u60, u61, u62, u63, u64, u65, u66, u67, u68, u69, u70, u71, u72, rfl⟩ := frame73 tm h2
  obtain rfl : u6 = .pointer (some ⟨w.heap.size, 0, none⟩) := h3
  clear h2
  obtain ⟨p, tv, ts, hR, hb, hE⟩ := hJ
  have c3 := hR.c3
  have HR := hide2 hR
  have HE := hide2 hE
  clear hR hE
  go_wp2
  refine jmps_ret ?_
  refine bodyPost_ret (v := .tuple #[tv, .int .i64 0]) (by simp [results, Tryd.results29, go_sem]) rfl ?_
  exact ⟨hb, _, by rw [HE.out], by rw [HE.out]; exact HR.out.own⟩
/-- Where a text begins with a byte. -/
theorem first_of {l : List UInt8} {p : Nat} {c : UInt8} {r : List UInt8} (h : l.drop p = c :: r) : l[p]? = some c ∧ p < l.length := by
  have : (l.drop p)[0]? = some c := by rw [h]; rfl
  rw [List.getElem?_drop] at this
  exact ⟨this, ix_lt this⟩
end Go.Proofs.YtjmgngocpokpgaaDoor
