/-
  Tables in memory, and when they are the same: plain.
-/
import Derived.Test.YtfhobglcploaoaaDoorTurn
import Derived.Shelf.GgSortFunc.Insertion
import Derived.Test.YtfhobglcploaoaaDoorProg
import Derived.BigQuiet
import Derived.OwnWalk
namespace Go.Proofs.YtfhobglcploaoaaDoor
open Go.RowKit
set_option linter.unusedVariables false
set_option linter.unusedSimpArgs false
set_option maxRecDepth 100000
theorem hideL {p : Prop} (h : p) : Hid p := h
/-- a world that has drawn, and laid blocks, and nothing else -/
def Gr (w w' : World) : Prop := ∃ q os, w' = Go.Sort.grow (w.drewN q) os
theorem grow_drewN (w : World) (os : Array Obj) (q : Nat) : (Go.Sort.grow w os).drewN q = Go.Sort.grow (w.drewN q) os := rfl
theorem Gr.refl (w : World) : Gr w w := ⟨0, #[], by rw [Go.Sort.grow_empty]; rfl⟩
theorem Gr.trans {a b c : World} (h : Gr a b) (g : Gr b c) : Gr a c := by
  obtain ⟨q, os, rfl⟩ := h
  obtain ⟨r, ps, rfl⟩ := g
  exact ⟨q + r, os ++ ps, by rw [grow_drewN, drew_two, Go.Sort.grow_grow]⟩
theorem Gr.alloc (w : World) (o : Obj) : Gr w (w.alloc o) := ⟨0, #[o], by rw [Go.Sort.alloc_eq_grow]; rfl⟩
theorem Gr.drewN (w : World) (q : Nat) : Gr w (w.drewN q) := ⟨q, #[], by rw [Go.Sort.grow_empty]⟩
theorem Gr.below {w w' : World} (h : Gr w w') : Below w.heap.size w w' := by
  obtain ⟨q, os, rfl⟩ := h
  refine ⟨rfl, rfl, rfl, ?_, fun k hk => ?_⟩
  · rw [Go.Sort.size_grow]; exact Nat.le_add_right _ _
  · show (w.heap ++ os)[k]? = _
    rw [Array.getElem?_append_left hk]
theorem Gr.cell {w w' : World} (h : Gr w w') {p : Addr} {v : Value} (hc : w.cell? p = some v) : w'.cell? p = some v := cell_of_below h.below hc
/-- things of k cells, one behind the other -/
def Cel (w : World) (a : Option Addr) (k : Nat) (rows : List (List Value)) : Prop := rows = [] ∨ ∃ g off, a = some ⟨g, off, none⟩ ∧ ∀ (i : Nat) (r : List Value), rows[i]? = some r → ∀ (j : Nat) (u : Value), r[j]? = some u → w.cell? ⟨g, off + i * k + j, none⟩ = some u
theorem Cel.below {w w' : World} {a : Option Addr} {k : Nat} {rows : List (List Value)} (h : Cel w a k rows) (hb : Below w.heap.size w w') : Cel w' a k rows := by
  rcases h with h | ⟨g, off, h1, h2⟩
  · exact .inl h
  · exact .inr ⟨g, off, h1, fun i r hi j u hu => cell_of_below hb (h2 i r hi j u hu)⟩
theorem Cel.at_ {w : World} {a : Option Addr} {k : Nat} {α : Type} {f : α → List Value} {l : List α} (h : Cel w a k (l.map f)) {i : Nat} {x : α} (hi : l[i]? = some x) : ∃ g off, a = some ⟨g, off, none⟩ ∧ ∀ (j : Nat) (u : Value), (f x)[j]? = some u → w.cell? ⟨g, off + i * k + j, none⟩ = some u := by
  rcases h with h | ⟨g, off, h1, h2⟩
  · simp at h; subst h; simp at hi
  · exact ⟨g, off, h1, fun j u hu => h2 i (f x) (by simp [hi]) j u hu⟩
def okS (s : ByteArray) : Prop := s.size ≤ 140737488355328
/-- a share, a permit, an entry, a host, tables: what they say, and where their lists lie -/
structure Sh where
  sv : ByteArray
  up : Nat
def Sh.row (t : Sh) : List Value := [.string t.sv, .float .f64 t.up]
structure Pm where
  pa : ByteArray
  me : ByteArray
  al : Bool
def Pm.row (t : Pm) : List Value := [.string t.pa, .string t.me, .bool t.al]
structure En where
  pa : ByteArray
  me : ByteArray
  shs : List Sh
  sa : Option Addr
  sc : Nat
def En.row (t : En) : List Value := [.string t.pa, .string t.me, .slice t.sa t.shs.length t.sc]
structure Ho where
  ho : ByteArray
  ro : ByteArray
  ens : List En
  ea : Option Addr
  ec : Nat
  pms : List Pm
  qa : Option Addr
  qc : Nat
def Ho.row (t : Ho) : List Value := [.string t.ho, .string t.ro, .slice t.ea t.ens.length t.ec, .slice t.qa t.pms.length t.qc]
structure Tb where
  ver : Int
  hos : List Ho
  ha : Option Addr
  hc : Nat
  svs : List ByteArray
  sa : Option Addr
  sc : Nat
def strR (s : ByteArray) : List Value := [.string s]
def Tb.val (t : Tb) : Value := .agg #[.int .i64 t.ver, .slice t.ha t.hos.length t.hc, .slice t.sa t.svs.length t.sc]
structure Ein (W : World) (o : En) : Prop where
  es : Cel W o.sa 2 (o.shs.map Sh.row)
  le : o.shs.length ≤ 140737488355328
  sp : okS o.pa
  sv : ∀ s ∈ o.shs, okS s.sv
structure Hin (W : World) (o : Ho) : Prop where
  es : Cel W o.ea 3 (o.ens.map En.row)
  ps : Cel W o.qa 3 (o.pms.map Pm.row)
  le : o.ens.length ≤ 140737488355328
  lp : o.pms.length ≤ 140737488355328
  each : ∀ e ∈ o.ens, Ein W e
  pm : ∀ p ∈ o.pms, okS p.pa
  sz : okS o.ho
  sr : okS o.ro
structure Tin (W : World) (o : Tb) : Prop where
  hs : Cel W o.ha 4 (o.hos.map Ho.row)
  ss : Cel W o.sa 1 (o.svs.map strR)
  lh : o.hos.length ≤ 140737488355328
  ls : o.svs.length ≤ 140737488355328
  each : ∀ e ∈ o.hos, Hin W e
theorem Ein.below {w w' : World} {o : En} (h : Ein w o) (hb : Below w.heap.size w w') : Ein w' o := ⟨h.es.below hb, h.le, h.sp, h.sv⟩
theorem Hin.below {w w' : World} {o : Ho} (h : Hin w o) (hb : Below w.heap.size w w') : Hin w' o := ⟨h.es.below hb, h.ps.below hb, h.le, h.lp, fun e he => (h.each e he).below hb, h.pm, h.sz, h.sr⟩
theorem Tin.below {w w' : World} {o : Tb} (h : Tin w o) (hb : Below w.heap.size w w') : Tin w' o := ⟨h.hs.below hb, h.ss.below hb, h.lh, h.ls, fun e he => (h.each e he).below hb⟩
/-- lists that are the same, one by one -/
def eqL {α : Type} (f : α → α → Bool) (l r : List α) : Bool := decide (l.length = r.length) && (List.range l.length).all (fun i => match l[i]?, r[i]? with | some a, some b => f a b | _, _ => true)
theorem eqL_len {α : Type} {f : α → α → Bool} {l r : List α} (h : ¬ l.length = r.length) : eqL f l r = false := by unfold eqL; simp [h]
theorem eqL_no {α : Type} {f : α → α → Bool} {l r : List α} {i : Nat} {a b : α} (h1 : l[i]? = some a) (h2 : r[i]? = some b) (h3 : f a b = false) : eqL f l r = false := by
  cases h : eqL f l r
  · rfl
  · unfold eqL at h
    rw [Bool.and_eq_true] at h
    have := List.all_eq_true.1 h.2 i (by simpa using (List.getElem?_eq_some_iff.1 h1).1)
    rw [h1, h2] at this
    exact absurd this (by simp [h3])
theorem eqL_yes {α : Type} {f : α → α → Bool} {l r : List α} (h : l.length = r.length) (h2 : ∀ (j : Nat) (a b : α), j < l.length → l[j]? = some a → r[j]? = some b → f a b = true) : eqL f l r = true := by
  unfold eqL
  rw [Bool.and_eq_true]
  refine ⟨by simpa using h, List.all_eq_true.2 fun i hi => ?_⟩
  have hi' : i < l.length := by simpa using hi
  rw [List.getElem?_eq_getElem hi', List.getElem?_eq_getElem (by omega)]
  exact h2 i _ _ hi' (List.getElem?_eq_getElem _) (List.getElem?_eq_getElem _)
def feq (x y : Nat) : Bool := FloatKind.f64.format.order x y == some .eq
def strB (a b : ByteArray) : Bool := a.toList == b.toList
def shB (a b : Sh) : Bool := (a.sv.toList == b.sv.toList) && feq a.up b.up
def pmB (a b : Pm) : Bool := (a.pa.toList == b.pa.toList) && ((a.me.toList == b.me.toList) && (a.al == b.al))
def enB (a b : En) : Bool := (a.pa.toList == b.pa.toList) && ((a.me.toList == b.me.toList) && eqL shB a.shs b.shs)
def hoB (a b : Ho) : Bool := (a.ho.toList == b.ho.toList) && ((a.ro.toList == b.ro.toList) && (eqL enB a.ens b.ens && eqL pmB a.pms b.pms))
def tbB (a b : Tb) : Bool := (a.ver == b.ver) && (eqL hoB a.hos b.hos && eqL strB a.svs b.svs)
theorem st_float (w : World) (a : Addr) (b : Nat) (m : Mode) : (store a (.float .f64 b) m).run Tryd.prog w = stored Tryd.prog w a (.float .f64 b) m := run_store Tryd.prog w a _ m rfl
theorem eqf' (n x y : Nat) (W : World) : (Op.equalIn (n + 1) 27 (.float .f64 x) (.float .f64 y)).run Tryd.prog W = .ok (FloatKind.f64.format.order x y == some .eq) W := by
  unfold Op.equalIn
  simp only [Sem.run_bind, run_underlying Tryd.underlying27, Result.andThen_ok]
  rfl
theorem neqSh (a b : Sh) (W : World) : (binOp .neq 52 (.agg #[.string a.sv, .float .f64 a.up]) (.agg #[.string b.sv, .float .f64 b.up])).run Tryd.prog W = .ok (.bool (!shB a b)) W := by
  have h : ∀ n, (Op.equalIn (n + 1) 27 (.float .f64 a.up) (.float .f64 b.up)).run Tryd.prog W = .ok (feq a.up b.up) W := fun n => eqf' n a.up b.up W
  unfold shB
  simp [go_sem, h]
  by_cases h1 : a.sv.toList = b.sv.toList <;> cases h2 : feq a.up b.up <;> simp [h1, h2]
theorem neqPm (a b : Pm) (W : World) : (binOp .neq 64 (.agg #[.string a.pa, .string a.me, .bool a.al]) (.agg #[.string b.pa, .string b.me, .bool b.al])).run Tryd.prog W = .ok (.bool (!pmB a b)) W := by
  unfold pmB
  simp [go_sem]
  by_cases h1 : a.pa.toList = b.pa.toList <;> by_cases h2 : a.me.toList = b.me.toList <;> by_cases h3 : a.al = b.al <;> simp [h1, h2, h3]
end Go.Proofs.YtfhobglcploaoaaDoor
