/-
  D's steps: plain.
-/
import Derived.Test.YtfhobglcploaoaaDoorTb
import Derived.Test.YtfhobglcploaoaaDoorKPi
namespace Go.Proofs.YtfhobglcploaoaaDoor
open Go.RowKit
set_option linter.unusedVariables false
set_option linter.unusedSimpArgs false
set_option maxRecDepth 100000
theorem alloc_cell (w : World) (X : Obj) {b o : Nat} (h : b < w.heap.size) : (w.alloc X).cell? ⟨b, o, none⟩ = w.cell? ⟨b, o, none⟩ := ((Below.refl _ w).alloc (Nat.le_refl _) X).cell (p := ⟨b, o, none⟩) h
theorem al_size (w : World) (o : Obj) : (w.alloc o).heap.size = w.heap.size + 1 := Array.size_push _
theorem two_new (w : World) (x y : Obj) : ((w.alloc x).alloc y).heap[w.heap.size]? = some x ∧ ((w.alloc x).alloc y).heap[w.heap.size + 1]? = some y := by
  refine ⟨(Gr.alloc _ _).below.cells (heap_alloc_new w _), ?_⟩
  have := heap_alloc_new (w.alloc x) y
  rwa [al_size] at this
theorem two_cells {W : World} {b : Nat} {x0 x1 : Value} {t : TypeId} (h : W.heap[b]? = some (.cells #[x0, x1] t (0, 0))) : W.cell? ⟨b, 0, none⟩ = some x0 ∧ W.cell? ⟨b, 1, none⟩ = some x1 := by
  refine ⟨?_, ?_⟩ <;> (rw [cell_block h]; rfl)
theorem three_cells {W : World} {b : Nat} {x0 x1 x2 : Value} {t : TypeId} (h : W.heap[b]? = some (.cells #[x0, x1, x2] t (0, 0))) : W.cell? ⟨b, 0, none⟩ = some x0 ∧ W.cell? ⟨b, 1, none⟩ = some x1 ∧ W.cell? ⟨b, 2, none⟩ = some x2 := by
  refine ⟨?_, ?_, ?_⟩ <;> (rw [cell_block h]; rfl)
theorem four_cells {W : World} {b : Nat} {x0 x1 x2 x3 : Value} {t : TypeId} (h : W.heap[b]? = some (.cells #[x0, x1, x2, x3] t (0, 0))) : W.cell? ⟨b, 0, none⟩ = some x0 ∧ W.cell? ⟨b, 1, none⟩ = some x1 ∧ W.cell? ⟨b, 2, none⟩ = some x2 ∧ W.cell? ⟨b, 3, none⟩ = some x3 := by
  refine ⟨?_, ?_, ?_, ?_⟩ <;> (rw [cell_block h]; rfl)
theorem okS_len {s : ByteArray} (h : okS s) : s.data.toList.length ≤ 2 ^ 61 := Nat.le_trans (show s.data.toList.length ≤ 140737488355328 from h) (by decide)
theorem okS_len2 {s : ByteArray} (h : okS s) : s.data.toList.length ≤ 2 ^ 62 := Nat.le_trans (show s.data.toList.length ≤ 140737488355328 from h) (by decide)
theorem ba_back (s : ByteArray) : (⟨s.data.toList.toArray⟩ : ByteArray) = s := by cases s; simp
/-- the first of a list that a test takes -/
theorem idx_at {α : Type} {f : α → Bool} {l : List α} {i : Nat} {o : α} (h1 : ∀ (j : Nat) (y : α), j < i → l[j]? = some y → f y = false) (h2 : l[i]? = some o) (h3 : f o = true) : l.findIdx? f = some i := by
  have hi := List.getElem?_eq_some_iff.1 h2
  exact List.findIdx?_eq_some_iff_getElem.2 ⟨hi.1, by rw [hi.2]; exact h3, fun j hj => by have := h1 j (l[j]'(by have := hi.1; omega)) hj (List.getElem?_eq_getElem _); simp [this]⟩
theorem idx_no {α : Type} {f : α → Bool} {l : List α} (h1 : ∀ (j : Nat) (y : α), l[j]? = some y → f y = false) : l.findIdx? f = none :=
  List.findIdx?_eq_none_iff.2 (fun x hx => by obtain ⟨j, hj⟩ := List.getElem?_of_mem hx; exact h1 j x hj)
theorem idx_spec {α : Type} {f : α → Bool} {l : List α} {i : Nat} (h : l.findIdx? f = some i) : ∃ o, l[i]? = some o ∧ f o = true := by
  obtain ⟨h1, h2, _⟩ := List.findIdx?_eq_some_iff_getElem.1 h
  exact ⟨_, List.getElem?_eq_getElem h1, h2⟩
/-- a number, or -1 -/
def ixI (o : Option Nat) : Int := match o with | some i => (i : Int) | none => -1
/-- whether a line takes a method and a path -/
def tkB (pa me m p : ByteArray) : Bool := ((me.toList == [42]) || (me.toList == m.toList)) && Kk.pathM pa.data.toList p.data.toList
/-- whether a pattern takes a host -/
def takB (s : ByteArray) (h : ByteArray) : Bool := Kk.hostM s.data.toList h.data.toList
def fndF (l : List Ho) (h : ByteArray) : Option Nat := l.findIdx? (fun o => takB o.ho h)
def rulF (l : List En) (m p : ByteArray) : Option Nat := l.findIdx? (fun o => tkB o.pa o.me m p)
def alwF (l : List Pm) (m p : ByteArray) : Option Nat := l.findIdx? (fun o => tkB o.pa o.me m p)
def alwB (l : List Pm) (m p : ByteArray) : Bool := match alwF l m p with | some i => (match l[i]? with | some o => o.al | none => true) | none => true
theorem alwB_at {l : List Pm} {m p : ByteArray} {i : Nat} {o : Pm} (h : alwF l m p = some i) (h2 : l[i]? = some o) : alwB l m p = o.al := by unfold alwB; rw [h]; simp only [h2]
theorem alwB_no {l : List Pm} {m p : ByteArray} (h : alwF l m p = none) : alwB l m p = true := by unfold alwB; rw [h]
/-- the service by a real -/
def gtF (x u : Nat) : Bool := FloatKind.f64.format.order x u == some .gt
def plF (l : List Sh) (u : Nat) : Nat := l.findIdx (fun s => gtF s.up u)
def shF (l : List Sh) (u : Nat) : ByteArray := match l[min (plF l u) (l.length - 1)]? with | some s => s.sv | none => ⟨#[]⟩
theorem plF_at {l : List Sh} {u i : Nat} {o : Sh} (h1 : ∀ (j : Nat) (y : Sh), j < i → l[j]? = some y → gtF y.up u = false) (h2 : l[i]? = some o) (h3 : gtF o.up u = true) : plF l u = i := by
  have hi := List.getElem?_eq_some_iff.1 h2
  unfold plF
  rw [List.findIdx_eq hi.1]
  refine ⟨by rw [hi.2]; exact h3, fun j hj => ?_⟩
  have := h1 j (l[j]'(by have := hi.1; omega)) hj (List.getElem?_eq_getElem _)
  simpa using this
theorem plF_no {l : List Sh} {u : Nat} (h1 : ∀ (j : Nat) (y : Sh), l[j]? = some y → gtF y.up u = false) : plF l u = l.length :=
  List.findIdx_eq_length_of_false (fun x hx => by obtain ⟨j, hj⟩ := List.getElem?_of_mem hx; exact h1 j x hj)
theorem shF_at {l : List Sh} {u i : Nat} {o : Sh} (h1 : ∀ (j : Nat) (y : Sh), j < i → l[j]? = some y → gtF y.up u = false) (h2 : l[i]? = some o) (h3 : gtF o.up u = true) : shF l u = o.sv := by
  unfold shF
  have hi := (List.getElem?_eq_some_iff.1 h2).1
  rw [plF_at h1 h2 h3, show min i (l.length - 1) = i by omega, h2]
theorem shF_last {l : List Sh} {u i : Nat} {o : Sh} (h1 : ∀ (j : Nat) (y : Sh), j < i → l[j]? = some y → gtF y.up u = false) (h2 : l[i]? = some o) (h3 : i + 1 = l.length) : shF l u = o.sv := by
  cases hg : gtF o.up u
  · have : plF l u = l.length := plF_no (fun j y hy => by
      by_cases hj : j < i
      · exact h1 j y hj hy
      · have := (List.getElem?_eq_some_iff.1 hy).1
        obtain rfl : j = i := by omega
        rw [h2] at hy; cases hy; exact hg)
    unfold shF
    rw [this, show min l.length (l.length - 1) = i by omega, h2]
  · exact shF_at h1 h2 hg
theorem shF_nil {l : List Sh} {u : Nat} (h : l.length = 0) : shF l u = ⟨#[]⟩ := by
  have : l = [] := List.eq_nil_of_length_eq_zero h
  subst this; rfl
end Go.Proofs.YtfhobglcploaoaaDoor
