/-
  What a name's number is; the map of the files.
-/
import Derived.Test.YtkmohpdcchpndaaName
import Derived.Maps.OwnSet
namespace Go.Proofs.Ytkmohpdcchpndaa
open Go.RowKit
set_option linter.unusedVariables false
set_option linter.unusedSimpArgs false
theorem zero3 (w : World) : (zeroValue 3).run Try.prog w = .ok (.int .i64 0) w := by kernel_rfl
theorem zero70 (w : World) : (zeroValue 70).run Try.prog w = .ok (.pointer none) w := by kernel_rfl
/-- the directory has that name, with that number -/
def Has1 (od : Option (DataW Unit)) (nm : ByteArray) (num : Int) : Prop := ∃ D, od = some D ∧ ∀ z, D.atKey (keyOf nm) z = .lit (.int .i64 num)
def Not1 (od : Option (DataW Unit)) (nm : ByteArray) : Prop := ∀ D, od = some D → ∀ z, D.atKey (keyOf nm) z = z
theorem has_not {od : Option (DataW Unit)} {nm : ByteArray} {num : Int} (h : Has1 od nm num) (g : Not1 od nm) : False := by
  obtain ⟨D, e, h⟩ := h
  have h1 := g D e .nil
  rw [h] at h1
  cases h1
theorem has_one {od : Option (DataW Unit)} {nm : ByteArray} {a b : Int} (h : Has1 od nm a) (g : Has1 od nm b) : a = b := by
  obtain ⟨D, e, h⟩ := h
  obtain ⟨D', e', g⟩ := g
  rw [e] at e'
  cases e'
  have := (h .nil).symm.trans (g .nil)
  injection this with this
  injection this
theorem dm_look {w : World} {base : Nat} {mo : Option Nat} {od : Option (DataW Unit)} {n : Nat} (h : Dm w base (.map mo) od n) (nm : ByteArray) (hs : nm.size ≤ maxLen) :
    (∃ num, (Instr.lookup 62 (.map mo) (.string nm) true).run Try.prog w = .ok (.tuple #[.int .i64 num, .bool true]) w ∧ Has1 od nm num ∧ (Lit.int .i64 num).wf = true) ∨ ((Instr.lookup 62 (.map mo) (.string nm) true).run Try.prog w = .ok (.tuple #[.int .i64 0, .bool false]) w ∧ Not1 od nm) := by
  have hkey := Go.WideMaps.keyOf_string_mk (P := Try.prog) Try.underlying9 hs
  rcases h with ⟨e, rfl⟩ | ⟨m, D, e, rfl, _, ⟨es, clock, hb, F, _, hD⟩, _⟩
  · cases e
    have := Maps.look_nil (w := w) true (Go.Maps.string_keyed Try.underlying9) Try.underlying62 (zero3 w) hkey
    exact .inr ⟨this, fun D e => by cases e⟩
  · cases e
    rcases Maps.fit_look true (Go.Maps.string_keyed Try.underlying9) Try.underlying62 (zero3 w) hb F hkey with ⟨hrun, _, hat⟩ | ⟨e0, y, _, _, hrun, hRv, hat, _⟩
    · exact .inr ⟨hrun, fun D' e' z => by cases e'; rw [hD]; exact hat z⟩
    · obtain ⟨c, hv, hy, hwc⟩ := plainElem_int_inv Try.underlying3 hRv
      rw [hv] at hrun
      exact .inl ⟨c, hrun, ⟨D, rfl, fun z => by rw [hD, hat z, hy]⟩, hwc⟩
/-- how a pointer to a file reads: by its block's number -/
def Rf : Value → Option (DataW Unit × List MemPlace)
  | .pointer (some ⟨b, 0, none⟩) => some (.lit (.int .i64 b), [])
  | .pointer none => some (.lit (.int .i64 (-1)), [])
  | _ => none
theorem rf_inv {v : Value} {b : Nat} {ps : List MemPlace} (h : Rf v = some (.lit (.int .i64 b), ps)) : v = .pointer (some ⟨b, 0, none⟩) := by
  unfold Rf at h
  split at h
  · rename_i b'
    simp at h
    obtain ⟨e, _⟩ := h
    have : b' = b := by omega
    rw [this]
  · simp at h
  · cases h
/-- the map of the files: none, or numbers and blocks -/
def Fm (w : World) (base : Nat) (mv : Value) (od : Option (DataW Unit)) (n : Nat) : Prop :=
  (mv = .map none ∧ od = none) ∨ ∃ m D, mv = .map (some m) ∧ od = some D ∧ base ≤ m ∧ w.ownsMap Try.prog 3 Rf m n D ∧ Go.Maps.Tidy D
theorem Fm.low {w : World} {base : Nat} {mv : Value} {od : Option (DataW Unit)} {n : Nat} (h : Fm w base mv od n) {k : Nat} (hk : mblk mv = some k) : base ≤ k ∧ k < w.heap.size := by
  rcases h with ⟨rfl, _⟩ | ⟨m, D, rfl, _, h1, h2, _⟩
  · cases hk
  · cases hk; exact ⟨h1, h2.lt⟩
theorem Fm.keep {w w' : World} {base : Nat} {mv : Value} {od : Option (DataW Unit)} {n : Nat} (h : Fm w base mv od n) (hk : ∀ k, mblk mv = some k → w'.heap[k]? = w.heap[k]?) : Fm w' base mv od n := by
  rcases h with h | ⟨m, D, rfl, rfl, h1, ⟨es, clock, h2, rest⟩, h3⟩
  · exact .inl h
  · exact .inr ⟨m, D, rfl, rfl, h1, ⟨es, clock, (hk m rfl).trans h2, rest⟩, h3⟩
theorem Fm.shape {w : World} {base : Nat} {mv : Value} {od : Option (DataW Unit)} {n : Nat} (h : Fm w base mv od n) : ∃ m, mv = .map m := by
  rcases h with ⟨rfl, _⟩ | ⟨m, D, rfl, _⟩ <;> exact ⟨_, rfl⟩
abbrev fkey (k : Nat) : Lit := .int .i64 k
/-- the file of that number lies in that block -/
def At1 (od : Option (DataW Unit)) (k b : Nat) : Prop := ∃ D, od = some D ∧ ∀ z, D.atKey (fkey k) z = .lit (.int .i64 b)
theorem fm_look {w : World} {base : Nat} {mo : Option Nat} {od : Option (DataW Unit)} {n : Nat} (h : Fm w base (.map mo) od n) (k b : Nat) (hk : k ≤ 1000000000) (ha : At1 od k b) :
    (Instr.lookup 67 (.map mo) (.int .i64 k) false).run Try.prog w = .ok (.pointer (some ⟨b, 0, none⟩)) w := by
  have hkey := Go.Maps.keyOf_int_mk (P := Try.prog) Try.underlying3 (wf_num hk)
  obtain ⟨D, hd, hat⟩ := ha
  rcases h with ⟨_, e⟩ | ⟨m, D', e, e2, _, hown, _⟩
  · rw [e] at hd; cases hd
  · cases e
    rw [e2] at hd
    cases hd
    obtain ⟨v, ps, hrun, hv⟩ := hown.lookup (Go.Maps.int_keyed Try.underlying3) Try.underlying67 (zero70 w) (zd := .lit (.int .i64 (-1))) (zp := []) rfl hkey
    rw [hat] at hv
    rw [hrun, rf_inv hv]
theorem at_put_same {D : DataW Unit} (h : Go.Maps.Tidy D) (k b : Nat) : At1 (some (D.put (fkey k) (.lit (.int .i64 b)))) k b := ⟨_, rfl, fun z => Go.Maps.atKey_put_same h.isMap (by trivial) _ z⟩
theorem at_put_other {D : DataW Unit} {k k' b : Nat} (h : At1 (some D) k b) (hne : k ≠ k') (d : DataW Unit) : At1 (some (D.put (fkey k') d)) k b := by
  obtain ⟨_, e, hat⟩ := h
  cases e
  refine ⟨_, rfl, fun z => ?_⟩
  rw [Go.Maps.atKey_put_other (fun e => by injection e with _ e; omega)]
  exact hat z
end Go.Proofs.Ytkmohpdcchpndaa
