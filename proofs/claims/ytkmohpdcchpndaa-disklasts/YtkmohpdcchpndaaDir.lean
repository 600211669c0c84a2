/-
  The changes of the directory: what they do.
-/
import Derived.Test.YtkmohpdcchpndaaTurn
import Derived.Maps.Views
import Derived.Maps.OwnOps
import Derived.Carry
import Derived.Laws.Cover3
namespace Go.Proofs.Ytkmohpdcchpndaa
open Go.RowKit
set_option linter.unusedVariables false
set_option linter.unusedSimpArgs false
abbrev OM (w : World) (m n : Nat) (D : DataW Unit) : Prop := w.ownsMap Try.prog 9 (plainElem (H := Unit) Try.prog 3) m n D
/-- a directory's map: none, or names and numbers -/
def Dm (w : World) (base : Nat) (mv : Value) (od : Option (DataW Unit)) (n : Nat) : Prop :=
  (mv = .map none ∧ od = none) ∨ ∃ m D, mv = .map (some m) ∧ od = some D ∧ base ≤ m ∧ OM w m n D ∧ Go.Maps.Tidy D
def mblk : Value → Option Nat
  | .map (some m) => some m
  | _ => none
theorem Dm.low {w : World} {base : Nat} {mv : Value} {od : Option (DataW Unit)} {n : Nat} (h : Dm w base mv od n) {k : Nat} (hk : mblk mv = some k) : base ≤ k ∧ k < w.heap.size := by
  rcases h with ⟨rfl, _⟩ | ⟨m, D, rfl, _, h1, h2, _⟩
  · cases hk
  · cases hk; exact ⟨h1, h2.lt⟩
theorem Dm.keep {w w' : World} {base : Nat} {mv : Value} {od : Option (DataW Unit)} {n : Nat} (h : Dm w base mv od n) (hk : ∀ k, mblk mv = some k → w'.heap[k]? = w.heap[k]?) : Dm w' base mv od n := by
  rcases h with h | ⟨m, D, rfl, rfl, h1, ⟨es, clock, h2, rest⟩, h3⟩
  · exact .inl h
  · exact .inr ⟨m, D, rfl, rfl, h1, ⟨es, clock, (hk m rfl).trans h2, rest⟩, h3⟩
theorem Dm.mono {w : World} {base : Nat} {mv : Value} {od : Option (DataW Unit)} {n n' : Nat} (h : Dm w base mv od n) (hn : n ≤ n') : Dm w base mv od n' := by
  rcases h with h | ⟨m, D, rfl, rfl, h1, h2, h3⟩
  · exact .inl h
  · exact .inr ⟨m, D, rfl, rfl, h1, h2.mono hn, h3⟩
theorem Dm.shape {w : World} {base : Nat} {mv : Value} {od : Option (DataW Unit)} {n : Nat} (h : Dm w base mv od n) : ∃ m, mv = .map m := by
  rcases h with ⟨rfl, _⟩ | ⟨m, D, rfl, _⟩ <;> exact ⟨_, rfl⟩
theorem Dm.make {w : World} {base : Nat} {mv : Value} {od : Option (DataW Unit)} {n : Nat} (h : Dm w base mv od n) {k : Nat} (hk : mblk mv = some k) : ∃ es clock, w.heap[k]? = some (.map es clock) := by
  rcases h with ⟨rfl, _⟩ | ⟨m, D, rfl, _, h1, ⟨es, clock, h2, _⟩, _⟩
  · cases hk
  · cases hk; exact ⟨es, clock, h2⟩
abbrev keyOf (nm : ByteArray) : Lit := .string nm.data.toList
/-- a change of the directory -/
inductive Dc where
  | nm (name : ByteArray) (num : Nat)
  | rn (fr to_ : ByteArray) (num : Nat)
  | rm (name : ByteArray)
def Dc.do (c : Dc) (od : Option (DataW Unit)) : Option (DataW Unit) :=
  match c with
  | .nm name num => some ((od.getD (.map [])).put (keyOf name) (.lit (.int .i64 num)))
  | .rn fr to_ num => od.map fun D => (D.del (keyOf fr)).put (keyOf to_) (.lit (.int .i64 num))
  | .rm name => od.map fun D => D.del (keyOf name)
theorem map_eql (mo : Option Nat) (w : World) : (binOp .eql 62 (.map mo) (.map none)).run Try.prog w = .ok (.bool mo.isNone) w := by
  have := run_equal_map_nil (P := Try.prog) (w := w) 62 9 3 mo Try.underlying62
  cases mo <;> simp [binOp, this, Result.andThen]
theorem wf_num {num : Nat} (h : num ≤ 1000000000) : (Lit.int .i64 (num : Int)).wf = true := by
  simp [Lit.wf, IntKind.min, IntKind.max, IntKind.bits, IntKind.signed]
  omega
set_option maxHeartbeats 1000000 in
theorem naming_do (w : World) (base : Nat) (mv : Value) (od : Option (DataW Unit)) (n : Nat) (x : Int) (name : ByteArray) (num nb sb : Nat) (h : Dm w base mv od n) (hn : n < 1000000000) (hnb : w.cell? ⟨nb, 0, none⟩ = some (.int .i64 num)) (hsb : w.cell? ⟨sb, 0, none⟩ = some (.string name)) (hs : name.size ≤ maxLen) (hw : num ≤ 1000000000) (hbase : base ≤ w.heap.size) :
    Calls Try.prog 65 #[mv, .int .i64 x, .pointer (some ⟨nb, 0, none⟩), .pointer (some ⟨sb, 0, none⟩)] w fun e w' => ∃ mv', e = .returned mv' ∧ Dm w' base mv' (Dc.do (.nm name num) od) (n + 1) ∧ w.grownBy w' (mblk mv) ∧ (mblk mv' = mblk mv ∨ mblk mv' = some w.heap.size) := by
  have hkey := Go.WideMaps.keyOf_string_mk (P := Try.prog) Try.underlying9 hs
  have htw : (Lit.int .i64 (num : Int)).wf = true := wf_num hw
  rcases h with ⟨rfl, rfl⟩ | ⟨m, D, rfl, rfl, h1, h2, h3⟩
  · have hmeq := map_eql none
    have hom : Hid ((w.alloc (.map #[] 0)).ownsMap Try.prog 9 (plainElem (H := Unit) Try.prog 3) w.heap.size 0 (.map [])) := World.ownsMap_made (H := Unit) w Try.prog 9 (plainElem (H := Unit) Try.prog 3)
    have HF : Hid (∀ w2, w2.ownsMap Try.prog 9 (plainElem (H := Unit) Try.prog 3) w.heap.size 1 ((DataW.map [] : DataW Unit).put (keyOf name) (.lit (.int .i64 num))) → (w.alloc (.map #[] 0)).grownBy w2 (some w.heap.size) → Dm w2 base (.map (some w.heap.size)) (Dc.do (.nm name num) none) (n + 1) ∧ w.grownBy w2 (mblk (.map none))) := fun w2 ho hg =>
      ⟨.inr ⟨w.heap.size, _, rfl, rfl, hbase, ho.mono (by omega), Go.Maps.tidy_empty.put (by trivial) _⟩, ⟨hg.os, hg.tape, hg.output, Nat.le_trans (by simp) hg.size, fun k hk _ => (hg.block k (by simp; omega) (fun e => by injection e with e; omega)).trans (Below.heap_alloc w _ k hk)⟩⟩
    have e1 : (w.alloc (.map #[] 0)).cell? ⟨nb, 0, none⟩ = some (.int .i64 num) := cell_of_below ((Below.refl _ _).alloc (Nat.le_refl _) _) hnb
    have e2 : (w.alloc (.map #[] 0)).cell? ⟨sb, 0, none⟩ = some (.string name) := cell_of_below ((Below.refl _ _).alloc (Nat.le_refl _) _) hsb
    have hmm := @run_makeMap Try.prog
    go_enter Try.func65, Try.ntmps65
    go_wp2_with (at_mapUpdate; refine wpList_mapUpdate_own _ rfl _ _ _ 62 rfl 9 3 (Go.Maps.string_keyed Try.underlying9) Try.underlying62 _ w.heap.size 0 (.map []) rfl hom.out (by decide) _ _ _ rfl rfl hkey _ [] (plainElem_int Try.underlying3 htw) ?_; intro w2 hown2 hgrow2; have FI := HF.out w2 hown2 hgrow2; clear hown2 hgrow2)
    go_ret
    exact ⟨_, rfl, FI.1, FI.2, .inr rfl⟩
  · have hmeq := map_eql (some m)
    have HOW : Hid (OM w m n D) := h2
    have hbm' : n < maxLen := by have : (1000000000 : Nat) ≤ maxLen := by decide
                                 omega
    have HF : Hid (∀ w2, w2.ownsMap Try.prog 9 (plainElem (H := Unit) Try.prog 3) m (n + 1) (D.put (keyOf name) (.lit (.int .i64 num))) → w.grownBy w2 (some m) → Dm w2 base (.map (some m)) (Dc.do (.nm name num) (some D)) (n + 1) ∧ w.grownBy w2 (mblk (.map (some m)))) := fun w2 ho hg =>
      ⟨.inr ⟨m, _, rfl, rfl, h1, ho, h3.put (by trivial) _⟩, hg⟩
    clear h2 h3
    go_enter Try.func65, Try.ntmps65
    go_wp2_with (at_mapUpdate; refine wpList_mapUpdate_own _ rfl _ _ _ 62 rfl 9 3 (Go.Maps.string_keyed Try.underlying9) Try.underlying62 _ m n D rfl HOW.out hbm' _ _ _ rfl rfl hkey _ [] (plainElem_int Try.underlying3 htw) ?_; intro w2 hown2 hgrow2; have FI := HF.out w2 hown2 hgrow2; clear hown2 hgrow2)
    go_ret
    exact ⟨_, rfl, FI.1, FI.2, .inl rfl⟩
end Go.Proofs.Ytkmohpdcchpndaa
