/-
  Changes of a file: made, and done.
-/
import Derived.Test.YtkmohpdcchpndaaDo2
import Derived.Lib.SmallJoins
namespace Go.Proofs.Ytkmohpdcchpndaa
open Go.RowKit
set_option linter.unusedVariables false
set_option linter.unusedSimpArgs false
theorem buf_empty (w : World) : Buf (w.alloc (.cells #[] 5 (0, 0))) w.heap.size (.slice (some ⟨w.heap.size, 0, none⟩) 0 0) [] :=
  ⟨Octets.nil, .inr ⟨w.heap.size, 0, 0, #[], rfl, Nat.le_refl _, Go.heap_alloc_new w _, Nat.le_refl _, by decide, by simp, fun j hj => by simp at hj⟩⟩
theorem Has.of_below' {w W : World} {a : Option Addr} {zs : List Int} (h : Has w a zs) (hb : Below w.heap.size w W) : Has W a zs := by
  rcases h with h | ⟨x, e, hc⟩
  · exact .inl h
  · exact .inr ⟨x, e, fun j hj => cell_of_below hb (hc j hj)⟩
theorem clone_any (w : World) (ao : Option Addr) (n cap : Nat) (zs : List Int) (hl : zs.length = n) (hb : ao = none → cap = 0) (hh : Has w ao zs) (ho : Octets zs) (hs : n ≤ 140737488355328) :
    Calls Try.prog 37 #[.slice ao n cap] w fun e w' => ∃ v', e = .returned v' ∧ Buf w' w.heap.size v' zs ∧ Below w.heap.size w w' := by
  obtain ⟨i0, i0i, hz0, hz1, hz2⟩ := info_parts Try.info5
  cases ao with
  | none =>
    have hz : zs = [] := by
      rcases hh with ⟨_, h⟩ | ⟨x, e, _⟩
      · exact h
      · cases e
    subst hz
    obtain rfl : n = 0 := by simpa using hl.symm
    obtain rfl := hb rfl
    have kc : (binOp .eql 32 (.slice none 0 0) (.slice none 0 0)).run Try.prog w = .ok (.bool true) w := Lib.run_eql_slice_nil w 32 5 none 0 0 0 0 Try.underlying32
    clear hh ho hb hl
    go_enter Try.func37, Try.ntmps37
    go_wp2_with fail
    go_ret
    exact ⟨_, rfl, Buf.nil _ _, Below.refl _ _⟩
  | some x =>
    have kc : (binOp .eql 32 (.slice (some x) n cap) (.slice none 0 0)).run Try.prog w = .ok (.bool false) w := Lib.run_eql_slice_nil w 32 5 (some x) n cap 0 0 Try.underlying32
    have HE : Hid (Buf (w.alloc (.cells #[] 5 (0, 0))) w.heap.size (.slice (some ⟨w.heap.size, 0, none⟩) 0 0) []) := buf_empty w
    have HH : Hid (Has (w.alloc (.cells #[] 5 (0, 0))) (some x) zs) := hh.of_below' ((Below.refl _ _).alloc (Nat.le_refl _) _)
    have HO : Hid (Octets zs) := ho
    have HL : Hid (zs.length = n) := hl
    have H1 : Hid (([] : List Int).length + n ≤ 140737488355328) := (by simpa using hs : ([] : List Int).length + n ≤ 140737488355328)
    have H2 : Hid (w.heap.size ≤ (w.alloc (.cells #[] 5 (0, 0))).heap.size) := (by simp : w.heap.size ≤ (w.alloc (.cells #[] 5 (0, 0))).heap.size)
    clear hh ho hl hb
    go_enter Try.func37, Try.ntmps37
    go_wp2_with (at_builtin; refine wpList_append_buf _ rfl (.tmp 5) (.tmp 6) 32 rfl w.heap.size i0 Try.underlying32 i0i hz0 hz1 hz2 (.slice (some ⟨w.heap.size, 0, none⟩) 0 0) [] rfl HE.out (some x) n cap zs rfl HL.out (fun h => by cases h) HH.out HO.out H1.out H2.out ?_; intro v2 w2 hb2 hg2 _; have HE2 : Hid (Buf w2 w.heap.size v2 ([] ++ zs) ∧ (w.alloc (.cells #[] 5 (0, 0))).grownBy w2 (some w.heap.size)) := ⟨hb2, hg2⟩; clear hb2 hg2)
    go_ret
    obtain ⟨e1, e2⟩ := HE2.out
    exact ⟨v2, rfl, by simpa using e1, ((Below.refl _ _).alloc (Nat.le_refl _) _).grown e2 (by simp) (fun k h => by cases h; exact Nat.le_refl _)⟩
/-- a change of a file's bytes -/
inductive Fc where
  | wr (at_ : Nat) (p : List Int)
  | ct (n : Nat)
def Fc.size : Fc → Nat
  | .wr _ p => p.length
  | .ct _ => 0
def Fc.tears : Fc → Bool
  | .wr _ _ => true
  | .ct _ => false
def Fc.do (c : Fc) (b : List Int) (n : Nat) : List Int :=
  match c with
  | .wr at_ p => over b at_ (p.take n)
  | .ct k => b.take k
/-- it can be done with these bytes -/
def Fc.ok (c : Fc) (b : List Int) : Prop :=
  match c with
  | .wr at_ p => at_ ≤ b.length
  | .ct k => k ≤ b.length
/-- its function in memory, and the blocks that it reads -/
def Fv (w : World) (base : Nat) (c : Fc) (d : Value) (ro : List Nat) : Prop :=
  match c with
  | .wr at_ p => ∃ ab pb ao cap, d = .func (.func 66) #[] #[.pointer (some ⟨ab, 0, none⟩), .pointer (some ⟨pb, 0, none⟩)] ∧ w.heap[ab]? = some (.cells #[.int .i64 at_] 3 (0, 0)) ∧ w.heap[pb]? = some (.cells #[.slice ao p.length cap] 32 (0, 0)) ∧ Buf w base (.slice ao p.length cap) p ∧ base ≤ ab ∧ base ≤ pb ∧ ro = ab :: pb :: (Value.slice ao p.length cap).ownBlock.toList
  | .ct k => ∃ ab, d = .func (.func 67) #[] #[.pointer (some ⟨ab, 0, none⟩)] ∧ w.heap[ab]? = some (.cells #[.int .i64 k] 3 (0, 0)) ∧ base ≤ ab ∧ ro = [ab]
theorem Fv.keep {w w' : World} {base : Nat} {c : Fc} {d : Value} {ro : List Nat} (h : Fv w base c d ro) (hk : ∀ k ∈ ro, w'.heap[k]? = w.heap[k]?) : Fv w' base c d ro := by
  cases c with
  | wr at_ p =>
    obtain ⟨ab, pb, ao, cap, rfl, h1, h2, h3, h4, h5, rfl⟩ := h
    exact ⟨ab, pb, ao, cap, rfl, (hk ab (by simp)).trans h1, (hk pb (by simp)).trans h2, h3.keep (fun k e => hk k (by simp [e])), h4, h5, rfl⟩
  | ct k =>
    obtain ⟨ab, rfl, h1, h2, rfl⟩ := h
    exact ⟨ab, rfl, (hk ab (by simp)).trans h1, h2, rfl⟩
theorem Fv.lt {w : World} {base : Nat} {c : Fc} {d : Value} {ro : List Nat} (h : Fv w base c d ro) : ∀ k ∈ ro, base ≤ k ∧ k < w.heap.size := by
  cases c with
  | wr at_ p =>
    obtain ⟨ab, pb, ao, cap, rfl, h1, h2, h3, h4, h5, rfl⟩ := h
    intro k hk
    simp only [List.mem_cons, Option.mem_toList, Option.mem_def] at hk
    rcases hk with rfl | rfl | hk
    · exact ⟨h4, lt_of_block h1⟩
    · exact ⟨h5, lt_of_block h2⟩
    · exact h3.low hk
  | ct k =>
    obtain ⟨ab, rfl, h1, h2, rfl⟩ := h
    intro j hj
    simp at hj
    subst hj
    exact ⟨h2, lt_of_block h1⟩
end Go.Proofs.Ytkmohpdcchpndaa
