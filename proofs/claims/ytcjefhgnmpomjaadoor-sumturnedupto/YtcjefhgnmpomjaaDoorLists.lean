/-
  The contract of lists: two lists of the same bytes are told to be the same.
-/
import Derived.Test.YtcjefhgnmpomjaaDoorScan
namespace Go.Proofs.YtcjefhgnmpomjaaDoor
open Go.RowKit
set_option linter.unusedVariables false

/-- A slice of bytes, with what it holds. -/
structure Sl where
  a : Option Addr
  n : Nat
  cap : Nat
  zs : List Int
abbrev Sl.val (s : Sl) : Value := .slice s.a s.n s.cap
/-- A slice of such slices. -/
def LL (w : World) (a : Option Addr) (ss : List Sl) : Prop :=
  (∀ s ∈ ss, Bs w s.a s.n s.cap s.zs) ∧ (ss = [] ∨ ∃ b off, a = some ⟨b, off, none⟩ ∧ ∀ (i : Nat) (s : Sl), ss[i]? = some s → w.cell? ⟨b, off + i, none⟩ = some s.val)

theorem drew_two (w : World) (p q : Nat) : (w.drewN p).drewN q = w.drewN (p + q) := by
  simp [World.drewN, Nat.add_assoc]

set_option maxHeartbeats 1000000 in
theorem lists_empty (a1 a2 : Option Addr) (c1 c2 : Nat) (w : World) :
    Calls Tryd.prog 21 #[.slice a1 0 c1, .slice a2 0 c2] w fun e w' => e = .returned (.bool true) ∧ Below w.heap.size w w' := by
  go_enter Tryd.func21, Tryd.ntmps21
  go_wp2
  refine wp_loop_rounds 1 ?_
  rw [rounds_succ]
  go_wp2
  go_ret
  exact ⟨rfl, Below.refl _ _⟩

set_option maxHeartbeats 2000000 in
theorem lists_some (b1 o1 b2 o2 n c1 c2 : Nat) (ss tt : List Sl) (w : World) (h1 : ss.length = n) (h2 : tt.length = n) (hn : n ≤ 140737488355328)
    (hs : ∀ s ∈ ss, Bs w s.a s.n s.cap s.zs) (ht : ∀ s ∈ tt, Bs w s.a s.n s.cap s.zs) (hz : ss.map (·.zs) = tt.map (·.zs))
    (e1 : ∀ (i : Nat) (s : Sl), ss[i]? = some s → w.cell? ⟨b1, o1 + i, none⟩ = some s.val) (e2 : ∀ (i : Nat) (s : Sl), tt[i]? = some s → w.cell? ⟨b2, o2 + i, none⟩ = some s.val) :
    Calls Tryd.prog 21 #[.slice (some ⟨b1, o1, none⟩) n c1, .slice (some ⟨b2, o2, none⟩) n c2] w fun e w' => e = .returned (.bool true) ∧ Below w.heap.size w w' := by
  go_enter Tryd.func21, Tryd.ntmps21
  go_wp2
  go_loopw [5] (fun t wr => ∃ (k q : Nat), k ≤ n ∧ t = .int .i64 k ∧ wr = w.drewN q) (fun t _ => n - (intOf t).toNat)
  case atStart => exact ⟨0, 0, by omega, rfl, rfl⟩
  case round =>
    obtain ⟨k, q, hk, rfl, rfl⟩ := hrel
    by_cases hlt : k < n
    · obtain ⟨s, hs1⟩ : ∃ s, ss[k]? = some s := ⟨ss[k]'(by omega), List.getElem?_eq_getElem _⟩
      obtain ⟨t, ht1⟩ : ∃ t, tt[k]? = some t := ⟨tt[k]'(by omega), List.getElem?_eq_getElem _⟩
      have c1' : ∀ q', (w.drewN q').cell? ⟨b1, o1 + k, none⟩ = some (.slice s.a s.n s.cap) := fun q' => e1 k s hs1
      have c2' : ∀ q', (w.drewN q').cell? ⟨b2, o2 + k, none⟩ = some (.slice t.a t.n t.cap) := fun q' => e2 k t ht1
      have hzk : s.zs = t.zs := by
        have := congrArg (·[k]?) hz
        simpa [hs1, ht1] using this
      have S := hs s (List.mem_of_getElem? hs1)
      have T' := ht t (List.mem_of_getElem? ht1)
      have s1 : ∀ q', (convert 22 9 (.slice s.a s.n s.cap)).run Tryd.prog (w.drewN q') = .ok (.string (bstr s.zs)) (w.drewN q') := fun q' => str_of _ _ _ _ _ S.len (has_drewN S.has q')
      have s2 : ∀ q', (convert 22 9 (.slice t.a t.n t.cap)).run Tryd.prog (w.drewN q') = .ok (.string (bstr s.zs)) (w.drewN q') := fun q' => str_of _ _ _ _ _ (by rw [hzk]; exact T'.len) (has_drewN (by rw [hzk]; exact T'.has) q')
      have k0 : (0 : Int) ≤ k := by omega
      have k1 : (k : Int) < n := by omega
      clear S T' hs ht hz e1 e2 hzk hs1 ht1
      go_wp2_with fail
      go_quiet (fail)
      go_wp2
      go_roundw
      case rel => exact ⟨k + 1, q + nq, by omega, by go_num, rfl⟩
      case measure => simp [intOf]; omega
    · go_wp2
      go_ret
      exact ⟨rfl, below_drewN (Below.refl _ w) q⟩

theorem lists_any (a1 a2 : Option Addr) (n c1 c2 : Nat) (ss tt : List Sl) (w : World) (h1 : ss.length = n) (hn : n ≤ 140737488355328) (hs : LL w a1 ss) (ht : LL w a2 tt) (hz : ss.map (·.zs) = tt.map (·.zs)) :
    Calls Tryd.prog 21 #[.slice a1 n c1, .slice a2 n c2] w fun e w' => e = .returned (.bool true) ∧ Below w.heap.size w w' := by
  have h2 : tt.length = n := by have := congrArg List.length hz; simp at this; omega
  rcases hs.2 with h | ⟨b1, o1, rfl, e1⟩
  · subst h
    simp at h1; subst h1
    exact lists_empty a1 a2 c1 c2 w
  rcases ht.2 with h | ⟨b2, o2, rfl, e2⟩
  · subst h
    simp at h2; subst h2
    exact lists_empty _ a2 c1 c2 w
  exact lists_some b1 o1 b2 o2 n c1 c2 ss tt w h1 h2 hn hs.1 ht.1 hz e1 e2
theorem LL.below {w w' : World} {a : Option Addr} {ss : List Sl} (h : LL w a ss) (hb : Below w.heap.size w w') : LL w' a ss := by
  refine ⟨fun s hs => (h.1 s hs).below hb, ?_⟩
  rcases h.2 with h | ⟨b, off, rfl, e⟩
  · exact .inl h
  · refine .inr ⟨b, off, rfl, fun i s hi => ?_⟩
    have := e i s hi
    exact (hb.cell (p := ⟨b, off + i, none⟩) (by have := World.block_lt_of_cell? w _ this; simpa using this)).trans this
/-- What Scan tells, as such a list. -/
def tl (x : Told) : Sl := ⟨some ⟨x.g, 0, none⟩, x.ps.length, x.ps.length, x.ps⟩
theorem LL.scanned {w : World} {base : Nat} {v : Value} {xs : List Told} (h : w.ownsRow base 22 1 v xs.length (xs.map slv)) (hx : ∀ x ∈ xs, Lies base x w) (ho : ∀ x ∈ xs, Octets x.ps ∧ x.ps.length ≤ 131072) :
    ∃ a cp, v = .slice a xs.length cp ∧ LL w a (xs.map tl) := by
  have hall : ∀ s ∈ xs.map tl, Bs w s.a s.n s.cap s.zs := by
    intro s hs
    obtain ⟨x, hxm, rfl⟩ := List.mem_map.1 hs
    have o := ho x hxm
    exact ⟨rfl, Has.of_block (hx x hxm).2, o.1, (fun h => by cases h), Nat.le_refl _, by show x.ps.length ≤ maxLen; unfold maxLen; omega, by show x.ps.length ≤ _; omega⟩
  rcases h.2 with ⟨rfl, h0⟩ | ⟨g, cp, cur, rfl, _⟩
  · have : xs = [] := List.length_eq_zero_iff.1 h0
    subst this
    exact ⟨none, 0, rfl, hall, .inl rfl⟩
  · refine ⟨_, cp, rfl, hall, .inr ⟨g, 0, rfl, fun i s hi => ?_⟩⟩
    have hil : i < xs.length := by have := (List.getElem?_eq_some_iff.1 hi).1; simpa using this
    rw [Nat.zero_add, h.cellAt i (by omega)]
    simp only [List.getElem?_map, Option.map_eq_some_iff] at hi ⊢
    obtain ⟨x, hx1, rfl⟩ := hi
    exact ⟨x, hx1, rfl⟩
end Go.Proofs.YtcjefhgnmpomjaaDoor
