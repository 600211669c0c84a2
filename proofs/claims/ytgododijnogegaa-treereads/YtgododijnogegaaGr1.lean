/-
  The document's Grown: what is refused at once, and a leaf.
-/
import Derived.Test.YtgododijnogegaaTrm
namespace Go.Proofs.Ytgododijnogegaa
open Go.RowKit
set_option linter.unusedVariables false
set_option linter.unusedSimpArgs false
set_option maxRecDepth 100000
/-- what Grown answers -/
def GrE (w : World) (r : Option (Tr × Nat)) (e : Ending) (w' : World) : Prop :=
  Below w.heap.size w w' ∧ match r with
    | none => e = .returned (.tuple #[.pointer none, .int .i64 0])
    | some (t, b) => ∃ p, e = .returned (.tuple #[.pointer (some ⟨p, 0, none⟩), .int .i64 b]) ∧ TrIn w' (fun k => w.heap.size ≤ k ∧ k < w'.heap.size) t p
theorem GrE.no {w w' : World} {r : Option (Tr × Nat)} {e : Ending} (hr : r = none) (hb : Below w.heap.size w w') (he : e = .returned (.tuple #[.pointer none, .int .i64 0])) : GrE w r e w' := by
  subst hr; exact ⟨hb, he⟩
theorem Ns.below {w w' : World} {a : Option Addr} {l : List Nx} (h : Ns w a l) (hb : Below w.heap.size w w') : Ns w' a l := by
  refine ⟨fun o ho => ?_, ?_⟩
  · have hn := h.each o ho
    exact { hn with nums := hn.nums.below hb }
  · rcases h.row with h0 | ⟨g, off, ha, hc⟩
    · exact .inl h0
    · exact .inr ⟨g, off, ha, fun i o hi j u hu => cell_of_below hb (hc i o hi j u hu)⟩
theorem grown_out (w : World) (a : Option Addr) (n cap : Nat) (l : List Nx) (q d : Nat) (hn : l.length = n) (hl : n ≤ 17592186043904) (hq : q ≤ 17592186043904) (hd : d ≤ 17) (h : n ≤ q ∨ 16 < d) :
    Calls Try.prog 30 #[.slice a n cap, .int .i64 q, .int .i64 d] w fun e w' => e = .returned (.tuple #[.pointer none, .int .i64 0]) ∧ w' = w := by
  have q0 : (0 : Int) ≤ q := by omega
  have q0' : ¬ (q : Int) < 0 := by omega
  clear hn
  by_cases h1 : n ≤ q
  · have h1' : (n : Int) ≤ q := by omega
    clear h
    go_enter Try.func30, Try.ntmps30
    go_wp2
    go_ret2
    exact ⟨rfl, rfl⟩
  · have h1' : ¬ (n : Int) ≤ q := by omega
    have h2 : (16 : Int) < d := by have := h.resolve_left h1; omega
    clear h
    go_enter Try.func30, Try.ntmps30
    go_wp2
    go_ret2
    exact ⟨rfl, rfl⟩
theorem alloc2_new (w : World) (A B : Obj) : ((w.alloc A).alloc B).heap[w.heap.size + 1]? = some B := by
  have h := Go.heap_alloc_new (w.alloc A) B
  have e : (w.alloc A).heap.size = w.heap.size + 1 := by simp
  rw [e] at h
  exact h
theorem two_alloc (w : World) (a b : Obj) : Below w.heap.size w ((w.alloc a).alloc b) := ((Below.refl _ _).alloc (Nat.le_refl _) _).alloc (by simp) _
set_option maxHeartbeats 4000000 in
/-- a node that is none: refused -/
theorem grown_not (w : World) (a : Option Addr) (n cap : Nat) (l : List Nx) (q d : Nat) (o : Nx) (hn : l.length = n) (hl : n ≤ 17592186043904) (hd : d ≤ 16) (hS : Ns w a l) (ho : l[q]? = some o) (hi : isN o = false) :
    Calls Try.prog 30 #[.slice a n cap, .int .i64 q, .int .i64 d] w fun e w' => e = .returned (.tuple #[.pointer none, .int .i64 0]) ∧ Below w.heap.size w w' := by
  have hqn : q < n := by have := (List.getElem?_eq_some_iff.1 ho).1; omega
  have q0 : (0 : Int) ≤ q := by omega
  have h1' : (q : Int) < n := by omega
  have h2 : ¬ (16 : Int) < d := by omega
  rcases hS.row with hx | ⟨g, off, rfl, hc⟩
  · rw [hx] at ho; simp at ho
  have c0 := hc q _ ho 0 _ rfl
  have c1 := hc q _ ho 1 _ rfl
  have c2 := hc q _ ho 2 _ rfl
  have c3 := hc q _ ho 3 _ rfl
  have c4 := hc q _ ho 4 _ rfl
  have c5 := hc q _ ho 5 _ rfl
  rw [Nat.add_zero] at c0
  have hbig := (hS.each o (List.mem_of_getElem? ho)).big
  obtain ⟨kd, key, tx, quo, ln, oa, on_, ocap, ks⟩ := o
  dsimp only at c0 c1 c2 c3 c4 c5 hbig
  have HI := hideL hi
  clear hS ho hc hn hi
  by_cases e1 : ln < 0
  · clear HI
    go_enter Try.func30, Try.ntmps30
    go_wp2
    go_ret2
    exact ⟨rfl, two_alloc _ _ _⟩
  have e1' : (0 : Int) ≤ ln := by omega
  by_cases e2 : kd < 1
  · clear HI
    go_enter Try.func30, Try.ntmps30
    go_wp2
    go_ret2
    exact ⟨rfl, two_alloc _ _ _⟩
  by_cases e3 : 3 < kd
  · clear HI
    go_enter Try.func30, Try.ntmps30
    go_wp2
    go_ret2
    exact ⟨rfl, two_alloc _ _ _⟩
  by_cases e4 : kd = 1
  · subst e4
    by_cases e5 : 0 < on_
    · have e5' : (0 : Int) < on_ := by omega
      clear HI
      go_enter Try.func30, Try.ntmps30
      go_wp2
      go_ret2
      exact ⟨rfl, two_alloc _ _ _⟩
    · exfalso
      have h := HI.out
      have : on_ = 0 := by omega
      simp [isN, this, e1'] at h
  have e23 : kd = 2 ∨ kd = 3 := by omega
  by_cases e5 : on_ = 0
  · subst e5
    clear HI
    rcases e23 with rfl | rfl
    all_goals
      go_enter Try.func30, Try.ntmps30
      go_wp2
      go_ret2
      exact ⟨rfl, two_alloc _ _ _⟩
  have e5' : ((on_ : Int) == 0) = false := by rw [beq_eq_false_iff_ne]; omega
  by_cases e6 : tx = ByteArray.empty
  · subst e6
    by_cases e7 : quo = true
    · subst e7
      clear HI
      rcases e23 with rfl | rfl
      all_goals
        go_enter Try.func30, Try.ntmps30
        go_wp2
        go_ret2
        exact ⟨rfl, two_alloc _ _ _⟩
    · exfalso
      have h := HI.out
      have h5 : 0 < on_ := by omega
      have : quo = false := by simpa using e7
      rcases e23 with rfl | rfl <;> simp [isN, this, e1', h5] at h
  · have e6' := isEmpty_no e6
    clear HI
    rcases e23 with rfl | rfl
    all_goals
      go_enter Try.func30, Try.ntmps30
      go_wp2
      go_ret2
      exact ⟨rfl, two_alloc _ _ _⟩
set_option maxHeartbeats 4000000 in
/-- a leaf -/
theorem grown_leaf (w : World) (a : Option Addr) (n cap : Nat) (l : List Nx) (q d : Nat) (o : Nx) (hn : l.length = n) (hl : n ≤ 17592186043904) (hd : d ≤ 16) (hS : Ns w a l) (ho : l[q]? = some o) (hi : isN o = true) (hk : o.kd = 1) (f : Nat) :
    Calls Try.prog 30 #[.slice a n cap, .int .i64 q, .int .i64 d] w (GrE w (trT l (f + 1) q)) := by
  have hqn : q < n := by have := (List.getElem?_eq_some_iff.1 ho).1; omega
  have q0 : (0 : Int) ≤ q := by omega
  have h1' : (q : Int) < n := by omega
  have h2 : ¬ (16 : Int) < d := by omega
  rcases hS.row with hx | ⟨g, off, rfl, hc⟩
  · rw [hx] at ho; simp at ho
  have c0 := hc q _ ho 0 _ rfl
  have c1 := hc q _ ho 1 _ rfl
  have c2 := hc q _ ho 2 _ rfl
  have c3 := hc q _ ho 3 _ rfl
  have c4 := hc q _ ho 4 _ rfl
  have c5 := hc q _ ho 5 _ rfl
  rw [Nat.add_zero] at c0
  have hin := hS.each o (List.mem_of_getElem? ho)
  have hlen := hin.len
  have hs1 := hin.s1
  have HT : Hid (trT l (f + 1) q = some (mkT o [], q + 1)) := by
    show trT l (f + 1) q = _
    rw [trT_at ho hi]
    have : o.n = 0 := by simp [isN, hk] at hi; exact hi.2
    have hks : o.ks = [] := List.length_eq_zero_iff.1 (by omega)
    rw [hks, kidsG]
    simp [keysOk, hk, hks, keysOf]
  obtain ⟨kd, key, tx, quo, ln, oa, on_, ocap, ks⟩ := o
  dsimp only at c0 c1 c2 c3 c4 c5 hk hs1
  subst hk
  obtain ⟨e1, rfl⟩ : 0 ≤ ln ∧ on_ = 0 := by simp [isN] at hi; exact hi
  have HS1 := hideL hs1
  clear hS ho hc hn hi hin hlen hs1
  go_enter Try.func30, Try.ntmps30
  go_wp2
  go_ret2
  rw [HT.out]
  refine ⟨two_alloc _ _ _, _, rfl, ?_⟩
  show TrIn _ _ (Tr.node _ _ _ _ _ _) _
  rw [TrIn]
  refine ⟨by simp, HS1.out, _, [], alloc2_new _ _ _, ?_, ?_, by rw [TrsIn]⟩
  · intro r hr; cases hr
  · exact ⟨by simp [ptrs], .inl ⟨rfl, rfl⟩⟩
end Go.Proofs.Ytgododijnogegaa
