/-
  The contracts of the closures that ScriptReads hands to Each.
-/
import Derived.Test.YtnbhadfhgecajaaRefs
import Derived.Test.YtnbhadfhgecajaaSame
namespace Go.Proofs.Ytnbhadfhgecajaa
open Go.RowKit
set_option linter.unusedVariables false

/-- But for one block all is as it was. -/
structure But (b : Nat) (A B : World) : Prop where
  os : B.os = A.os
  tape : B.tape = A.tape
  output : B.output = A.output
  size : A.heap.size ≤ B.heap.size
  block : ∀ j, j < A.heap.size → j ≠ b → B.heap[j]? = A.heap[j]?
theorem But.refl (b : Nat) (A : World) : But b A A := ⟨rfl, rfl, rfl, Nat.le_refl _, fun _ _ _ => rfl⟩
theorem But.trans {b : Nat} {A B C : World} (h : But b A B) (k : But b B C) : But b A C :=
  ⟨k.os.trans h.os, k.tape.trans h.tape, k.output.trans h.output, Nat.le_trans h.size k.size, fun j hj hne => (k.block j (Nat.lt_of_lt_of_le hj h.size) hne).trans (h.block j hj hne)⟩
theorem But.of_below {b : Nat} {A B : World} (h : Below A.heap.size A B) : But b A B := ⟨h.os, h.tape, h.output, h.size, fun j hj _ => h.block j hj⟩
theorem But.of_set {b : Nat} {A B : World} (h : Below A.heap.size A B) (v : Value) : But b A (B.setCell ⟨b, 0, none⟩ v) :=
  (But.of_below h).trans ⟨rfl, rfl, rfl, by simp [World.setCell], fun j _ hne => Below.heap_setCell _ _ _ _ hne⟩
theorem But.below {b n : Nat} {A B : World} (h : But b A B) (h1 : n ≤ A.heap.size) (h2 : n ≤ b) : Below n A B := ⟨h.os, h.tape, h.output, h.size, fun k hk => h.block k (by omega) (by omega)⟩
theorem But.own {b : Nat} {A B : World} (h : But b A B) {base : Nat} {e : TypeId} {size : Nat} {v : Value} {n : Nat} {xs : List Value} (ho : A.ownsRow base e size v n xs) {c : Array Value} {t : TypeId} {fr : Nat × Nat} (hb : A.heap[b]? = some (.cells c t fr)) (hne : e ≠ t) : B.ownsRow base e size v n xs := by
  refine own_blk' ho (fun k hk => h.block k (ho.lt k hk).2 ?_)
  rintro rfl
  obtain ⟨cur, hc⟩ := own_cells ho k hk
  rw [hc] at hb
  cases hb
  exact hne rfl

theorem setCell_same {w : World} {b : Nat} {v : Value} {t : TypeId} (h : w.heap[b]? = some (.cells #[v] t (0, 0))) : w.setCell ⟨b, 0, none⟩ v = w := by
  have e : (w.setCell ⟨b, 0, none⟩ v).heap = w.heap := by
    apply Array.ext_getElem?
    intro j
    by_cases hj : j = b
    · subst hj; rw [one_setCell h, h]
    · exact Below.heap_setCell _ _ _ _ hj
  have e2 : w.setCell ⟨b, 0, none⟩ v = { w with heap := (w.setCell ⟨b, 0, none⟩ v).heap } := rfl
  rw [e2, e]

set_option maxRecDepth 100000 in
set_option maxHeartbeats 2000000 in
theorem clos1_any (bf bn bw bm g base cv k L : Nat) (q at0 : Int) (op x y : Int) (a1 a2 : Option Addr) (dn d1 d2 : Nat) (dz : List Int) (W : World)
    (hf : W.heap[bf]? = some (.cells #[.bool true] 4 (0, 0))) (hn : W.heap[bn]? = some (.cells #[.int .i64 k] 3 (0, 0))) (hw : W.heap[bw]? = some (.cells #[.slice (some ⟨g, 0, none⟩) L cv] 23 (0, 0))) (hm : W.heap[bm]? = some (.cells #[.int .i64 q] 3 (0, 0)))
    (hk : k < L) (hL : L ≤ 1099511627776) (hmn : bm ≠ bn)
    (c0 : W.cell? ⟨g, k * 5, none⟩ = some (.int .i64 op)) (c1 : W.cell? ⟨g, k * 5 + 1, none⟩ = some (.int .i64 x)) (c2 : W.cell? ⟨g, k * 5 + 2, none⟩ = some (.int .i64 y)) (c3 : W.cell? ⟨g, k * 5 + 3, none⟩ = some (.slice a2 dn d2)) (c4 : W.cell? ⟨g, k * 5 + 4, none⟩ = some (.int .i64 at0))
    (hl : dz.length = dn) (h1 : Has W a1 dz) (h2 : Has W a2 dz) (hd : dn ≤ 65535) :
    Calls Try.prog 12 #[.int .i64 at0, .agg #[.int .i64 op, .int .i64 x, .int .i64 y, .slice a1 dn d1], .pointer (some ⟨bf, 0, none⟩), .pointer (some ⟨bn, 0, none⟩), .pointer (some ⟨bw, 0, none⟩), .pointer (some ⟨bm, 0, none⟩)] W fun e w' => e = .returned (.bool (((k : Int) + 1) != q)) ∧ w'.heap[bn]? = some (.cells #[.int .i64 ((k : Int) + 1)] 3 (0, 0)) ∧ But bn W w' := by
  have HB : Hid (Below W.heap.size W (W.alloc (.cells #[.int .i64 op, .int .i64 x, .int .i64 y, .slice a1 dn d1] 32))) := (Below.refl _ W).alloc (Nat.le_refl _) _
  obtain ⟨Wa, hWa⟩ : ∃ Wa, W.alloc (.cells #[.int .i64 op, .int .i64 x, .int .i64 y, .slice a1 dn d1] 32) = Wa := ⟨_, rfl⟩
  have hba : Below W.heap.size W Wa := by rw [← hWa]; exact HB.out
  have hsb : Wa.heap[W.heap.size]? = some (.cells #[.int .i64 op, .int .i64 x, .int .i64 y, .slice a1 dn d1] 32 (0, 0)) := by rw [← hWa]; exact heap_alloc_new _ _
  have HWa : Hid (W.alloc (.cells #[.int .i64 op, .int .i64 x, .int .i64 y, .slice a1 dn d1] 32) = Wa) := hWa
  have bl : ∀ {j : Nat} {o : Obj}, W.heap[j]? = some o → Wa.heap[j]? = some o := fun {j} {o} h => (hba.block j (Array.getElem?_eq_some_iff.1 h).1).trans h
  obtain ⟨s0, s1, s2, s3⟩ := step_cells hsb
  have f0 : Wa.cell? ⟨bf, 0, none⟩ = some (.bool true) := by simp [World.cell?, bl hf]
  have f1 : Wa.cell? ⟨bn, 0, none⟩ = some (.int .i64 k) := by simp [World.cell?, bl hn]
  have f2 : Wa.cell? ⟨bw, 0, none⟩ = some (.slice (some ⟨g, 0, none⟩) L cv) := by simp [World.cell?, bl hw]
  have f3 : Wa.cell? ⟨bm, 0, none⟩ = some (.int .i64 q) := by simp [World.cell?, bl hm]
  have k0 : (0 : Int) ≤ k := by omega
  have k1 : (k : Int) < L := by omega
  have cc : ∀ {p : Addr} {u : Value}, W.cell? p = some u → Wa.cell? p = some u := fun {p} {u} h => (hba.cell (p := p) (World.block_lt_of_cell? W _ h)).trans h
  have e0 := cc c0
  have e1 := cc c1
  have e2 := cc c2
  have e3 := cc c3
  have e4 := cc c4
  have H1 : Hid (Has Wa a1 dz) := h1.of_below hba
  have H2 : Hid (Has Wa a2 dz) := h2.of_below hba
  have HL : Hid (dz.length = dn) := hl
  clear hWa cc bl HB c0 c1 c2 c3 c4 h1 h2 hl
  go_enter Try.func12, Try.ntmps12
  go_wp2_with fail
  rw [HWa.out]
  have hfa := (hba.block bf (Array.getElem?_eq_some_iff.1 hf).1).trans hf
  have hna := (hba.block bn (Array.getElem?_eq_some_iff.1 hn).1).trans hn
  have HW : Hid (∀ w3, Below Wa.drew.heap.size Wa.drew w3 → (∀ p u, Wa.cell? p = some u → w3.cell? p = some u) ∧ w3.heap[bf]? = some (.cells #[.bool true] 4 (0, 0)) ∧ w3.heap[bn]? = some (.cells #[.int .i64 k] 3 (0, 0)) ∧ Below W.heap.size W w3) := fun w3 h3 =>
    ⟨fun p u hp => (h3.cell (p := p) (World.block_lt_of_cell? Wa _ hp)).trans hp, (h3.block bf (Array.getElem?_eq_some_iff.1 hfa).1).trans hfa, (h3.block bn (Array.getElem?_eq_some_iff.1 hna).1).trans hna,
     hba.trans ((show Below Wa.heap.size Wa w3 from ⟨h3.os, h3.tape, h3.output, h3.size, h3.block⟩).mono hba.size)⟩
  have HF : Hid (W.heap[bf]? = some (.cells #[.bool true] 4 (0, 0))) := hf
  have HNm : Hid (bf ≠ bn) := fun e => by subst e; rw [hf] at hn; cases hn
  clear hfa hna hf hn hw hm hsb
  go_region_held3 (fun w' => w'.cell? ⟨bf, 0, none⟩ = some (.bool true) ∧ w'.cell? ⟨bn, 0, none⟩ = some (.int .i64 k) ∧ w'.cell? ⟨bw, 0, none⟩ = some (.slice (some ⟨g, 0, none⟩) L cv) ∧ w'.cell? ⟨W.heap.size, 0, none⟩ = some (.int .i64 op) ∧ w'.cell? ⟨W.heap.size, 1, none⟩ = some (.int .i64 x) ∧ w'.cell? ⟨W.heap.size, 2, none⟩ = some (.int .i64 y) ∧ w'.cell? ⟨W.heap.size, 3, none⟩ = some (.slice a1 dn d1) ∧ w'.cell? ⟨g, k * 5, none⟩ = some (.int .i64 op) ∧ w'.cell? ⟨g, k * 5 + 1, none⟩ = some (.int .i64 x) ∧ w'.cell? ⟨g, k * 5 + 2, none⟩ = some (.int .i64 y) ∧ w'.cell? ⟨g, k * 5 + 3, none⟩ = some (.slice a2 dn d2) ∧ w'.cell? ⟨g, k * 5 + 4, none⟩ = some (.int .i64 at0)) (go_keep)
    (first | (go_at_call 13; refine (step_any op x y at0 a1 a2 dn d1 d2 dz _ HL.out (has_drewN H1.out 1) (has_drewN H2.out 1) (by omega)).mono ?_; rintro e w3 ⟨rfl, hb3⟩; obtain ⟨hcell, hf3, hn3, hj3⟩ := HW.out w3 hb3; have r0 := hcell _ _ f0; have r1 := hcell _ _ f1; have r2 := hcell _ _ f2; have r3 := hcell _ _ f3; have t0 := hcell _ _ s0; have t1 := hcell _ _ s1; have t2 := hcell _ _ s2; have t3 := hcell _ _ s3; have v0 := hcell _ _ e0; have v1 := hcell _ _ e1; have v2 := hcell _ _ e2; have v3 := hcell _ _ e3; have v4 := hcell _ _ e4; have y1 : w3.frozen? ⟨bf, 0, none⟩ = false := (by simp [World.frozen?, hf3]); have hset : w3.setCell ⟨bf, 0, none⟩ (.bool true) = w3 := (setCell_same hf3); have y2 : w3.frozen? ⟨bn, 0, none⟩ = false := (by simp [World.frozen?, hn3]); have HF3 : Hid (w3.heap[bf]? = some (.cells #[.bool true] 4 (0, 0))) := hf3; have HN3 : Hid (w3.heap[bn]? = some (.cells #[.int .i64 k] 3 (0, 0))) := hn3; have HJ3 : Hid (Below W.heap.size W w3) := hj3; clear hb3 hcell hf3 hn3 hj3))
  go_wp2
  go_ret
  exact ⟨rfl, one_setCell HN3.out, But.of_set HJ3.out _⟩
set_option maxRecDepth 100000 in
set_option maxHeartbeats 2000000 in
theorem clos2_any (bf bn bw g base cv k L : Nat) (at0 : Int) (op x y : Int) (a1 a2 : Option Addr) (dn d1 d2 : Nat) (dz : List Int) (W : World)
    (hf : W.heap[bf]? = some (.cells #[.bool true] 4 (0, 0))) (hn : W.heap[bn]? = some (.cells #[.int .i64 k] 3 (0, 0))) (hw : W.heap[bw]? = some (.cells #[.slice (some ⟨g, 0, none⟩) L cv] 23 (0, 0)))
    (hk : k < L) (hL : L ≤ 1099511627776)
    (c0 : W.cell? ⟨g, k * 5, none⟩ = some (.int .i64 op)) (c1 : W.cell? ⟨g, k * 5 + 1, none⟩ = some (.int .i64 x)) (c2 : W.cell? ⟨g, k * 5 + 2, none⟩ = some (.int .i64 y)) (c3 : W.cell? ⟨g, k * 5 + 3, none⟩ = some (.slice a2 dn d2)) (c4 : W.cell? ⟨g, k * 5 + 4, none⟩ = some (.int .i64 at0))
    (hl : dz.length = dn) (h1 : Has W a1 dz) (h2 : Has W a2 dz) (hd : dn ≤ 65535) :
    Calls Try.prog 14 #[.int .i64 at0, .agg #[.int .i64 op, .int .i64 x, .int .i64 y, .slice a1 dn d1], .pointer (some ⟨bf, 0, none⟩), .pointer (some ⟨bn, 0, none⟩), .pointer (some ⟨bw, 0, none⟩)] W fun e w' => e = .returned (.bool true) ∧ w'.heap[bn]? = some (.cells #[.int .i64 ((k : Int) + 1)] 3 (0, 0)) ∧ But bn W w' := by
  have HB : Hid (Below W.heap.size W (W.alloc (.cells #[.int .i64 op, .int .i64 x, .int .i64 y, .slice a1 dn d1] 32))) := (Below.refl _ W).alloc (Nat.le_refl _) _
  obtain ⟨Wa, hWa⟩ : ∃ Wa, W.alloc (.cells #[.int .i64 op, .int .i64 x, .int .i64 y, .slice a1 dn d1] 32) = Wa := ⟨_, rfl⟩
  have hba : Below W.heap.size W Wa := by rw [← hWa]; exact HB.out
  have hsb : Wa.heap[W.heap.size]? = some (.cells #[.int .i64 op, .int .i64 x, .int .i64 y, .slice a1 dn d1] 32 (0, 0)) := by rw [← hWa]; exact heap_alloc_new _ _
  have HWa : Hid (W.alloc (.cells #[.int .i64 op, .int .i64 x, .int .i64 y, .slice a1 dn d1] 32) = Wa) := hWa
  have bl : ∀ {j : Nat} {o : Obj}, W.heap[j]? = some o → Wa.heap[j]? = some o := fun {j} {o} h => (hba.block j (Array.getElem?_eq_some_iff.1 h).1).trans h
  obtain ⟨s0, s1, s2, s3⟩ := step_cells hsb
  have f0 : Wa.cell? ⟨bf, 0, none⟩ = some (.bool true) := by simp [World.cell?, bl hf]
  have f1 : Wa.cell? ⟨bn, 0, none⟩ = some (.int .i64 k) := by simp [World.cell?, bl hn]
  have f2 : Wa.cell? ⟨bw, 0, none⟩ = some (.slice (some ⟨g, 0, none⟩) L cv) := by simp [World.cell?, bl hw]
  have k0 : (0 : Int) ≤ k := by omega
  have k1 : (k : Int) < L := by omega
  have cc : ∀ {p : Addr} {u : Value}, W.cell? p = some u → Wa.cell? p = some u := fun {p} {u} h => (hba.cell (p := p) (World.block_lt_of_cell? W _ h)).trans h
  have e0 := cc c0
  have e1 := cc c1
  have e2 := cc c2
  have e3 := cc c3
  have e4 := cc c4
  have H1 : Hid (Has Wa a1 dz) := h1.of_below hba
  have H2 : Hid (Has Wa a2 dz) := h2.of_below hba
  have HL : Hid (dz.length = dn) := hl
  clear hWa cc bl HB c0 c1 c2 c3 c4 h1 h2 hl
  go_enter Try.func14, Try.ntmps14
  go_wp2_with fail
  rw [HWa.out]
  have hfa := (hba.block bf (Array.getElem?_eq_some_iff.1 hf).1).trans hf
  have hna := (hba.block bn (Array.getElem?_eq_some_iff.1 hn).1).trans hn
  have HW : Hid (∀ w3, Below Wa.drew.heap.size Wa.drew w3 → (∀ p u, Wa.cell? p = some u → w3.cell? p = some u) ∧ w3.heap[bf]? = some (.cells #[.bool true] 4 (0, 0)) ∧ w3.heap[bn]? = some (.cells #[.int .i64 k] 3 (0, 0)) ∧ Below W.heap.size W w3) := fun w3 h3 =>
    ⟨fun p u hp => (h3.cell (p := p) (World.block_lt_of_cell? Wa _ hp)).trans hp, (h3.block bf (Array.getElem?_eq_some_iff.1 hfa).1).trans hfa, (h3.block bn (Array.getElem?_eq_some_iff.1 hna).1).trans hna,
     hba.trans ((show Below Wa.heap.size Wa w3 from ⟨h3.os, h3.tape, h3.output, h3.size, h3.block⟩).mono hba.size)⟩
  have HF : Hid (W.heap[bf]? = some (.cells #[.bool true] 4 (0, 0))) := hf
  have HNm : Hid (bf ≠ bn) := fun e => by subst e; rw [hf] at hn; cases hn
  clear hfa hna hf hn hw hsb
  go_region_held3 (fun w' => w'.cell? ⟨bf, 0, none⟩ = some (.bool true) ∧ w'.cell? ⟨bn, 0, none⟩ = some (.int .i64 k) ∧ w'.cell? ⟨bw, 0, none⟩ = some (.slice (some ⟨g, 0, none⟩) L cv) ∧ w'.cell? ⟨W.heap.size, 0, none⟩ = some (.int .i64 op) ∧ w'.cell? ⟨W.heap.size, 1, none⟩ = some (.int .i64 x) ∧ w'.cell? ⟨W.heap.size, 2, none⟩ = some (.int .i64 y) ∧ w'.cell? ⟨W.heap.size, 3, none⟩ = some (.slice a1 dn d1) ∧ w'.cell? ⟨g, k * 5, none⟩ = some (.int .i64 op) ∧ w'.cell? ⟨g, k * 5 + 1, none⟩ = some (.int .i64 x) ∧ w'.cell? ⟨g, k * 5 + 2, none⟩ = some (.int .i64 y) ∧ w'.cell? ⟨g, k * 5 + 3, none⟩ = some (.slice a2 dn d2) ∧ w'.cell? ⟨g, k * 5 + 4, none⟩ = some (.int .i64 at0)) (go_keep)
    (first | (go_at_call 13; refine (step_any op x y at0 a1 a2 dn d1 d2 dz _ HL.out (has_drewN H1.out 1) (has_drewN H2.out 1) (by omega)).mono ?_; rintro e w3 ⟨rfl, hb3⟩; obtain ⟨hcell, hf3, hn3, hj3⟩ := HW.out w3 hb3; have r0 := hcell _ _ f0; have r1 := hcell _ _ f1; have r2 := hcell _ _ f2; have t0 := hcell _ _ s0; have t1 := hcell _ _ s1; have t2 := hcell _ _ s2; have t3 := hcell _ _ s3; have v0 := hcell _ _ e0; have v1 := hcell _ _ e1; have v2 := hcell _ _ e2; have v3 := hcell _ _ e3; have v4 := hcell _ _ e4; have y1 : w3.frozen? ⟨bf, 0, none⟩ = false := (by simp [World.frozen?, hf3]); have hset : w3.setCell ⟨bf, 0, none⟩ (.bool true) = w3 := (setCell_same hf3); have y2 : w3.frozen? ⟨bn, 0, none⟩ = false := (by simp [World.frozen?, hn3]); have HF3 : Hid (w3.heap[bf]? = some (.cells #[.bool true] 4 (0, 0))) := hf3; have HN3 : Hid (w3.heap[bn]? = some (.cells #[.int .i64 k] 3 (0, 0))) := hn3; have HJ3 : Hid (Below W.heap.size W w3) := hj3; clear hb3 hcell hf3 hn3 hj3))
  go_wp2
  go_ret
  exact ⟨rfl, one_setCell HN3.out, But.of_set HJ3.out _⟩
end Go.Proofs.Ytnbhadfhgecajaa
