/-
  The contracts of bytes.Clone and of first: the step that bytes begin with.
-/
import Derived.Test.YtnbhadfhgecajaaEncode
import Derived.Laws.CopyOwn
import Derived.Lib.LazyBuf
namespace Go.Proofs.Ytnbhadfhgecajaa
open Go.RowKit
set_option linter.unusedVariables false

theorem eq_nil (w : World) (a : Option Addr) (l c : Nat) : (binOp .eql 22 (.slice a l c) (.slice none 0 0)).run Try.prog w = .ok (.bool a.isNone) w := by
  exact Lib.run_eql_slice_nil w 22 5 a l c 0 0 Try.underlying22
set_option maxHeartbeats 400000 in
theorem clone_none (w : World) :
    Calls Try.prog 25 #[.slice none 0 0] w fun e w' => e = .returned (.slice none 0 0) ∧ w' = w := by
  have hq : ∀ w, (binOp .eql 22 (.slice none 0 0) (.slice none 0 0)).run Try.prog w = .ok (.bool true) w := fun w => eq_nil w none 0 0
  go_enter Try.func25, Try.ntmps25
  go_wp2
  go_ret
  exact ⟨rfl, rfl⟩
set_option maxHeartbeats 400000 in
theorem clone_some (x : Addr) (n cap : Nat) (zs : List Int) (w : World) (hn : zs.length = n) (hB : Has w (some x) zs) (hl : n ≤ 140737488351232) :
    Calls Try.prog 25 #[.slice (some x) n cap] w fun e w' => ∃ v, e = .returned v ∧ w'.ownsRow w.heap.size 5 1 v n (vals zs) ∧ Below w.heap.size w w' := by
  obtain ⟨i0, hi, hz0, hz1, hz2⟩ := info_parts Try.info5
  have b1 : Below w.heap.size w (w.alloc (.cells #[] 5)) := (Below.refl _ w).alloc (Nat.le_refl _) _
  have HO : Hid ((w.alloc (.cells #[] 5)).ownsRow w.heap.size 5 1 (.slice (some ⟨w.heap.size, 0, none⟩) 0 0) 0 []) := World.ownsRow_lit w _ 0 (Nat.le_refl _) (by decide) rfl
  have HB : Hid (Has w (some x) zs) := hB
  have HN : Hid (zs.length = n) := hn
  have N1 : Hid (∀ j u, (vals zs)[j]? = some u → (w.alloc (.cells #[] 5)).cell? (x.add j) = some u) := has_news HB b1
  have B1 : Hid (Below w.heap.size w (w.alloc (.cells #[] 5))) := b1
  have hq : ∀ w, (binOp .eql 22 (.slice (some x) n cap) (.slice none 0 0)).run Try.prog w = .ok (.bool false) w := fun w => eq_nil w (some x) n cap
  clear hB hn b1
  go_enter Try.func25, Try.ntmps25
  go_wp2_with (at_builtin; refine wpList_append_own _ rfl (.tmp 5) (.tmp 6) 22 rfl w.heap.size 5 i0 (.int .u8 0) 1 1 Try.underlying22 hi hz0 hz1 hz2 rfl (by decide) (.slice (some ⟨w.heap.size, 0, none⟩) 0 0) 0 [] rfl HO.out x n cap (vals zs) rfl (by rw [vals_length, HN.out]; omega) N1.out (vals_one _) (by unfold maxLen; omega) (by omega) (by simp) ?_; intro v1 w1 hown1 hgrow1 _; have B2 : Hid (Below w.heap.size w w1) := B1.out.grown hgrow1 B1.out.size (fun k h => by simp [Value.ownBlock] at h; omega); rw [Nat.zero_add, List.nil_append] at hown1; clear hgrow1)
  go_ret
  exact ⟨_, rfl, hown1, B2.out⟩
theorem clone_any (a : Option Addr) (n cap : Nat) (zs : List Int) (w : World) (hn : zs.length = n) (hB : Has w a zs) (hc : a = none → cap = 0) (hl : n ≤ 140737488351232) :
    Calls Try.prog 25 #[.slice a n cap] w fun e w' => ∃ v, e = .returned v ∧ w'.ownsRow w.heap.size 5 1 v n (vals zs) ∧ Below w.heap.size w w' := by
  rcases hB with ⟨rfl, rfl⟩ | ⟨x, rfl, hB⟩
  · obtain rfl := hc rfl
    subst hn
    refine (clone_none w).mono ?_
    rintro e w' ⟨rfl, rfl⟩
    exact ⟨_, rfl, World.ownsRow_nil _ _ _ _, Below.refl _ _⟩
  · exact clone_some x n cap zs w hn (.inr ⟨x, rfl, hB⟩) hl

/-- The five bytes ahead, noughts where there are none. -/
def five (zs : List Int) : List Int := [zs.getD 0 0, zs.getD 1 0, zs.getD 2 0, zs.getD 3 0, zs.getD 4 0]
theorem five_splice (zs : List Int) : splice [Value.int .u8 0, .int .u8 0, .int .u8 0, .int .u8 0, .int .u8 0] 0 (vals (zs.take 5)) = vals (five zs) := by
  match zs with
  | [] => rfl
  | [_] => rfl
  | [_, _] => rfl
  | [_, _, _] => rfl
  | [_, _, _, _] => rfl
  | a :: b :: c :: d :: e :: r => simp [splice, vals, five]
/-- What the step that the bytes begin with has: its Op, A, B, its data, how many bytes it takes. -/
def opOf (zs : List Int) : Int := zs.getD 0 0 % 16
def sizeOf' (zs : List Int) : Nat := min ((zs.getD 3 0).toNat + 256 * (zs.getD 4 0).toNat) (zs.length - 5)
def dataOf (zs : List Int) : List Int := if carries (opOf zs) then (zs.drop 5).take (sizeOf' zs) else []
def takes (zs : List Int) : Nat := if carries (opOf zs) then min 5 zs.length + sizeOf' zs else min 3 zs.length

theorem has_take {w : World} {a : Option Addr} {zs : List Int} (h : Has w a zs) (k : Nat) : Has w a (zs.take k) := by
  rcases h with ⟨h1, h2⟩ | ⟨x, hx, hc⟩
  · exact .inl ⟨h1, by rw [h2]; simp⟩
  · refine .inr ⟨x, hx, fun j hj => ?_⟩
    rw [List.length_take] at hj
    rw [hc j (by omega)]; simp [List.getD, show j < k by omega]
theorem first_a {w w2 : World} {zs : List Int} {cs : List Value} {z0 z1 z2 z3 z4 : Int} (hcs : Hid (vals (zs.take 5) = cs)) (hz : Hid (five zs = [z0, z1, z2, z3, z4])) (h : Hid (w2.heap[w.heap.size + 1]? = some (.cells (splice [Value.int .u8 0, .int .u8 0, .int .u8 0, .int .u8 0, .int .u8 0] 0 cs).toArray 56 (0, 0)))) :
    Hid (w2.heap[w.heap.size + 1]? = some (.cells #[.int .u8 z0, .int .u8 z1, .int .u8 z2, .int .u8 z3, .int .u8 z4] 56 (0, 0))) := by
  have h1 := h.out
  rw [← hcs.out, five_splice, hz.out] at h1
  exact h1
theorem form_cells {w2 : World} {m : Nat} {z0 z1 z2 z3 z4 : Int} (h : w2.heap[m]? = some (.cells #[.int .u8 z0, .int .u8 z1, .int .u8 z2, .int .u8 z3, .int .u8 z4] 56 (0, 0))) :
    w2.cell? ⟨m, 0, none⟩ = some (.int .u8 z0) ∧ w2.cell? ⟨m, 1, none⟩ = some (.int .u8 z1) ∧ w2.cell? ⟨m, 2, none⟩ = some (.int .u8 z2) ∧ w2.cell? ⟨m, 3, none⟩ = some (.int .u8 z3) ∧ w2.cell? ⟨m, 4, none⟩ = some (.int .u8 z4) := by
  refine ⟨?_, ?_, ?_, ?_, ?_⟩ <;> simp [World.cell?, h]

theorem step_cells {w2 : World} {m : Nat} {v0 v1 v2 v3 : Value} (h : w2.heap[m]? = some (.cells #[v0, v1, v2, v3] 32 (0, 0))) :
    w2.cell? ⟨m, 0, none⟩ = some v0 ∧ w2.cell? ⟨m, 1, none⟩ = some v1 ∧ w2.cell? ⟨m, 2, none⟩ = some v2 ∧ w2.cell? ⟨m, 3, none⟩ = some v3 := by
  refine ⟨?_, ?_, ?_, ?_⟩ <;> simp [World.cell?, h]
theorem step_free {w2 : World} {m : Nat} {cs : Array Value} {t : TypeId} (h : w2.heap[m]? = some (.cells cs t (0, 0))) :
    w2.frozen? ⟨m, 0, none⟩ = false ∧ w2.frozen? ⟨m, 1, none⟩ = false ∧ w2.frozen? ⟨m, 2, none⟩ = false ∧ w2.frozen? ⟨m, 3, none⟩ = false := by
  refine ⟨?_, ?_, ?_, ?_⟩ <;> simp [World.frozen?, h]

theorem or_join (z3 z4 : Int) (h0 : 0 ≤ z3) (h1 : z3 ≤ 255) (h2 : 0 ≤ z4) (h3 : z4 ≤ 255) : bits BinOp.or IntKind.i64 z3 (z4 * 256) = ((z3.toNat + 256 * z4.toNat : Nat) : Int) := by
  obtain ⟨A, rfl⟩ := Int.eq_ofNat_of_zero_le h0
  obtain ⟨B, rfl⟩ := Int.eq_ofNat_of_zero_le h2
  have h := (bits_nat .i64 16 (by decide) (fun n g0 g1 => by rw [IntKind.wrap_i64]; omega) A (B * 256) (by omega) (by omega)).2
  have e : ((B : Int) * 256) = ((B * 256 : Nat) : Int) := by omega
  show bits .or .i64 (A : Int) ((B : Int) * 256) = _
  rw [e, h, Nat.or_comm, nat_join 8 (B * 256) A (by omega) (by omega)]
  simp only [Int.toNat_natCast]
  omega
theorem own_shape {w : World} {base : Nat} {e : TypeId} {size : Nat} {v : Value} {n : Nat} {xs : List Value} (h : w.ownsRow base e size v n xs) : ∃ a c, v = .slice a n c := by
  rcases h.2 with ⟨rfl, rfl⟩ | ⟨g, cp, cur, rfl, _⟩
  · exact ⟨none, 0, rfl⟩
  · exact ⟨_, cp, rfl⟩
theorem first_end {w W3 w5 : World} {m : Nat} {v : Value} {M : Nat} {D : List Int} {z0 z1 z2 : Int} {R S0 : Array Value} (hm : w.heap.size + 1 < m) (hms : m < W3.heap.size) (hb : Below W3.heap.size W3 w5) (B3 : Below w.heap.size w W3) (hown : w5.ownsRow W3.heap.size 5 1 v M (vals D))
    (hS : W3.heap[m]? = some (.cells #[.int .i64 z0, .int .i64 z1, .int .i64 z2, .slice none 0 0] 32 (0, 0))) (hR : W3.heap[w.heap.size]? = some (.cells #[.int .i64 0, .int .i64 0, .int .i64 0, .slice none 0 0] 32 (0, 0))) :
    (w5.cell? ⟨m, 0, none⟩ = some (.int .i64 z0) ∧ w5.cell? ⟨m, 1, none⟩ = some (.int .i64 z1) ∧ w5.cell? ⟨m, 2, none⟩ = some (.int .i64 z2) ∧ w5.cell? ⟨m, 3, none⟩ = some (.slice none 0 0)) ∧ w5.frozen? ⟨m, 3, none⟩ = false ∧
    (w5.cell? ⟨w.heap.size, 0, none⟩ = some (.int .i64 0) ∧ w5.cell? ⟨w.heap.size, 1, none⟩ = some (.int .i64 0) ∧ w5.cell? ⟨w.heap.size, 2, none⟩ = some (.int .i64 0) ∧ w5.cell? ⟨w.heap.size, 3, none⟩ = some (.slice none 0 0)) ∧
    (w5.frozen? ⟨w.heap.size, 0, none⟩ = false ∧ w5.frozen? ⟨w.heap.size, 1, none⟩ = false ∧ w5.frozen? ⟨w.heap.size, 2, none⟩ = false ∧ w5.frozen? ⟨w.heap.size, 3, none⟩ = false) ∧
    Hid (((((w5.setCell ⟨m, 3, none⟩ v).setCell ⟨w.heap.size, 0, none⟩ (.int .i64 z0)).setCell ⟨w.heap.size, 1, none⟩ (.int .i64 z1)).setCell ⟨w.heap.size, 2, none⟩ (.int .i64 z2)).setCell ⟨w.heap.size, 3, none⟩ v |>.ownsRow w.heap.size 5 1 v M (vals D)) ∧
    Hid (Below w.heap.size w (((((w5.setCell ⟨m, 3, none⟩ v).setCell ⟨w.heap.size, 0, none⟩ (.int .i64 z0)).setCell ⟨w.heap.size, 1, none⟩ (.int .i64 z1)).setCell ⟨w.heap.size, 2, none⟩ (.int .i64 z2)).setCell ⟨w.heap.size, 3, none⟩ v)) := by
  have hS5 := (hb.block m hms).trans hS
  have hR5 := (hb.block w.heap.size (by omega)).trans hR
  have hne : ∀ k, v.ownBlock = some k → W3.heap.size ≤ k := fun k hk => (hown.lt k hk).1
  refine ⟨step_cells hS5, (step_free hS5).2.2.2, step_cells hR5, step_free hR5, ?_, ?_⟩
  · refine own_block (own_base hown (by omega)) (fun k hk => ?_)
    have := hne k hk
    rw [Below.heap_setCell _ _ _ _ (by show k ≠ w.heap.size; omega), Below.heap_setCell _ _ _ _ (by show k ≠ w.heap.size; omega), Below.heap_setCell _ _ _ _ (by show k ≠ w.heap.size; omega), Below.heap_setCell _ _ _ _ (by show k ≠ w.heap.size; omega), Below.heap_setCell _ _ _ _ (by show k ≠ m; omega)]
  · exact (((((B3.trans (hb.mono (by omega))).setCell (p := ⟨m, 3, none⟩) (by show w.heap.size ≤ m; omega) _).setCell (p := ⟨w.heap.size, 0, none⟩) (Nat.le_refl _) _).setCell (p := ⟨w.heap.size, 1, none⟩) (Nat.le_refl _) _).setCell (p := ⟨w.heap.size, 2, none⟩) (Nat.le_refl _) _).setCell (p := ⟨w.heap.size, 3, none⟩) (Nat.le_refl _) _

set_option maxRecDepth 100000 in
set_option maxHeartbeats 4000000 in
theorem first_any (a : Option Addr) (n cap : Nat) (zs : List Int) (w : World) (hP : Bs w a n cap zs) (h0 : 0 < n) (hl : n ≤ 1099511627776) :
    Calls Try.prog 27 #[.slice a n cap] w fun e w' => ∃ d : Sl, e = .returned (.tuple #[.agg #[.int .i64 (opOf zs), .int .i64 (zs.getD 1 0), .int .i64 (zs.getD 2 0), d.val], .int .i64 (takes zs)]) ∧ d.zs = dataOf zs ∧ d.n = (dataOf zs).length ∧ w'.ownsRow w.heap.size 5 1 d.val d.n (vals d.zs) ∧ Below w.heap.size w w' := by
  obtain ⟨i0, hi, hz0, hz1, hz2⟩ := info_parts Try.info5
  have hsz : (Try.prog.info? 5).map (·.size) = some 1 := by rw [hi]; simp [hz1]
  obtain ⟨cs, hcs⟩ : ∃ cs, vals (zs.take 5) = cs := ⟨_, rfl⟩
  have hcl : cs.length = Nat.min n 5 := by rw [← hcs, vals_length, List.length_take, hP.len]; exact Nat.min_comm _ _
  obtain ⟨N, hN⟩ : ∃ N, cs.length = N := ⟨_, rfl⟩
  have hN5 : N ≤ 5 := by rw [← hN, hcl]; exact Nat.min_le_right _ _
  have hNn : N ≤ n := by rw [← hN, hcl]; exact Nat.min_le_left _ _
  have HN : Hid (N = min 5 zs.length) := by show N = _; rw [← hN, hcl, hP.len]; exact Nat.min_comm _ _
  obtain ⟨WA, hWA⟩ : ∃ WA, w.alloc (Obj.cells #[.int .i64 0, .int .i64 0, .int .i64 0, .slice none 0 0] 32) = WA := ⟨_, rfl⟩
  have hA0 : WA.heap[w.heap.size]? = some (Obj.cells #[.int .i64 0, .int .i64 0, .int .i64 0, .slice none 0 0] 32 (0, 0)) := by rw [← hWA]; exact heap_alloc_new _ _
  have hAs : WA.heap.size = w.heap.size + 1 := by rw [← hWA]; simp
  have hAb : Below w.heap.size w WA := by rw [← hWA]; exact (Below.refl _ _).alloc (Nat.le_refl _) _
  have HG : Hid ((WA.alloc (Obj.cells #[.int .u8 0, .int .u8 0, .int .u8 0, .int .u8 0, .int .u8 0] 56)).heap[w.heap.size + 1]? = some (.cells [Value.int .u8 0, .int .u8 0, .int .u8 0, .int .u8 0, .int .u8 0].toArray 56 (0, 0))) := by
    have := heap_alloc_new WA (Obj.cells #[.int .u8 0, .int .u8 0, .int .u8 0, .int .u8 0, .int .u8 0] 56)
    rw [hAs] at this; exact this
  have hbB : Below (w.heap.size + 1) WA (WA.alloc (Obj.cells #[.int .u8 0, .int .u8 0, .int .u8 0, .int .u8 0, .int .u8 0] 56)) := (Below.refl _ _).alloc (by omega) _
  have HPos : Hid (0 < cs.length → (some (⟨w.heap.size + 1, 0, none⟩ : Addr)) = some ⟨w.heap.size + 1, 0, none⟩ ∧ ∃ ad, a = some ad ∧ ∀ j v, cs[j]? = some v → (WA.alloc (Obj.cells #[.int .u8 0, .int .u8 0, .int .u8 0, .int .u8 0, .int .u8 0] 56)).cell? (ad.add j) = some v) := fun h => by
    refine ⟨rfl, ?_⟩
    rcases (has_take hP.has 5).of_below (hAb.trans (hbB.mono (by omega))) with ⟨_, h2⟩ | ⟨x, hx, hc⟩
    · rw [← hcs, h2] at h; simp [vals] at h
    · refine ⟨x, hx, fun j v hv => ?_⟩
      rw [← hcs] at hv
      obtain ⟨hj, rfl⟩ := vals_at _ j v hv
      exact hc j hj
  have HCS : Hid (vals (zs.take 5) = cs) := hcs
  have HNL : Hid (cs.length = N) := hN
  have HFit : Hid (0 + cs.length ≤ [Value.int .u8 0, .int .u8 0, .int .u8 0, .int .u8 0, .int .u8 0].length) := by show 0 + cs.length ≤ 5; omega
  have HOne : Hid (∀ v ∈ cs, v.oneCell' = true) := by rw [← hcs]; exact vals_one _
  have HCL : Hid (cs.length = Nat.min n 5) := hcl
  have HWA : Hid (w.alloc (Obj.cells #[.int .i64 0, .int .i64 0, .int .i64 0, .slice none 0 0] 32) = WA) := hWA
  have HP : Hid (Bs w a n cap zs) := hP
  have o0 := hP.oct 0
  have o1 := hP.oct 1
  have o2 := hP.oct 2
  have o3 := hP.oct 3
  have o4 := hP.oct 4
  obtain ⟨z0, hz0'⟩ : ∃ z, zs.getD 0 0 = z := ⟨_, rfl⟩
  obtain ⟨z1, hz1'⟩ : ∃ z, zs.getD 1 0 = z := ⟨_, rfl⟩
  obtain ⟨z2, hz2'⟩ : ∃ z, zs.getD 2 0 = z := ⟨_, rfl⟩
  obtain ⟨z3, hz3'⟩ : ∃ z, zs.getD 3 0 = z := ⟨_, rfl⟩
  obtain ⟨z4, hz4'⟩ : ∃ z, zs.getD 4 0 = z := ⟨_, rfl⟩
  have HZ : Hid (five zs = [z0, z1, z2, z3, z4]) := by show five zs = _; unfold five; rw [hz0', hz1', hz2', hz3', hz4']
  have HOp : Hid (opOf zs = z0 % 16) := by show opOf zs = _; unfold opOf; rw [hz0']
  have HSz : Hid (sizeOf' zs = min (z3.toNat + 256 * z4.toNat) (zs.length - 5)) := by show sizeOf' zs = _; unfold sizeOf'; rw [hz3', hz4']
  rw [hz0'] at o0
  rw [hz1'] at o1 ⊢
  rw [hz2'] at o2 ⊢
  rw [hz3'] at o3
  rw [hz4'] at o4
  obtain ⟨o01, o02⟩ := o0
  obtain ⟨o11, o12⟩ := o1
  obtain ⟨o21, o22⟩ := o2
  obtain ⟨o31, o32⟩ := o3
  obtain ⟨o41, o42⟩ := o4
  rw [HOp.out]
  have hlen : Hid (zs.length = n) := hP.len
  clear hcs hN hcl hWA hP hz0' hz1' hz2' hz3' hz4'
  go_enter Try.func27, Try.ntmps27
  go_wp2_with (rw [HWA.out]; refine wpList_copy_splice rfl (.tmp 9) (.tmp 10) 22 22 rfl 5 Try.underlying22 hsz (some ⟨w.heap.size + 1, 0, none⟩) a 5 5 n cap rfl rfl (w.heap.size + 1) 0 [Value.int .u8 0, .int .u8 0, .int .u8 0, .int .u8 0, .int .u8 0] 56 HG.out cs HCL.out HPos.out HFit.out HOne.out (w.heap.size + 1) WA hbB (Nat.le_refl _) ?_; intro w2 HG2 hb2; rw [HNL.out]; have HF := first_a HCS HZ HG2; obtain ⟨f0, f1, f2, f3, f4⟩ := form_cells HF.out; clear HG2)
  obtain ⟨W3, hW3⟩ : ∃ W3, w2.alloc (Obj.cells #[.int .i64 (z0 % 16), .int .i64 z1, .int .i64 z2, .slice none 0 0] 32) = W3 := ⟨_, rfl⟩
  have hw2s : w.heap.size + 1 < w2.heap.size := (Array.getElem?_eq_some_iff.1 HF.out).1
  have hW3s : w2.heap.size < W3.heap.size := by rw [← hW3]; simp
  have hb3 : Below w2.heap.size w2 W3 := by rw [← hW3]; exact (Below.refl _ _).alloc (Nat.le_refl _) _
  have HS3 : Hid (W3.heap[w2.heap.size]? = some (.cells #[.int .i64 (z0 % 16), .int .i64 z1, .int .i64 z2, .slice none 0 0] 32 (0, 0))) := by show W3.heap[w2.heap.size]? = _; rw [← hW3]; exact heap_alloc_new _ _
  have HF3 : Hid (W3.heap[w.heap.size + 1]? = some (.cells #[.int .u8 z0, .int .u8 z1, .int .u8 z2, .int .u8 z3, .int .u8 z4] 56 (0, 0))) := (hb3.block _ hw2s).trans HF.out
  have HR3 : Hid (W3.heap[w.heap.size]? = some (.cells #[.int .i64 0, .int .i64 0, .int .i64 0, .slice none 0 0] 32 (0, 0))) := (hb3.block _ (by omega)).trans ((hb2.block _ (by omega)).trans hA0)
  have B3 : Below w.heap.size w W3 := hAb.trans ((hb2.mono (by omega : w.heap.size ≤ w.heap.size + 1)).trans (hb3.mono (by omega)))
  rw [hW3]
  clear hW3 hb3 hb2 hA0 hAb hbB f0 f1 f2 f3 f4 HG HPos HFit HOne HCL HWA HF hAs
  obtain ⟨q0, q1, q2, q3⟩ := step_cells HS3.out
  obtain ⟨r0, r1, r2, r3⟩ := step_cells HR3.out
  obtain ⟨y0, y1, y2, y3⟩ := step_free HR3.out
  by_cases hc : carries (z0 % 16)
  · have hcap := HP.out.fits
    have hmax := HP.out.cap
    unfold maxLen at hmax
    obtain ⟨b, off, rfl, hBx⟩ : ∃ b off, a = some ⟨b, off, none⟩ ∧ ∀ j, j < zs.length → w.cell? ⟨b, off + j, none⟩ = some (.int .u8 (zs.getD j 0)) := by
      rcases HP.out.has with ⟨_, h⟩ | ⟨x, rfl, hx⟩
      · have := hlen.out; rw [h] at this; simp at this; omega
      · obtain ⟨b, off, rfl, hc⟩ := ints_at (k := .u8) hx (by have := hlen.out; omega)
        exact ⟨b, off, rfl, hc⟩
    obtain ⟨p3, p4⟩ := form_cells HF3.out |>.2.2.2
    refine (carries_yes _ _ hc).mono ?_
    rintro e w4 ⟨rfl, hw4⟩
    have hw4 := hw4.symm
    subst hw4
    have HC : Hid (carries (z0 % 16)) := hc
    clear hc
    have n0 : (0 : Int) ≤ N := by omega
    have n1 : (N : Int) ≤ n := by omega
    obtain ⟨S, hor, hS⟩ : ∃ S : Nat, bits BinOp.or IntKind.i64 z3 (z4 * 256) = (S : Int) ∧ Hid (S = z3.toNat + 256 * z4.toNat) := ⟨_, or_join z3 z4 o31 o32 o41 o42, rfl⟩
    have hS6 : S ≤ 65535 := by have := hS.out; omega
    obtain ⟨M, hM⟩ : ∃ M, min S (n - N) = M := ⟨_, rfl⟩
    have HM : Hid (min S (n - N) = M) := hM
    have hM1 : M ≤ n - N := by omega
    have hM2 : M ≤ 65535 := by omega
    have HD : Hid (dataOf zs = (zs.drop N).take M) := by
      show dataOf zs = _
      have h1 := HN.out; have h2 := HSz.out; have h3 := hlen.out; have h4 := hS.out; have h5 := HM.out
      unfold dataOf
      rw [HOp.out, if_pos HC.out, h2]
      by_cases h : 5 ≤ zs.length
      · rw [show N = 5 by omega]; congr 1; omega
      · rw [List.drop_of_length_le (by omega), List.drop_of_length_le (by omega)]; simp
    have HDl : Hid (((zs.drop N).take M).length = M) := by show _ = M; rw [List.length_take, List.length_drop, hlen.out]; omega
    have HT : Hid (takes zs = N + M) := by
      show takes zs = _
      have h1 := HN.out; have h2 := HSz.out; have h3 := hlen.out; have h4 := hS.out; have h5 := HM.out
      unfold takes
      rw [HOp.out, if_pos HC.out, h2]; omega
    have hmin : (S : Int) ≤ ((n - N : Nat) : Int) ∧ M = S ∨ ((n - N : Nat) : Int) < S ∧ M = n - N := by have := HM.out; omega
    clear hM HSz HCS HNL
    by_cases hce : cap = N
    · have hnN : n = N := by omega
      have hM0 : M = 0 := by omega
      subst hM0
      subst hce
      have HE : Hid (Has W3 (some ⟨b, off, none⟩) ((zs.drop cap).take 0)) := .inr ⟨_, rfl, fun j hj => by simp at hj⟩
      have hnz : n - cap = 0 := by omega
      rcases Nat.eq_zero_or_pos S with hS0 | hS0
      all_goals
        first | subst hS0 | skip
        go_wp2_with fail
        refine (clone_some ⟨b, off, none⟩ 0 0 ((zs.drop cap).take 0) _ (by simp) HE.out (by omega)).mono ?_
        rintro e w5 ⟨v, rfl, hown5, hb5⟩
        obtain ⟨av, cv, rfl⟩ := own_shape hown5
        obtain ⟨⟨t0, t1, t2, t3⟩, t4, ⟨u0, u1, u2, u3⟩, ⟨x0, x1, x2, x3⟩, HO5, HB5⟩ := first_end hw2s hW3s hb5 B3 hown5 HS3.out HR3.out (R := #[]) (S0 := #[])
        clear hown5 hb5 q0 q1 q2 q3 r0 r1 r2 r3 y0 y1 y2 y3
        go_wp2
        refine bodyPost_ret (v := .tuple #[.agg #[.int .i64 (z0 % 16), .int .i64 z1, .int .i64 z2, .slice av 0 cv], .int .i64 ((cap : Int) + 0)]) (by simp [results, Try.results27, go_sem, u0, u1, u2, u3]) rfl ?_
        exact ⟨⟨av, 0, cv, (zs.drop cap).take 0⟩, by rw [HT.out]; rfl, HD.out.symm, by rw [HD.out, HDl.out], HO5.out, HB5.out⟩
    · have HE : Hid (Has W3 (some ⟨b, off + N, none⟩) ((zs.drop N).take M)) := by
        refine Has.of_below (w := w) (.inr ⟨_, rfl, fun j hj => ?_⟩) B3
        rw [HDl.out] at hj
        rw [Go.WideShapes.add_plain, Nat.add_assoc, hBx (N + j) (by have := hlen.out; omega)]
        simp [List.getD, hj]
      have hNc : (N : Int) ≤ cap := by omega
      rcases hmin with ⟨h1, h2⟩ | ⟨h1, h2⟩
      · subst h2
        have h3 : M ≤ n - N := by omega
        have h4 : (M : Int) ≤ ((cap - N : Nat) : Int) := by omega
        go_wp2_with fail
        refine (clone_some ⟨b, off + N, none⟩ M (cap - N) ((zs.drop N).take M) _ HDl.out HE.out (by omega)).mono ?_
        rintro e w5 ⟨v, rfl, hown5, hb5⟩
        obtain ⟨av, cv, rfl⟩ := own_shape hown5
        obtain ⟨⟨t0, t1, t2, t3⟩, t4, ⟨u0, u1, u2, u3⟩, ⟨x0, x1, x2, x3⟩, HO5, HB5⟩ := first_end hw2s hW3s hb5 B3 hown5 HS3.out HR3.out (R := #[]) (S0 := #[])
        clear hown5 hb5 q0 q1 q2 q3 r0 r1 r2 r3 y0 y1 y2 y3
        go_wp2
        refine bodyPost_ret (v := .tuple #[.agg #[.int .i64 (z0 % 16), .int .i64 z1, .int .i64 z2, .slice av M cv], .int .i64 ((N : Int) + M)]) (by simp [results, Try.results27, go_sem, u0, u1, u2, u3]) rfl ?_
        exact ⟨⟨av, M, cv, (zs.drop N).take M⟩, by rw [HT.out]; simp, HD.out.symm, by rw [HD.out, HDl.out], HO5.out, HB5.out⟩
      · subst h2
        have h4 : ((n - N : Nat) : Int) ≤ ((cap - N : Nat) : Int) := by omega
        go_wp2_with fail
        refine (clone_some ⟨b, off + N, none⟩ (n - N) (cap - N) ((zs.drop N).take (n - N)) _ HDl.out HE.out (by omega)).mono ?_
        rintro e w5 ⟨v, rfl, hown5, hb5⟩
        obtain ⟨av, cv, rfl⟩ := own_shape hown5
        obtain ⟨⟨t0, t1, t2, t3⟩, t4, ⟨u0, u1, u2, u3⟩, ⟨x0, x1, x2, x3⟩, HO5, HB5⟩ := first_end hw2s hW3s hb5 B3 hown5 HS3.out HR3.out (R := #[]) (S0 := #[])
        clear hown5 hb5 q0 q1 q2 q3 r0 r1 r2 r3 y0 y1 y2 y3
        go_wp2
        refine bodyPost_ret (v := .tuple #[.agg #[.int .i64 (z0 % 16), .int .i64 z1, .int .i64 z2, .slice av (n - N) cv], .int .i64 ((N : Int) + ((n - N : Nat) : Int))]) (by simp [results, Try.results27, go_sem, u0, u1, u2, u3]) rfl ?_
        exact ⟨⟨av, (n - N), cv, (zs.drop N).take (n - N)⟩, by rw [HT.out]; simp, HD.out.symm, by rw [HD.out, HDl.out], HO5.out, HB5.out⟩
  · refine (carries_no _ _ hc).mono ?_
    rintro e w4 ⟨rfl, hw4⟩
    have hw4 := hw4.symm
    subst hw4
    have HC : Hid (¬ carries (z0 % 16)) := hc
    clear hc
    have HD : Hid (dataOf zs = []) := by show dataOf zs = []; unfold dataOf; rw [HOp.out, if_neg HC.out]
    have HT : Hid (takes zs = min 3 n) := by show takes zs = _; unfold takes; rw [HOp.out, if_neg HC.out, hlen.out]
    have HB4 : Hid (Below w.heap.size w ((((W3.setCell ⟨w.heap.size, 0, none⟩ (.int .i64 (z0 % 16))).setCell ⟨w.heap.size, 1, none⟩ (.int .i64 z1)).setCell ⟨w.heap.size, 2, none⟩ (.int .i64 z2)).setCell ⟨w.heap.size, 3, none⟩ (.slice none 0 0))) := (((B3.setCell (p := ⟨w.heap.size, 0, none⟩) (Nat.le_refl _) _).setCell (p := ⟨w.heap.size, 1, none⟩) (Nat.le_refl _) _).setCell (p := ⟨w.heap.size, 2, none⟩) (Nat.le_refl _) _).setCell (p := ⟨w.heap.size, 3, none⟩) (Nat.le_refl _) _
    have hNn' : N = min 5 n := by rw [HN.out, hlen.out]
    have HN' : Hid (N = min 5 n) := hNn'
    clear hNn'
    by_cases h3 : N ≤ 3
    · have e3 : Hid (takes zs = N) := by have h1 := HT.out; have h2 := HN'.out; show takes zs = N; rw [h1]; omega
      go_wp2
      all_goals
        refine bodyPost_ret (v := .tuple #[.agg #[.int .i64 (z0 % 16), .int .i64 z1, .int .i64 z2, .slice none 0 0], .int .i64 N]) (by simp [results, Try.results27, go_sem, r0, r1, r2, r3]; try omega) rfl ?_
        exact ⟨⟨none, 0, 0, []⟩, by rw [e3.out], HD.out.symm, by rw [HD.out]; rfl, World.ownsRow_nil _ _ _ _, HB4.out⟩
    · have e3 : Hid (takes zs = 3) := by have h1 := HT.out; have h2 := HN'.out; show takes zs = 3; rw [h1]; omega
      go_wp2
      refine bodyPost_ret (v := .tuple #[.agg #[.int .i64 (z0 % 16), .int .i64 z1, .int .i64 z2, .slice none 0 0], .int .i64 3]) (by simp [results, Try.results27, go_sem, r0, r1, r2, r3]) rfl ?_
      exact ⟨⟨none, 0, 0, []⟩, by rw [e3.out]; rfl, HD.out.symm, by rw [HD.out]; rfl, World.ownsRow_nil _ _ _ _, HB4.out⟩
end Go.Proofs.Ytnbhadfhgecajaa
