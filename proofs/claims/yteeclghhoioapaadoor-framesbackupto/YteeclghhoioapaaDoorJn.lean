/-
  join: the number that the lowest bytes tell.
-/
import Derived.Test.YteeclghhoioapaaDoorRg
namespace Go.Proofs.YteeclghhoioapaaDoor
open Go.RowKit
set_option linter.unusedVariables false
set_option linter.unusedSimpArgs false
set_option maxRecDepth 100000
theorem run_index_array {P : Program} {w : World} (t e : TypeId) (n : Nat) (cs : Array Value) (k : IntKind) (i : Int) (v : Value) {inf : TypeInfo} (h : P.underlying t = some (.array n e)) (h0 : 0 ≤ i ∧ i < (n : Int)) (hv : cs[i.toNat]? = some v) (ho : P.info? e = some inf) (hc : P.cellsOf e = 1) (hp : ∀ W : World, (isAgg e).run P W = .ok false W) :
    (Instr.index t (.agg cs) (.int k i)).run P w = .ok v w := by
  simp [Instr.index, run_underlying h, asIntOf, h0, hv, go_sem, run_sizeOf _ ho, hc, hp]
theorem or_none (z : Int) (hz : 0 ≤ z ∧ z ≤ 255) : bits .or .u64 0 z = z := by
  rw [u64_or 0 z (by omega) (by omega) (by omega) (by omega)]
  simp; omega
theorem or_next (v z : Int) (h0 : 0 ≤ v) (h1 : v ≤ 72057594037927935) (hz : 0 ≤ z ∧ z ≤ 255) : bits .or .u64 (IntKind.u64.wrap (v * 256)) z = v * 256 + z := by
  rw [show IntKind.u64.wrap (v * 256) = v * 256 by simp [IntKind.wrap, IntKind.bits, IntKind.signed]; omega]
  rw [u64_or (v * 256) z (by omega) (by omega) (by omega) (by omega)]
  rw [nat_join 8 (v * 256).toNat z.toNat (by omega) (by omega)]
  omega
def zeros (k : Nat) : List Int := List.replicate k 0
theorem val_zeros (k : Nat) (zs : List Int) : val (zeros k ++ zs) = val zs := by
  induction k with
  | zero => simp [zeros]
  | succ k ih =>
    rw [zeros, List.replicate_succ, List.cons_append, val_cons, Int.zero_mul, Int.zero_add]
    exact ih
theorem zeros_octets (k : Nat) : Octets (zeros k) := fun i => by
  unfold zeros
  simp [List.getD, List.getElem?_replicate]
  split <;> simp
theorem eight_of {L : List Int} (h : L.length = 8) : ∃ a b c d e f g i, L = [a, b, c, d, e, f, g, i] := by
  match L, h with
  | [a, b, c, d, e, f, g, i], _ => exact ⟨a, b, c, d, e, f, g, i, rfl⟩
theorem splice_zeros (n : Nat) (zs : List Int) (hn : zs.length = n) (h8 : n ≤ 8) : splice (vals (zeros 8)) (8 - n) (vals zs) = vals (zeros (8 - n) ++ zs) := by
  unfold splice zeros
  rw [vals_append]
  simp only [vals, List.map_replicate, List.take_replicate, List.drop_replicate, List.length_map]
  rw [hn, show min (8 - n) 8 = 8 - n by omega, show 8 - (8 - n + n) = 0 by omega]
  simp
theorem nj_cells {w : World} {B : Nat} {z0 z1 z2 z3 z4 z5 z6 z7 : Int} {t : TypeId} {fr : Nat × Nat} (h : w.heap[B]? = some (.cells (vals [z0, z1, z2, z3, z4, z5, z6, z7]).toArray t fr)) :
    w.cell? ⟨B, 0, none⟩ = some (.int .u8 z0) ∧ w.cell? ⟨B, 1, none⟩ = some (.int .u8 z1) ∧ w.cell? ⟨B, 2, none⟩ = some (.int .u8 z2) ∧ w.cell? ⟨B, 3, none⟩ = some (.int .u8 z3) ∧ w.cell? ⟨B, 4, none⟩ = some (.int .u8 z4) ∧ w.cell? ⟨B, 5, none⟩ = some (.int .u8 z5) ∧ w.cell? ⟨B, 6, none⟩ = some (.int .u8 z6) ∧ w.cell? ⟨B, 7, none⟩ = some (.int .u8 z7) := by
  refine ⟨?_, ?_, ?_, ?_, ?_, ?_, ?_, ?_⟩ <;> (rw [cell_of_row w B _ _ t _ h]; rfl)
theorem nj_pos {w : World} {a : Option Addr} {zs : List Int} {g d : Nat} {o : Obj} (hB : Has w a zs) : 0 < (vals zs).length → (some (⟨g, d, none⟩ : Addr)) = some ⟨g, d, none⟩ ∧ ∃ ad, a = some ad ∧ ∀ j v, (vals zs)[j]? = some v → (w.alloc o).cell? (ad.add j) = some v := by
  intro h0
  refine ⟨rfl, ?_⟩
  have hB' := hB.of_below ((Below.refl _ w).alloc (Nat.le_refl _) o)
  rcases hB' with ⟨_, rfl⟩ | ⟨x, rfl, hx⟩
  · simp [vals] at h0
  · refine ⟨x, rfl, fun j v hv => ?_⟩
    obtain ⟨hj, rfl⟩ := vals_at zs j v hv
    exact hx j hj
set_option maxHeartbeats 4000000 in
theorem njoin_any (a : Option Addr) (n cap : Nat) (zs : List Int) (w : World) (hn : zs.length = n) (hB : Has w a zs) (hz : Octets zs) (h8 : n ≤ 8) :
    Calls Tryd.prog 33 #[.slice a n cap] w fun e w' => e = .returned (.int .i64 (sgn (val zs))) ∧ Below w.heap.size w w' := by
  obtain ⟨inf, hi, hz0, hz1, hz2⟩ := info_parts Tryd.info5
  have hsz : (Tryd.prog.info? 5).map (·.size) = some 1 := by rw [hi]; simp [hz1]
  have HN := hideL hn
  have HB := hideL hB
  have HS := hideL (splice_zeros n zs hn h8)
  have HS0 : Hid (n = 0 → splice (vals (zeros 8)) 0 (vals zs) = vals (zeros (8 - n) ++ zs)) := fun h => by
    subst h
    have : zs = [] := List.eq_nil_of_length_eq_zero hn
    subst this
    rfl
  have ho : Octets (zeros (8 - n) ++ zs) := (zeros_octets _).append hz
  have hl : (zeros (8 - n) ++ zs).length = 8 := by simp [zeros, hn]; omega
  obtain ⟨z0, z1, z2, z3, z4, z5, z6, z7, hE⟩ := eight_of hl
  have hv := val_zeros (8 - n) zs
  rw [hE] at hv ho
  have HE := hideL hE
  have HV := hideL hv
  have r0 := ho 0; have r1 := ho 1; have r2 := ho 2; have r3 := ho 3; have r4 := ho 4; have r5 := ho 5; have r6 := ho 6; have r7 := ho 7
  simp at r0 r1 r2 r3 r4 r5 r6 r7
  have ha5 := run_isAgg_plain Tryd.underlying5 rfl
  have i0 : ∀ W : World, (Instr.index 98 (arr8 z0 z1 z2 z3 z4 z5 z6 z7) (.int .i64 0)).run Tryd.prog W = .ok (.int .u8 z0) W := fun W => run_index_array 98 5 8 _ _ 0 _ Tryd.underlying98 (by decide) rfl hi (by kernel_rfl) ha5
  have i1 : ∀ W : World, (Instr.index 98 (arr8 z0 z1 z2 z3 z4 z5 z6 z7) (.int .i64 1)).run Tryd.prog W = .ok (.int .u8 z1) W := fun W => run_index_array 98 5 8 _ _ 1 _ Tryd.underlying98 (by decide) rfl hi (by kernel_rfl) ha5
  have i2 : ∀ W : World, (Instr.index 98 (arr8 z0 z1 z2 z3 z4 z5 z6 z7) (.int .i64 2)).run Tryd.prog W = .ok (.int .u8 z2) W := fun W => run_index_array 98 5 8 _ _ 2 _ Tryd.underlying98 (by decide) rfl hi (by kernel_rfl) ha5
  have i3 : ∀ W : World, (Instr.index 98 (arr8 z0 z1 z2 z3 z4 z5 z6 z7) (.int .i64 3)).run Tryd.prog W = .ok (.int .u8 z3) W := fun W => run_index_array 98 5 8 _ _ 3 _ Tryd.underlying98 (by decide) rfl hi (by kernel_rfl) ha5
  have i4 : ∀ W : World, (Instr.index 98 (arr8 z0 z1 z2 z3 z4 z5 z6 z7) (.int .i64 4)).run Tryd.prog W = .ok (.int .u8 z4) W := fun W => run_index_array 98 5 8 _ _ 4 _ Tryd.underlying98 (by decide) rfl hi (by kernel_rfl) ha5
  have i5 : ∀ W : World, (Instr.index 98 (arr8 z0 z1 z2 z3 z4 z5 z6 z7) (.int .i64 5)).run Tryd.prog W = .ok (.int .u8 z5) W := fun W => run_index_array 98 5 8 _ _ 5 _ Tryd.underlying98 (by decide) rfl hi (by kernel_rfl) ha5
  have i6 : ∀ W : World, (Instr.index 98 (arr8 z0 z1 z2 z3 z4 z5 z6 z7) (.int .i64 6)).run Tryd.prog W = .ok (.int .u8 z6) W := fun W => run_index_array 98 5 8 _ _ 6 _ Tryd.underlying98 (by decide) rfl hi (by kernel_rfl) ha5
  have i7 : ∀ W : World, (Instr.index 98 (arr8 z0 z1 z2 z3 z4 z5 z6 z7) (.int .i64 7)).run Tryd.prog W = .ok (.int .u8 z7) W := fun W => run_index_array 98 5 8 _ _ 7 _ Tryd.underlying98 (by decide) rfl hi (by kernel_rfl) ha5
  clear hn hB hz hl hE hv ho
  have h8' := h8
  clear h8
  rcases (by omega : n = 0 ∨ n = 1 ∨ n = 2 ∨ n = 3 ∨ n = 4 ∨ n = 5 ∨ n = 6 ∨ n = 7 ∨ n = 8) with rfl | rfl | rfl | rfl | rfl | rfl | rfl | rfl | rfl
  all_goals
    clear h8'
    go_enter Tryd.func33, Tryd.ntmps33
    go_wp2_with (refine wpList_copy_splice rfl (.tmp 10) (.tmp 11) 24 24 rfl 5 Tryd.underlying24 hsz _ a _ _ _ cap rfl rfl w.heap.size _ (vals (zeros 8)) 98 (heap_alloc_new w _) (vals zs) (by rw [vals_length, HN.out]; rfl) (nj_pos HB.out) (by rw [vals_length, HN.out]; decide) (vals_one zs) w.heap.size w ((Below.refl _ w).alloc (Nat.le_refl _) _) (Nat.le_refl _) ?_; intro w2 HG hb2; obtain ⟨d0, d1, d2, d3, d4, d5, d6, d7⟩ := (by first | exact nj_cells (HG.out.trans (congrArg (fun l => some (Obj.cells (List.toArray l) 98 (0, 0))) (HS.out.trans (congrArg vals HE.out)))) | exact nj_cells (HG.out.trans (congrArg (fun l => some (Obj.cells (List.toArray l) 98 (0, 0))) ((HS0.out rfl).trans (congrArg vals HE.out)))) : w2.cell? ⟨w.heap.size, 0, none⟩ = some (.int .u8 z0) ∧ w2.cell? ⟨w.heap.size, 1, none⟩ = some (.int .u8 z1) ∧ w2.cell? ⟨w.heap.size, 2, none⟩ = some (.int .u8 z2) ∧ w2.cell? ⟨w.heap.size, 3, none⟩ = some (.int .u8 z3) ∧ w2.cell? ⟨w.heap.size, 4, none⟩ = some (.int .u8 z4) ∧ w2.cell? ⟨w.heap.size, 5, none⟩ = some (.int .u8 z5) ∧ w2.cell? ⟨w.heap.size, 6, none⟩ = some (.int .u8 z6) ∧ w2.cell? ⟨w.heap.size, 7, none⟩ = some (.int .u8 z7)); have HB2 := hideL hb2; clear hb2 HG)
    refine wp_loop_rounds 9 ?_
    iterate 9 (rw [rounds_succ]; go_wp2)
    go_ret
    refine ⟨ret_i64 ?_, HB2.out⟩
    rw [or_none z0 r0, or_next z0 z1 (by omega) (by omega) r1, or_next _ z2 (by omega) (by omega) r2, or_next _ z3 (by omega) (by omega) r3, or_next _ z4 (by omega) (by omega) r4, or_next _ z5 (by omega) (by omega) r5, or_next _ z6 (by omega) (by omega) r6, or_next _ z7 (by omega) (by omega) r7]
    rw [← HV.out]
    simp [val, sgn, IntKind.wrap, IntKind.bits, IntKind.signed, wrap64]
    split <;> omega
end Go.Proofs.YteeclghhoioapaaDoor
