/-
  The contracts of split and join: a number's eight bytes.
-/
import Derived.Test.YtkiikaopoeglcaaBase
import Derived.ChangeKeysEq
import Derived.Shelf.Abstract
namespace Go.Proofs.Ytkiikaopoeglcaa
open Go.RowKit
set_option linter.unusedVariables false
set_option linter.unusedSimpArgs false
theorem Try.info5 : (Try.prog.info? 5).map (fun i => (i.zero, i.size, i.bytes)) = some (some (.int .u8 0), 1, 1) := by kernel_rfl
abbrev arr8 (a b c d e f g h : Int) : Value := .agg #[.int .u8 a, .int .u8 b, .int .u8 c, .int .u8 d, .int .u8 e, .int .u8 f, .int .u8 g, .int .u8 h]
theorem zero_div {n : Int} {m : Int} (h0 : 0 ≤ n) (h1 : n ≤ 1048576) (hm : 1048576 < m) : n / m = 0 := Int.ediv_eq_zero_of_lt h0 (by omega)
set_option maxRecDepth 100000 in
set_option maxHeartbeats 1000000 in
theorem split_any (n : Int) (w : World) (h0 : 0 ≤ n) (h1 : n ≤ 1048576) :
    Calls Try.prog 10 #[.int .u64 n] w fun e w' => e = .returned (arr8 0 0 0 0 0 (n / 65536) (n / 256 % 256) (n % 256)) ∧ Below w.heap.size w w' := by
  have e7 := zero_div (m := 72057594037927936) h0 h1 (by decide)
  have e6 := zero_div (m := 281474976710656) h0 h1 (by decide)
  have e5 := zero_div (m := 1099511627776) h0 h1 (by decide)
  have e4 := zero_div (m := 4294967296) h0 h1 (by decide)
  have e3 := zero_div (m := 16777216) h0 h1 (by decide)
  go_enter Try.func10, Try.ntmps10
  go_wp2
  refine wp_loop_rounds 9 ?_
  iterate 9 (rw [rounds_succ]; go_wp2)
  exact bodyPost_ret (v := arr8 0 0 0 0 0 (n / 65536) (n / 256 % 256) (n % 256)) (by simp [results, Try.results10, go_sem, e3, e4, e5, e6, e7]) rfl ⟨rfl, (Below.refl _ _).alloc (Nat.le_refl _) _⟩
theorem run_index_array {P : Program} {w : World} (t e : TypeId) (n : Nat) (cs : Array Value) (k : IntKind) (i : Int) (v : Value) {inf : TypeInfo} (h : P.underlying t = some (.array n e)) (h0 : 0 ≤ i ∧ i < (n : Int)) (hv : cs[i.toNat]? = some v) (ho : P.info? e = some inf) (hc : P.cellsOf e = 1) (hp : ∀ W : World, (isAgg e).run P W = .ok false W) :
    (Instr.index t (.agg cs) (.int k i)).run P w = .ok v w := by
  simp [Instr.index, run_underlying h, asIntOf, h0, hv, go_sem, run_sizeOf _ ho, hc, hp]
theorem or_none (z : Int) (hz : 0 ≤ z ∧ z ≤ 255) : bits .or .u64 0 z = z := by
  rw [u64_or 0 z (by omega) (by omega) (by omega) (by omega)]
  simp; omega
theorem or_next (v z : Int) (h0 : 0 ≤ v) (h1 : v ≤ 72057594037927935) (hz : 0 ≤ z ∧ z ≤ 255) : bits .or .u64 (IntKind.u64.wrap (v * 256)) z = v * 256 + z := by
  rw [show IntKind.u64.wrap (v * 256) = v * 256 by simp [IntKind.wrap, IntKind.bits, IntKind.signed]; omega]
  rw [u64_or (v * 256) z (by omega) (by omega) (by omega) (by omega)]
  rw [nat_join 8 (v * 256).toNat z.toNat (by omega) (by omega)]
  omega
theorem ret_u64 {a b : Int} (h : a = b) : Ending.returned (.int .u64 a) = .returned (.int .u64 b) := by rw [h]
set_option maxRecDepth 100000 in
set_option maxHeartbeats 1000000 in
theorem join_any (a b c d e f g h : Int) (w : World) (ha : 0 ≤ a ∧ a ≤ 255) (hb : 0 ≤ b ∧ b ≤ 255) (hc : 0 ≤ c ∧ c ≤ 255) (hd : 0 ≤ d ∧ d ≤ 255) (he : 0 ≤ e ∧ e ≤ 255) (hf : 0 ≤ f ∧ f ≤ 255) (hg : 0 ≤ g ∧ g ≤ 255) (hh : 0 ≤ h ∧ h ≤ 255) :
    Calls Try.prog 9 #[arr8 a b c d e f g h] w fun r w' => r = .returned (.int .u64 (((((((a * 256 + b) * 256 + c) * 256 + d) * 256 + e) * 256 + f) * 256 + g) * 256 + h)) ∧ Below w.heap.size w w' := by
  obtain ⟨inf, hi, _, _, _⟩ := info_parts Try.info5
  have ha5 := run_isAgg_plain Try.underlying5 rfl
  have i0 : ∀ W : World, (Instr.index 36 (arr8 a b c d e f g h) (.int .i64 0)).run Try.prog W = .ok (.int .u8 a) W := fun W => run_index_array 36 5 8 _ _ 0 _ Try.underlying36 (by decide) rfl hi (by kernel_rfl) ha5
  have i1 : ∀ W : World, (Instr.index 36 (arr8 a b c d e f g h) (.int .i64 1)).run Try.prog W = .ok (.int .u8 b) W := fun W => run_index_array 36 5 8 _ _ 1 _ Try.underlying36 (by decide) rfl hi (by kernel_rfl) ha5
  have i2 : ∀ W : World, (Instr.index 36 (arr8 a b c d e f g h) (.int .i64 2)).run Try.prog W = .ok (.int .u8 c) W := fun W => run_index_array 36 5 8 _ _ 2 _ Try.underlying36 (by decide) rfl hi (by kernel_rfl) ha5
  have i3 : ∀ W : World, (Instr.index 36 (arr8 a b c d e f g h) (.int .i64 3)).run Try.prog W = .ok (.int .u8 d) W := fun W => run_index_array 36 5 8 _ _ 3 _ Try.underlying36 (by decide) rfl hi (by kernel_rfl) ha5
  have i4 : ∀ W : World, (Instr.index 36 (arr8 a b c d e f g h) (.int .i64 4)).run Try.prog W = .ok (.int .u8 e) W := fun W => run_index_array 36 5 8 _ _ 4 _ Try.underlying36 (by decide) rfl hi (by kernel_rfl) ha5
  have i5 : ∀ W : World, (Instr.index 36 (arr8 a b c d e f g h) (.int .i64 5)).run Try.prog W = .ok (.int .u8 f) W := fun W => run_index_array 36 5 8 _ _ 5 _ Try.underlying36 (by decide) rfl hi (by kernel_rfl) ha5
  have i6 : ∀ W : World, (Instr.index 36 (arr8 a b c d e f g h) (.int .i64 6)).run Try.prog W = .ok (.int .u8 g) W := fun W => run_index_array 36 5 8 _ _ 6 _ Try.underlying36 (by decide) rfl hi (by kernel_rfl) ha5
  have i7 : ∀ W : World, (Instr.index 36 (arr8 a b c d e f g h) (.int .i64 7)).run Try.prog W = .ok (.int .u8 h) W := fun W => run_index_array 36 5 8 _ _ 7 _ Try.underlying36 (by decide) rfl hi (by kernel_rfl) ha5
  go_enter Try.func9, Try.ntmps9
  go_wp2
  refine wp_loop_rounds 9 ?_
  iterate 9 (rw [rounds_succ]; go_wp2)
  go_ret
  refine ⟨ret_u64 ?_, (Below.refl _ _).alloc (Nat.le_refl _) _⟩
  rw [or_none a ha, or_next a b (by omega) (by omega) hb, or_next _ c (by omega) (by omega) hc, or_next _ d (by omega) (by omega) hd, or_next _ e (by omega) (by omega) he, or_next _ f (by omega) (by omega) hf, or_next _ g (by omega) (by omega) hg, or_next _ h (by omega) (by omega) hh]
end Go.Proofs.Ytkiikaopoeglcaa
