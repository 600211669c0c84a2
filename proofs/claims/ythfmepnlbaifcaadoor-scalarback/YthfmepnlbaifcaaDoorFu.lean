/-
  strconv.FormatUint of a number.
-/
import Derived.Test.YthfmepnlbaifcaaDoorPu
import Derived.Test.YthfmepnlbaifcaaDoorDm
import Derived.Lib.AppendIntMem
namespace Go.Proofs.YthfmepnlbaifcaaDoor
open Go.RowKit Go.Sort
set_option linter.unusedVariables false
set_option linter.unusedSimpArgs false
/-- the table of powers of ten -/
def T10 (w : World) : Prop := Lib.TabIs Tryd.prog w "internal/strconv.uint64pow10" .u64 Lib.pow10Tab
theorem T10.below {w w' : World} (h : T10 w) (hb : Below w.heap.size w w') : T10 w' := Lib.tabBelow_of_tabIs h w' hb
theorem T10.drewN {w : World} (h : T10 w) (n : Nat) : T10 (w.drewN n) := h.below (below_drewN (Below.refl _ w) n)
theorem T10.alloc {w : World} (h : T10 w) (o : Obj) : T10 (w.alloc o) := Lib.tabIs_alloc h o
set_option maxRecDepth 100000 in
theorem fmtu_i (u : Nat) (h1 : 1 ≤ u) (h2 : u < 1000000000000000) (w : World) (htab : T10 w) :
    Calls Tryd.prog 78 #[.int .u64 u, .int .i64 10] w fun e w' => e = .returned (.string ⟨(Lib.decDigits u).toArray⟩) ∧ Below w.heap.size w w' := by
  by_cases h100 : u < 100
  · have h := Tryd.internal_strconv_small u h100 w
    have h3 : (u : Int) < 100 := by omega
    clear htab
    go_enter Tryd.func78, Tryd.ntmps78
    go_wp2_with (go_at_call 61; refine h.mono ?_; rintro e w' ⟨rfl, rfl⟩)
    go_ret
    exact ⟨rfl, Below.refl _ _⟩
  · have hu64 : u < 18446744073709551616 := by omega
    have hnd20 : Lib.nDigits u ≤ 20 := by have := Lib.numDigits_eq u h1 hu64; split at this <;> omega
    have hal : Tryd.prog.arrayLen 100 = 24 := by kernel_rfl
    have hsl : ∀ W, (Instr.sliceAt 100 (.pointer (some ⟨w.heap.size, 0, none⟩)) none (some (.int .i64 (Lib.nDigits u : Int))) none).run Tryd.prog W = .ok (.slice (some ⟨w.heap.size, 0, none⟩) (Lib.nDigits u) 24) W := fun W => by
      rw [run_sliceAt_array_h W 100 ⟨w.heap.size, 0, none⟩ (by simp [Program.arrayLen, Program.elem, Tryd.underlying100]) .i64 (Lib.nDigits u : Int) (by omega) (by rw [hal]; omega)]
      go_simp
    have hH0 := Lib.holds_zero0 w 100 (Lib.nDigits u) (by omega)
    have hfmt := Tryd.internal_strconv_formatBase10 w.heap.size 0 24 u (Array.replicate (Lib.nDigits u) 0) (w.alloc (.cells Lib.zeros24 100)) hH0 (by rw [Array.size_replicate]; exact Lib.lt_pow_nDigits u) hu64 (by rw [Array.size_replicate]; omega)
    rw [Array.size_replicate] at hfmt
    have hnum := Tryd.internal_strconv_numDigits u h1 hu64 _ (Lib.tabIs_alloc htab (.cells Lib.zeros24 100))
    have HH0 := Lib.hid hH0
    have iu : (100 : Int) ≤ (u : Int) := by omega
    clear hH0 hal htab
    go_enter Tryd.func78, Tryd.ntmps78
    go_wp2_with (go_at_call 62; refine hnum.mono ?_; rintro e w' ⟨rfl, rfl⟩)
    go_at_call 63
    refine hfmt.mono ?_
    rintro e w' ⟨rfl, k, v', dk, rfl, hF⟩
    have hcv : (convert 83 9 (.slice (some ⟨w.heap.size, 0, none⟩) (Lib.nDigits u) 24)).run Tryd.prog ((putRow (fun (b : UInt8) => Value.int .u8 (b.toNat : Int)) (w.alloc (.cells Lib.zeros24 100)) w.heap.size 0 dk).drewN k) = .ok (.string ⟨(Lib.decDigits u).toArray⟩) ((putRow (fun (b : UInt8) => Value.int .u8 (b.toNat : Int)) (w.alloc (.cells Lib.zeros24 100)) w.heap.size 0 dk).drewN k) := by
      have h := run_convert_bytes_back (P := Tryd.prog) ((putRow (fun (b : UInt8) => Value.int .u8 (b.toNat : Int)) (w.alloc (.cells Lib.zeros24 100)) w.heap.size 0 dk).drewN k) 83 9 5 ⟨w.heap.size, 0, none⟩ 24 (Lib.decDigits u) Tryd.underlying83 Tryd.underlying5 Tryd.underlying9 (fun j hj => by
        rw [Lib.row_is_numeral hF j hj, Lib.add_plain, World.cell?_drewN]
        exact cell?_putRow (fun (b : UInt8) => Value.int .u8 (b.toNat : Int)) _ w.heap.size 0 _ dk HH0.out (by rw [hF.size, Array.size_replicate]) j (by rw [hF.size]; rw [Lib.decDigits_length] at hj; exact hj))
      rw [Lib.decDigits_length] at h
      exact h
    obtain ⟨os, eo⟩ := Lib.fin_at w (.cells Lib.zeros24 100) dk k 0
    have hb : Hid (Below w.heap.size w ((putRow (fun (b : UInt8) => Value.int .u8 (b.toNat : Int)) (w.alloc (.cells Lib.zeros24 100)) w.heap.size 0 dk).drewN k)) := by rw [eo]; exact Lib.below_grow w.heap.size w (Nat.le_refl _) k os
    clear eo HH0 hfmt
    go_wp2
    go_ret
    exact ⟨rfl, hb.out⟩
theorem fmtu (u : Nat) (h1 : 1 ≤ u) (h2 : u < 1000000000000000) (w : World) (htab : T10 w) :
    Calls Tryd.prog 65 #[.int .u64 u, .int .i64 10] w fun e w' => e = .returned (.string ⟨(Lib.decDigits u).toArray⟩) ∧ Below w.heap.size w w' := by
  have h := fmtu_i u h1 h2 w htab
  clear htab
  go_enter Tryd.func65, Tryd.ntmps65
  go_wp2_with (go_at_call 78; refine h.mono ?_; rintro e w' ⟨rfl, hb⟩)
  go_ret
  exact ⟨rfl, hb⟩
theorem rep48 (z : Nat) : Lib.repeatL [48] z = List.replicate z 48 := by
  induction z with
  | zero => rfl
  | succ z ih => rw [List.replicate_succ, ← ih]; rfl
theorem rep_any (z : Nat) (hz : z ≤ 100) (w : World) : Calls Tryd.prog 66 #[.string ⟨([48] : List UInt8).toArray⟩, .int .i64 z] w fun e w' => e = .returned (.string ⟨(List.replicate z (48 : UInt8)).toArray⟩) ∧ Below w.heap.size w w' := by
  have h := Tryd.strings_Repeat ⟨([48] : List UInt8).toArray⟩ z w (by omega) (by show 1 * z ≤ _; omega)
  have e : Lib.repeatL (⟨([48] : List UInt8).toArray⟩ : ByteArray).data.toList z = List.replicate z 48 := rep48 z
  rw [e] at h
  exact h
end Go.Proofs.YthfmepnlbaifcaaDoor
