/-
  The document's digits of a number.
-/
import Derived.Test.YthfmepnlbaifcaaDoorFu
import Derived.Deep.RegionHeld3
namespace Go.Proofs.YthfmepnlbaifcaaDoor
open Go.RowKit
set_option linter.unusedVariables false
set_option linter.unusedSimpArgs false
theorem cv_one (W : World) (b : Nat) (d : Nat) (hd : d < 10) (z : Int) (hz : z = 48 + (d : Int)) (h : W.cell? ⟨b, 0, none⟩ = some (.int .u8 z)) : (convert 83 9 (.slice (some ⟨b, 0, none⟩) 1 1)).run Tryd.prog W = .ok (.string ⟨([UInt8.ofNat (48 + d)] : List UInt8).toArray⟩) W := by
  have h2 := run_convert_bytes_back (P := Tryd.prog) W 83 9 5 ⟨b, 0, none⟩ 1 [UInt8.ofNat (48 + d)] Tryd.underlying83 Tryd.underlying5 Tryd.underlying9 (fun j hj => by
    have : j = 0 := by simp at hj; omega
    subst this
    rw [Lib.add_plain]
    show W.cell? ⟨b, 0, none⟩ = _
    rw [h, hz]
    have : ∀ d : Fin 10, ((UInt8.ofNat (48 + d.val)).toNat : Int) = 48 + (d.val : Int) := by decide
    have := this ⟨d, hd⟩
    simp only [List.getElem_cons_zero]
    rw [this])
  exact h2
theorem cell_one {W : World} {b : Nat} {v : Value} {t : TypeId} (h : W.heap[b]? = some (.cells #[v] t)) : W.cell? ⟨b, 0, none⟩ = some v := by simp [World.cell?, h]
set_option maxRecDepth 100000 in
theorem told_small (n : Nat) (h : n < 10) (w : World) : Calls Tryd.prog 30 #[.int .u64 n] w fun e w' => e = .returned (.string ⟨(Lib.decDigits n).toArray⟩) ∧ Below w.heap.size w w' := by
  rw [dd_one h]
  have hc := fun W b hh => cv_one W b n h (48 + (n : Int)) rfl hh
  have h1 : (n : Int) < 10 := by omega
  go_enter Tryd.func30, Tryd.ntmps30
  go_wp2
  go_ret
  exact ⟨by rw [UInt8.ofNat_add]; rfl, (Below.refl _ w).alloc (Nat.le_refl _) _⟩
theorem sadd (a b : List UInt8) : (ByteArray.mk a.toArray) ++ ⟨b.toArray⟩ = ⟨(a ++ b).toArray⟩ := mk_append a b
set_option maxRecDepth 100000 in
theorem told_any (n : Nat) : n < 18446744073709551616 → ∀ w, Calls Tryd.prog 30 #[.int .u64 n] w fun e w' => e = .returned (.string ⟨(Lib.decDigits n).toArray⟩) ∧ Below w.heap.size w w' := by
  induction n using Nat.strongRecOn with
  | ind n ih =>
    intro hn w
    by_cases h : n < 10
    · exact told_small n h w
    · rw [dd_more h]
      have hl : (Lib.decDigits (n / 10)).length ≤ 20 := dd_len (by omega) (by decide)
      have HI := hide2 (ih (n / 10) (by omega) (by omega))
      have hc := fun W b hh => cv_one W b (n % 10) (by omega) (48 + ((n % 10 : Nat) : Int)) rfl hh
      generalize Lib.decDigits (n / 10) = d at *
      have h1 : ¬ (n : Int) < 10 := by omega
      have e1 : (n : Int).tdiv 10 = ((n / 10 : Nat) : Int) := by rw [Int.tdiv_eq_ediv_of_nonneg (by omega)]; omega
      have e2 : (n : Int).tmod 10 = ((n % 10 : Nat) : Int) := by rw [Int.tmod_eq_emod_of_nonneg (by omega)]; omega
      have q1 : n % 10 < 10 := by omega
      have q2 : n / 10 < 1844674407370955162 := by omega
      clear ih
      generalize n / 10 = a at *
      generalize n % 10 = r at *
      generalize (n : Int) = N at *
      have wa : IntKind.u64.wrap (a : Int) = (a : Int) := by rw [IntKind.wrap_u64]; omega
      have wr : IntKind.u64.wrap (48 + (r : Int)) = 48 + (r : Int) := by rw [IntKind.wrap_u64]; omega
      have wb : IntKind.u8.wrap (48 + (r : Int)) = 48 + (r : Int) := by rw [IntKind.wrap_u8]; omega
      go_enter Tryd.func30, Tryd.ntmps30
      go_wp2
      go_region_with (go_at_call 30; refine (HI.out _).mono ?_; rintro e w1 ⟨rfl, hb⟩; try (have cc : w1.cell? ⟨w.heap.size, 0, none⟩ = some (.int .u8 (48 + (r : Int))) := cell_one (hb.cells (heap_alloc_new w _))))
      all_goals
        go_wp2
        go_ret
        refine ⟨?_, ?_⟩
        · rw [sadd, UInt8.ofNat_add]; rfl
        · first
          | exact ((below_drewN (Below.refl _ w) 1).trans hb).alloc (by have := hb.size; exact this) _
          | exact (below_drewN ((Below.refl _ w).alloc (Nat.le_refl _) _) 1).trans (hb.mono (by simp))
end Go.Proofs.YthfmepnlbaifcaaDoor
