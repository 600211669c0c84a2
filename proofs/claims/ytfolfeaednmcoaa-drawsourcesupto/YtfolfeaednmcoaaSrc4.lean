/- Copy of the document's source; those of none. -/
import Derived.Test.YtfolfeaednmcoaaSrc3
namespace Go.Proofs.Ytfolfeaednmcoaa
open Go.RowKit
set_option linter.unusedVariables false
set_option linter.unusedSimpArgs false
theorem push_nil (v : Value) (w : World) : Calls Try.prog 24 #[.pointer none, v] w fun e w' => e = .returned (.tuple #[]) ∧ w' = w := by
  go_enter Try.func24, Try.ntmps24
  go_wp2_with fail
  go_end0
  exact ⟨rfl, rfl⟩
theorem copy_nil (w : World) : Calls Try.prog 25 #[.pointer none] w fun e w' => e = .returned (.pointer none) ∧ w' = w := by
  go_enter Try.func25, Try.ntmps25
  go_wp2_with fail
  go_ret
  exact ⟨rfl, rfl⟩
theorem rcopy_nil (w : World) : Calls Try.prog 26 #[.pointer none] w fun e w' => e = .returned (.pointer none) ∧ w' = w := by
  go_enter Try.func26, Try.ntmps26
  go_wp2_with fail
  go_ret
  exact ⟨rfl, rfl⟩
theorem next_nil (w : World) : Calls Try.prog 27 #[.pointer none] w fun e w' => e = .returned (.int .u64 0) ∧ w' = w := by
  go_enter Try.func27, Try.ntmps27
  go_wp2_with fail
  go_ret
  exact ⟨rfl, rfl⟩
theorem rnext_nil (w : World) : Calls Try.prog 28 #[.pointer none] w fun e w' => e = .returned (.int .u64 0) ∧ w' = w := by
  go_enter Try.func28, Try.ntmps28
  go_wp2_with fail
  go_ret
  exact ⟨rfl, rfl⟩
theorem left_nil (w : World) : Calls Try.prog 29 #[.pointer none] w fun e w' => e = .returned (.int .i64 0) ∧ w' = w := by
  go_enter Try.func29, Try.ntmps29
  go_wp2_with fail
  go_ret
  exact ⟨rfl, rfl⟩
theorem left_ds (b base : Nat) (rest : List Int) (st : Int) (bs : List Nat) (w : World) (hD : DS w base b rest st bs) (hr : rest.length ≤ 1048576) :
    Calls Try.prog 29 #[.pointer (some ⟨b, 0, none⟩)] w fun e w' => e = .returned (.int .i64 (rest.length : Nat)) ∧ ∃ q, w' = w.drewN q := by
  obtain ⟨a, n, c, t, ws, h1, h2, h3, h4, h5, h6, rfl⟩ := hD
  refine (left_any b a n c t st w h1 (by omega) (by omega)).mono fun e w' ⟨he, hq⟩ => ⟨?_, hq⟩
  rw [he, show (n : Int) - t = (rest.length : Nat) by omega]
/-- Next, whatever is there. -/
def popR (rest : List Int) : List Int := rest.drop 1
def popS (rest : List Int) (st : Int) : Int := if rest = [] then nextSt st else st
def popV (rest : List Int) (st : Int) : Int := if rest = [] then nextSt st else rest.getD 0 0
theorem next_ds (b base : Nat) (rest : List Int) (st : Int) (bs : List Nat) (w : World) (hD : DS w base b rest st bs) (hbase : base ≤ w.heap.size) (hr : rest.length ≤ 1048576) :
    Calls Try.prog 27 #[.pointer (some ⟨b, 0, none⟩)] w fun e w' => e = .returned (.int .u64 (popV rest st)) ∧ ∃ bs', DS w' base b (popR rest) (popS rest st) bs' ∧ Stp w w' bs bs' := by
  cases rest with
  | nil => exact (next_none b base st bs w hD).mono fun e w' ⟨he, h1, h2⟩ => ⟨he, bs, h1, h2⟩
  | cons x r => exact (next_some b base x r st bs w hD hbase (by simpa using hr)).mono fun e w' ⟨he, bs', h1, h2⟩ => ⟨he, bs', h1, h2⟩
theorem next_rs (b base : Nat) (rest : List Int) (st : Int) (bs : List Nat) (w : World) (hD : RS w base b rest st bs) (hbase : base ≤ w.heap.size) (hr : rest.length ≤ 1048576) :
    Calls Try.prog 28 #[.pointer (some ⟨b, 0, none⟩)] w fun e w' => e = .returned (.int .u64 (popV rest st)) ∧ ∃ bs', RS w' base b (popR rest) (popS rest st) bs' ∧ Stp w w' bs bs' := by
  cases rest with
  | nil => exact (rnext_none b base st bs w hD).mono fun e w' ⟨he, h1, h2⟩ => ⟨he, bs, h1, h2⟩
  | cons x r => exact (rnext_some b base x r st bs w hbase hD (by simpa using hr)).mono fun e w' ⟨he, bs', h1, h2⟩ => ⟨he, bs', h1, h2⟩
end Go.Proofs.Ytfolfeaednmcoaa
