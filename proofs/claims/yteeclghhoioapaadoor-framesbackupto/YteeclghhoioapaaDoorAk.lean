/-
  The statements' own plain; a message is the same as itself.
-/
import Derived.Test.YteeclghhoioapaaDoorDe
import Derived.Deep.QuietTactic
import Derived.BigQuiet
namespace Go.Proofs.YteeclghhoioapaaDoor
open Go.RowKit
set_option linter.unusedVariables false
set_option linter.unusedSimpArgs false
set_option maxRecDepth 100000
set_option maxHeartbeats 2000000 in
theorem eq29 (m : Ms) (w : World) : (Op.equalIn 10000 29 (mv m) (mv m)).run Tryd.prog w = .ok true w := by
  obtain ⟨kind, name, ver, frm, non, err, text⟩ := m
  simp only [mv]
  have u3 := Tryd.underlying3
  have u9 := Tryd.underlying9
  have u25 := Tryd.underlying25
  rw [show (10000 : Nat) = 9999 + 1 from rfl, Op.equalIn]
  simp only [Sem.run_bind, run_underlying Tryd.underlying29, Result.andThen_ok]
  go_simp
theorem plain_any (m : Ms) (w : World) : Calls Tryd.prog 24 #[mv m] w fun e w' => e = .returned (mv (plainM m)) ∧ Below w.heap.size w w' := by
  obtain ⟨kind, name, ver, frm, non, err, text⟩ := m
  have hb := hideL (fun o o' => ((Below.refl w.heap.size w).alloc (Nat.le_refl _) o).alloc (by simp) o')
  by_cases k1 : kind = 1
  · subst k1
    have hP : plainM { kind := 1, name := name, ver := ver, frm := frm, non := non, err := err, text := text } = { kind := 1, name := name, ver := ver } := rfl
    rw [hP]
    clear hP
    simp only [mv]
    go_enter Tryd.func24, Tryd.ntmps24
    go_wp2
    exact bodyPost_ret (v := .agg #[.int .i64 1, .string name, .int .i64 ver, .int .i64 0, .int .i64 0, .int .i64 0, .string ByteArray.empty]) (by simp [results, Tryd.results24, go_sem] <;> rfl) rfl ⟨rfl, hb.out _ _⟩
  by_cases k2 : kind = 2
  · subst k2
    have hP : plainM { kind := 2, name := name, ver := ver, frm := frm, non := non, err := err, text := text } = { kind := 2, ver := ver, frm := frm, non := non, text := text } := rfl
    rw [hP]
    clear hP
    simp only [mv]
    go_enter Tryd.func24, Tryd.ntmps24
    go_wp2
    exact bodyPost_ret (v := .agg #[.int .i64 2, .string ByteArray.empty, .int .i64 ver, .int .i64 frm, .int .i64 non, .int .i64 0, .string text]) (by simp [results, Tryd.results24, go_sem] <;> rfl) rfl ⟨rfl, hb.out _ _⟩
  by_cases k3 : kind = 3
  · subst k3
    have hP : plainM { kind := 3, name := name, ver := ver, frm := frm, non := non, err := err, text := text } = { kind := 3, ver := ver, non := non } := rfl
    rw [hP]
    clear hP
    simp only [mv]
    go_enter Tryd.func24, Tryd.ntmps24
    go_wp2
    exact bodyPost_ret (v := .agg #[.int .i64 3, .string ByteArray.empty, .int .i64 ver, .int .i64 0, .int .i64 non, .int .i64 0, .string ByteArray.empty]) (by simp [results, Tryd.results24, go_sem] <;> rfl) rfl ⟨rfl, hb.out _ _⟩
  by_cases k4 : kind = 4
  · subst k4
    have hP : plainM { kind := 4, name := name, ver := ver, frm := frm, non := non, err := err, text := text } = { kind := 4, ver := ver, non := non, err := err } := rfl
    rw [hP]
    clear hP
    simp only [mv]
    go_enter Tryd.func24, Tryd.ntmps24
    go_wp2
    exact bodyPost_ret (v := .agg #[.int .i64 4, .string ByteArray.empty, .int .i64 ver, .int .i64 0, .int .i64 non, .int .i64 err, .string ByteArray.empty]) (by simp [results, Tryd.results24, go_sem] <;> rfl) rfl ⟨rfl, hb.out _ _⟩
  · have hP : plainM { kind := kind, name := name, ver := ver, frm := frm, non := non, err := err, text := text } = { kind := kind, non := non } := by
      unfold plainM; rw [if_neg k1, if_neg k2, if_neg k3, if_neg k4]
    rw [hP]
    clear hP
    simp only [mv]
    go_enter Tryd.func24, Tryd.ntmps24
    go_wp2
    exact bodyPost_ret (v := .agg #[.int .i64 kind, .string ByteArray.empty, .int .i64 0, .int .i64 0, .int .i64 non, .int .i64 0, .string ByteArray.empty]) (by simp [results, Tryd.results24, go_sem] <;> rfl) rfl ⟨rfl, hb.out _ _⟩
end Go.Proofs.YteeclghhoioapaaDoor
