/-
  The document's own: paths and methods asked; what a text ends and begins with.
-/
import Derived.Test.YtcihhcolgfaaiaaKPc
namespace Go.Proofs.Ytcihhcolgfaaiaa.Kk
open Go.RowKit
set_option linter.unusedVariables false
set_option linter.unusedSimpArgs false
set_option maxRecDepth 100000
theorem extract_drop (l : List UInt8) (k : Nat) : (ByteArray.mk l.toArray).extract k l.length = ⟨(l.drop k).toArray⟩ := by
  apply ByteArray.ext
  simp [ByteArray.data_extract]
  exact List.take_of_length_le (by simp)
theorem extract_take (l : List UInt8) (k : Nat) : (ByteArray.mk l.toArray).extract 0 k = ⟨(l.take k).toArray⟩ := by
  apply ByteArray.ext
  simp [ByteArray.data_extract]
theorem toList_mk (l : List UInt8) : (ByteArray.mk l.toArray).toList = l := by
  rw [ByteArray.toList_eq]
theorem suf_iff (l t : List UInt8) : Lib.hasSuffix l t = true ↔ t <:+ l := by simp [Lib.hasSuffix]
theorem pre_iff (l t : List UInt8) : Lib.hasPrefix l t = true ↔ t <+: l := by simp [Lib.hasPrefix]
theorem suf_eq (l t : List UInt8) : (l.drop (l.length - t.length) == t) = Lib.hasSuffix l t := by
  rw [Bool.eq_iff_iff, suf_iff, beq_iff_eq]
  rw [List.suffix_iff_eq_drop]
  exact eq_comm
theorem pre_eq (l t : List UInt8) : (l.take t.length == t) = Lib.hasPrefix l t := by
  rw [Bool.eq_iff_iff, pre_iff, beq_iff_eq]
  rw [List.prefix_iff_eq_take]
  exact eq_comm
theorem ends_any (l t : List UInt8) (w : World) (hs : l.length ≤ 2 ^ 62) (ht : t.length ≤ 2 ^ 62) : Calls Try.prog 19 #[.string ⟨l.toArray⟩, .string ⟨t.toArray⟩] w fun e w' => e = .returned (.bool (Lib.hasSuffix l t)) ∧ w' = w := by
  by_cases h : t.length ≤ l.length
  · have h1 : (t.length : Int) ≤ l.length := by omega
    go_enter Try.func19, Try.ntmps19
    go_wp2
    go_ret
    exact ⟨ret_bool (by rw [extract_drop, toList_mk, suf_eq]), rfl⟩
  · have h1 : ¬ (t.length : Int) ≤ l.length := by omega
    have HE : Hid (Lib.hasSuffix l t = false) := by
      show _ = _
      rw [← Bool.not_eq_true, suf_iff]
      exact fun hh => h hh.length_le
    go_enter Try.func19, Try.ntmps19
    go_wp2
    go_ret
    exact ⟨ret_bool HE.out.symm, rfl⟩
/-- what stands ahead of a star at the end -/
def starT (l : List UInt8) : List UInt8 := Lib.trimSuffix l [42]
def starB (l : List UInt8) : Bool := Lib.hasSuffix l [42]
theorem starT_no {l : List UInt8} (h : starB l = false) : starT l = l := by
  unfold starB at h
  rw [starT, Lib.trimSuffix, h]; rfl
theorem starT_yes {l : List UInt8} (h : starB l = true) : starT l = l.take (l.length - 1) := by
  unfold starB at h
  rw [starT, Lib.trimSuffix, h]; rfl
theorem starB_pos {l : List UInt8} (h : starB l = true) : 1 ≤ l.length := by
  rw [starB, suf_iff] at h
  exact h.length_le
end Go.Proofs.Ytcihhcolgfaaiaa.Kk
