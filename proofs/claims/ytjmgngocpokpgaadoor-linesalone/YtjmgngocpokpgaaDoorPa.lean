/-
  Small functions of package lines: blanks passed, what says nothing, items.
-/
import Derived.Test.YtjmgngocpokpgaaDoorSt
import Derived.Test.YtjmgngocpokpgaaDoorShf
import Derived.Deep.QuietTactic
import Derived.BigQuiet
namespace Go.Proofs.YtjmgngocpokpgaaDoor
open Go.RowKit
set_option linter.unusedVariables false
set_option linter.unusedSimpArgs false
theorem past_any (s : ByteArray) (w : World) :
    Calls Tryd.prog 58 #[.string s] w fun e w' => e = .returned (.string ⟨(Lib.trimLeftB s.data.toList 32).toArray⟩) ∧ w' = w := by
  go_enter Tryd.func58, Tryd.ntmps58
  go_wp2_with (go_at_call 77; refine (Tryd.strings_TrimLeft_one _ _ (by decide) _).mono ?_; rintro e w' ⟨rfl, rfl⟩)
  go_ret
  exact ⟨rfl, rfl⟩
def hd0 (c : UInt8) : Int := (c.toNat : Int)
def nulF (r : List UInt8) : Bool := match Lib.trimLeftB r 32 with
  | [] => true
  | c :: p => decide ((c.toNat : Int) = 35 ∧ p.length + 1 < r.length)
theorem past_at (s : ByteArray) (w : World) (p : List UInt8) (h : Lib.trimLeftB s.data.toList 32 = p) :
    Calls Tryd.prog 58 #[.string s] w fun e w' => e = .returned (.string ⟨p.toArray⟩) ∧ w' = w := h ▸ past_any s w
theorem past_len (r : List UInt8) : (Lib.trimLeftB r 32).length ≤ r.length := (List.dropWhile_sublist _).length_le
theorem size_list (s : ByteArray) : s.size = s.data.toList.length := by cases s; rfl
theorem saysNothing_any (l : List UInt8) (w : World) (hs : l.length ≤ 2 ^ 62) :
    Calls Tryd.prog 48 #[.string ⟨l.toArray⟩] w fun e w' => e = .returned (.bool (nulF l)) ∧ w' = w := by
  have hpl := past_len l
  rcases hp : Lib.trimLeftB l 32 with _ | ⟨c, p⟩
  · have hN : nulF l = true := by rw [nulF, hp]
    rw [hN]
    go_enter Tryd.func48, Tryd.ntmps48
    go_wp2_with (go_at_call 58; refine (past_at _ _ _ hp).mono ?_; rintro e w' ⟨rfl, rfl⟩)
    go_ret
    exact ⟨rfl, rfl⟩
  · have hN : Hid (nulF l = decide ((c.toNat : Int) = 35 ∧ p.length + 1 < l.length)) := by show _ = _; rw [nulF, hp]
    have lo := u8_lo c
    have hi := u8_hi c
    rw [hp] at hpl
    have hpl' : p.length + 1 ≤ l.length := hpl
    by_cases hc : (c.toNat : Int) = 35 <;> by_cases hl : p.length + 1 < l.length
    all_goals
      go_enter Tryd.func48, Tryd.ntmps48
      go_wp2_with (go_at_call 58; refine (past_at _ _ _ hp).mono ?_; rintro e w' ⟨rfl, rfl⟩)
      go_ret
      refine ⟨ret_bool ?_, rfl⟩
      rw [hN.out]
      simp [hc]
      try omega
def itmF (l : List UInt8) : Bool := (l == [45]) || Lib.hasPrefix l [45, 32]
theorem toList_mk (l : List UInt8) : (ByteArray.mk l.toArray).toList = l := by
  rw [ByteArray.toList_eq]
theorem isItem_any (l : List UInt8) (w : World) (hs : l.length ≤ 2 ^ 62) :
    Calls Tryd.prog 42 #[.string ⟨l.toArray⟩] w fun e w' => e = .returned (.bool (itmF l)) ∧ w' = w := by
  go_enter Tryd.func42, Tryd.ntmps42
  go_wp2_with (go_at_call 59; refine (Tryd.strings_HasPrefix _ _ _).mono ?_; rintro e w' ⟨rfl, rfl⟩)
  all_goals go_ret
  all_goals refine ⟨ret_bool ?_, rfl⟩
  · have : (l == [45]) = true := by simpa using (by assumption : l = [45])
    rw [itmF, this]; rfl
  · rfl
theorem extract_drop (l : List UInt8) (k : Nat) : (ByteArray.mk l.toArray).extract k l.length = ⟨(l.drop k).toArray⟩ := by
  apply ByteArray.ext
  simp [ByteArray.data_extract]
  exact List.take_of_length_le (by simp)
theorem extract_take (l : List UInt8) (k : Nat) : (ByteArray.mk l.toArray).extract 0 k = ⟨(l.take k).toArray⟩ := by
  apply ByteArray.ext
  simp [ByteArray.data_extract]
theorem rest_any (l : List UInt8) (at' : Nat) (b : Nat) (w : World) (hs : l.length ≤ 2 ^ 62) (ha : at' ≤ l.length)
    (h0 : w.cell? ⟨b, 0, none⟩ = some (.string ⟨l.toArray⟩)) (h2 : w.cell? ⟨b, 2, none⟩ = some (.int .i64 at')) :
    Calls Tryd.prog 43 #[.pointer (some ⟨b, 0, none⟩)] w fun e w' => e = .returned (.string ⟨(l.drop at').toArray⟩) ∧ ∃ q, w' = w.drewN q := by
  have a0 : (0 : Int) ≤ at' := by omega
  have a1 : (at' : Int) ≤ l.length := by omega
  go_enter Tryd.func43, Tryd.ntmps43
  go_wp2
  go_quiet (fail)
  go_wp2
  go_ret
  exact ⟨by rw [extract_drop]; rfl, nq, rfl⟩
end Go.Proofs.YtjmgngocpokpgaaDoor
