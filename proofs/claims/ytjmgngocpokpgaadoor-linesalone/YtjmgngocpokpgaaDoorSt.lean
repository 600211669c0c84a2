/-
  stray: the error of a byte that no line may have.
-/
import Derived.Test.YtjmgngocpokpgaaDoorSm
namespace Go.Proofs.YtjmgngocpokpgaaDoor
open Go.RowKit
set_option linter.unusedVariables false
set_option linter.unusedSimpArgs false
theorem take_snoc (s : ByteArray) (k : Nat) (h : k < s.size) : s.data.toList.take (k + 1) = s.data.toList.take k ++ [s[k]] := by
  rw [List.take_succ_eq_append_getElem (by simpa using h)]; rfl
theorem strF_snoc (l : List UInt8) (c : UInt8) (h : ¬ strF l = 80) : strF (l ++ [c]) = if (c.toNat : Int) = 9 then 80 else if unsF c.toNat = true then 83 else strF l := by
  have hc : (c == 9) = decide ((c.toNat : Int) = 9) := by
    rw [Bool.eq_iff_iff]; simp [← UInt8.toNat_inj]; omega
  unfold strF at h ⊢
  simp only [List.any_append, List.any_cons, List.any_nil, Bool.or_false, hc]
  by_cases h1 : (l.any fun c => c == 9) = true
  · simp [h1] at h
  · have h1' : (l.any fun c => c == 9) = false := Bool.not_eq_true _ ▸ h1
    rw [h1']
    by_cases h2 : (c.toNat : Int) = 9 <;> by_cases h3 : unsF c.toNat = true <;> simp [h2, h3]
theorem strF_80 (l : List UInt8) (k : Nat) (h : strF (l.take k) = 80) : strF l = 80 := by
  unfold strF at h ⊢
  by_cases h1 : ((l.take k).any fun c => c == 9) = true
  · have : (l.any fun c => c == 9) = true := by
      rw [← List.take_append_drop k l, List.any_append, h1]; rfl
    rw [this]; rfl
  · rw [if_neg h1] at h; split at h <;> cases h
theorem u8_lo (c : UInt8) : (0 : Int) ≤ (c.toNat : Int) := by omega
theorem u8_hi (c : UInt8) : (c.toNat : Int) ≤ 255 := by have := c.toNat_lt; omega
set_option maxHeartbeats 1000000 in
theorem stray_any (s : ByteArray) (w : World) (hs : s.size ≤ maxLen) :
    Calls Tryd.prog 30 #[.string s] w fun e w' => e = .returned (.int .i64 (strF s.data.toList)) ∧ w' = w := by
  unfold maxLen at hs
  go_enter Tryd.func30, Tryd.ntmps30
  go_wp2
  go_loop [3, 8] (fun n i => ∃ k : Nat, k ≤ s.size ∧ i = .int .i64 k ∧ n = .int .i64 (strF (s.data.toList.take k)) ∧ ¬ strF (s.data.toList.take k) = 80) (fun _ i => s.size - (intOf i).toNat)
  case atStart => exact ⟨0, Nat.zero_le _, rfl, rfl, by simp [strF]⟩
  case round =>
    obtain ⟨k, hk, rfl, rfl, hne⟩ := hrel
    by_cases hlt : k < s.size
    · have hsn := strF_snoc (s.data.toList.take k) s[k] hne
      have hts := take_snoc s k hlt
      have HS : Hid (strF (s.data.toList.take (k + 1)) = if (s[k].toNat : Int) = 9 then 80 else if unsF s[k].toNat = true then 83 else strF (s.data.toList.take k)) := by rw [hts]; exact hsn
      have h80 : Hid (strF (s.data.toList.take (k + 1)) = 80 → strF s.data.toList = 80) := strF_80 _ _
      have lo := u8_lo s[k]
      have hi := u8_hi s[k]
      have HN : Hid (¬ strF (s.data.toList.take k) = 80) := hne
      clear hsn hts hne
      obtain ⟨v, hv⟩ : ∃ v, strF (s.data.toList.take k) = v := ⟨_, rfl⟩
      rw [hv] at HS HN ⊢
      clear hv
      by_cases h9 : (s[k].toNat : Int) = 9
      · go_wp2
        go_ret
        exact ⟨ret_int (h80.out (by rw [HS.out, if_pos h9])).symm, rfl⟩
      · by_cases hu : unsF s[k].toNat = true
        all_goals
          go_wp2_with (go_at_call 32; refine (unseen_any _ lo hi _).mono ?_; rintro e w' ⟨rfl, rfl⟩)
          go_round
          case rel => exact ⟨k + 1, by omega, by go_num, by rw [HS.out, if_neg h9]; first | rw [if_pos hu] | rw [if_neg hu], by rw [HS.out, if_neg h9]; first | (rw [if_pos hu]; decide) | (rw [if_neg hu]; exact HN.out)⟩
          case measure => simp [intOf]; omega
    · go_wp2
      go_ret
      exact ⟨ret_int (by rw [List.take_of_length_le (by simp; omega)]), rfl⟩
end Go.Proofs.YtjmgngocpokpgaaDoor
