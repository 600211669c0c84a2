/-
  Plain facts on decoding: a frame is read as its message, cut it is torn, what is read is a frame.
-/
import Derived.Test.YteeclghhoioapaaDoorDc
import Derived.Test.YteeclghhoioapaaDoorEnc
namespace Go.Proofs.YteeclghhoioapaaDoor
open Go.RowKit
set_option linter.unusedVariables false
set_option linter.unusedSimpArgs false
theorem kinds_of (m : Ms) (h : okM m = true) : m.kind = 1 ∨ m.kind = 2 ∨ m.kind = 3 ∨ m.kind = 4 ∨ m.kind = 5 := by
  by_cases k1 : m.kind = 1
  · exact .inl k1
  by_cases k2 : m.kind = 2
  · exact .inr (.inl k2)
  by_cases k3 : m.kind = 3
  · exact .inr (.inr (.inl k3))
  by_cases k4 : m.kind = 4
  · exact .inr (.inr (.inr (.inl k4)))
  by_cases k5 : m.kind = 5
  · exact .inr (.inr (.inr (.inr k5)))
  · unfold okM at h; rw [if_neg k1, if_neg k2, if_neg k3, if_neg k4, if_neg k5] at h; cases h
theorem says_plain (m : Ms) (h : okM m = true) : Says (payM m) (plainM m) := by
  obtain ⟨kind, name, ver, frm, non, err, text⟩ := m
  rcases kinds_of _ h with k | k | k | k | k <;> (simp only at k; subst k) <;> exact ⟨h, rfl, rfl⟩
theorem read_pay (m : Ms) (h : okM m = true) : readM (payM m) = some (plainM m) := says_read _ _ (says_plain m h)
theorem four_len (n : Int) : (four n).length = 4 := rfl
theorem four_back (n : Nat) (h : n < 4294967296) : val (four n) = n := by
  simp [val, four]; omega
theorem frame_take4 (P tail : List Int) : (frame P ++ tail).take 4 = four P.length := by simp [frame, four]
theorem lenM_frame (P tail : List Int) (h : P.length ≤ 131072) : lenM (frame P ++ tail) = P.length := by
  unfold lenM; rw [frame_take4, four_back _ (by omega)]; simp
theorem payB_frame (P tail : List Int) (h : P.length ≤ 131072) : payB (frame P ++ tail) = P := by
  unfold payB; rw [lenM_frame P tail h]; simp [frame, four]
theorem take_frame (P tail : List Int) : (frame P ++ tail).take (8 + P.length) = frame P := by
  rw [List.take_left' (frame_length P)]
theorem isFr_frame (P tail : List Int) (h : P.length ≤ 131072) : isFr (frame P ++ tail) = true := by
  unfold isFr; rw [payB_frame P tail h, lenM_frame P tail h, take_frame]; simp
theorem dec_frame (m : Ms) (tail : List Int) (h : okM m = true) : decM (frame (payM m) ++ tail) = (plainM m, 8 + ((payM m).length : Int), 0) := by
  have hl := (payM_len m h).2
  have hf := frame_length (payM m)
  have e := lenM_frame (payM m) tail (by omega)
  unfold decM
  rw [if_neg (by rw [List.length_append]; omega), e, if_neg (by omega), if_neg (by rw [List.length_append]; omega), isFr_frame _ _ (by omega), if_pos rfl, payB_frame _ _ (by omega), read_pay m h]
theorem dec_cut (P : List Int) (k : Nat) (h : P.length ≤ 131072) (hk : k < 8 + P.length) : decM ((frame P).take k) = (zeroM, 0, 10) := by
  have hf := frame_length P
  unfold decM
  by_cases h4 : k < 4
  · rw [if_pos (by rw [List.length_take]; omega)]
  · have e : lenM ((frame P).take k) = P.length := by
      rw [lenM_take _ _ (by omega)]
      have := lenM_frame P [] h
      rwa [List.append_nil] at this
    rw [if_neg (by rw [List.length_take]; omega), e, if_neg (by omega), if_pos (by rw [List.length_take]; omega)]
theorem dec_err (zs : List Int) : (decM zs).2.2 = 0 ∨ (decM zs = (zeroM, 0, 10)) ∨ decM zs = (zeroM, 0, 190) := by
  unfold decM
  split
  · exact .inr (.inl rfl)
  split
  · exact .inr (.inr rfl)
  split
  · exact .inr (.inl rfl)
  split
  · split
    · exact .inl rfl
    · exact .inr (.inr rfl)
  · exact .inr (.inr rfl)
/-- What was read is a frame of what was told. -/
theorem dec_back (zs : List Int) (h : (decM zs).2.2 = 0) : 8 + lenM zs ≤ zs.length ∧ lenM zs ≤ 131072 ∧ okM (decM zs).1 = true ∧ plainM (decM zs).1 = (decM zs).1 ∧ payM (decM zs).1 = payB zs ∧ frame (payM (decM zs).1) = zs.take (8 + lenM zs) ∧ (decM zs).2.1 = 8 + (lenM zs : Int) := by
  unfold decM at h ⊢
  split at h
  · cases h
  rename_i h1
  split at h
  · cases h
  rename_i h2
  split at h
  · cases h
  rename_i h3
  split at h
  · rename_i h4
    rw [if_neg h1, if_neg h2, if_neg h3, if_pos h4]
    split at h
    · rename_i m hm
      obtain ⟨s1, s2, s3⟩ := readM_says _ _ hm
      refine ⟨by omega, by omega, s1, s3, s2, ?_, rfl⟩
      show frame (payM m) = _
      rw [s2]
      simpa [isFr] using h4
    · cases h
  · cases h
end Go.Proofs.YteeclghhoioapaaDoor
