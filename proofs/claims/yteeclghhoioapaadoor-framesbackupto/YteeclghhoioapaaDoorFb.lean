/-
  Messages, their payloads, and how the document reads one.
-/
import Derived.Test.YteeclghhoioapaaDoorFa
namespace Go.Proofs.YteeclghhoioapaaDoor
set_option linter.unusedVariables false
/-- A message. -/
structure Ms where
  kind : Int
  name : ByteArray := ByteArray.empty
  ver : Int := 0
  frm : Int := 0
  non : Int := 0
  err : Int := 0
  text : ByteArray := ByteArray.empty
/-- Is it a number? -/
def num (n : Int) : Bool := decide (0 ≤ n ∧ n ≤ 4611686018427387904)
/-- May the message be? -/
def okM (m : Ms) : Bool :=
  if m.kind = 1 then decide (1 ≤ m.name.size ∧ m.name.size ≤ 64) && num m.ver
  else if m.kind = 2 then num m.non && num m.frm && num m.ver && decide (m.text.size ≤ 65536)
  else if m.kind = 3 then num m.non && num m.ver
  else if m.kind = 4 then num m.non && num m.ver && decide (1 ≤ m.err ∧ m.err ≤ 65535)
  else if m.kind = 5 then num m.non
  else false
/-- Its payload. -/
def payM (m : Ms) : List Int :=
  if m.kind = 1 then 1 :: (digs 1 m.name.size ++ (sb m.name ++ digs 8 m.ver))
  else if m.kind = 2 then 2 :: (digs 8 m.non ++ (digs 8 m.frm ++ (digs 8 m.ver ++ (digs 4 m.text.size ++ sb m.text))))
  else if m.kind = 3 then 3 :: (digs 8 m.non ++ digs 8 m.ver)
  else if m.kind = 4 then 4 :: (digs 8 m.non ++ (digs 8 m.ver ++ digs 2 m.err))
  else 5 :: digs 8 m.non
/-- What its kind names. -/
def plainM (m : Ms) : Ms :=
  if m.kind = 1 then { kind := 1, name := m.name, ver := m.ver }
  else if m.kind = 2 then { kind := 2, non := m.non, frm := m.frm, ver := m.ver, text := m.text }
  else if m.kind = 3 then { kind := 3, non := m.non, ver := m.ver }
  else if m.kind = 4 then { kind := 4, non := m.non, ver := m.ver, err := m.err }
  else { kind := m.kind, non := m.non }
/-- What tells that these bytes are that message. -/
def Says (p : List Int) (m : Ms) : Prop := okM m = true ∧ payM m = p ∧ plainM m = m

/-! The document's reading. -/
def cl (n : Int) : Int := if 4611686018427387904 < n then 4611686018427387905 else n
def numb (p : List Int) (at' size : Nat) : Int := cl (val ((p.drop at').take size))
def candM (p : List Int) : Ms :=
  if p.getD 0 0 = 1 then { kind := 1, name := bstr ((p.drop 2).take (numb p 1 1).toNat), ver := numb p (2 + (numb p 1 1).toNat) 8 }
  else if p.getD 0 0 = 2 then { kind := 2, non := numb p 1 8, frm := numb p 9 8, ver := numb p 17 8, text := bstr ((p.drop 29).take 1048576) }
  else if p.getD 0 0 = 3 then { kind := 3, non := numb p 1 8, ver := numb p 9 8 }
  else if p.getD 0 0 = 4 then { kind := 4, non := numb p 1 8, ver := numb p 9 8, err := numb p 17 2 }
  else if p.getD 0 0 = 5 then { kind := 5, non := numb p 1 8 }
  else { kind := p.getD 0 0 }
def readM (p : List Int) : Option Ms := if p ≠ [] ∧ okM (candM p) = true ∧ payM (candM p) = p then some (candM p) else none

theorem hd_ne (k : Int) (r : List Int) (j : Int) (h : k ≠ j) : ¬ ([k] ++ r).getD 0 0 = j := h
theorem cl_num (n : Int) (h : num n = true) : cl n = n := by
  unfold num at h; simp at h; unfold cl; rw [if_neg (by omega)]
theorem cand_plain (p : List Int) : okM (candM p) = true → plainM (candM p) = candM p := by
  unfold candM
  split
  · intro _; rfl
  split
  · intro _; rfl
  split
  · intro _; rfl
  split
  · intro _; rfl
  split
  · intro _; rfl
  · rename_i h1 h2 h3 h4 h5
    intro h
    unfold okM at h
    rw [if_neg h1, if_neg h2, if_neg h3, if_neg h4, if_neg h5] at h
    cases h
theorem readM_says (p : List Int) (m : Ms) (h : readM p = some m) : Says p m := by
  unfold readM at h
  split at h
  · rename_i g; cases h; exact ⟨g.2.1, g.2.2, cand_plain p g.2.1⟩
  · cases h
theorem num_bd (n : Int) (h : num n = true) : 0 ≤ n ∧ n ≤ 4611686018427387904 := by simpa [num] using h
theorem numb_at (a d b : List Int) (n : Int) (h : num n = true) (w k : Nat) (hk : k = a.length) (hd : d = digs w n) (hn : n < 256 ^ w) : numb (a ++ (d ++ b)) k w = n := by
  subst hk hd
  have hl := digs_length w n
  unfold numb
  rw [List.drop_left, List.take_append_of_le_length (by omega), List.take_of_length_le (by omega), digs_back w n (num_bd n h).1 hn, cl_num n h]
theorem pow8 : (256 : Int) ^ 8 = 18446744073709551616 := by decide
theorem num8 (n : Int) (h : num n = true) : n < 256 ^ 8 := by have := num_bd n h; rw [pow8]; omega
theorem says_read (p : List Int) (m : Ms) (h : Says p m) : readM p = some m := by
  obtain ⟨ho, rfl, hp⟩ := h
  have key : candM (payM m) = m := by
    unfold okM at ho
    split at ho
    · rename_i hk
      simp only [Bool.and_eq_true, decide_eq_true_eq] at ho
      obtain ⟨⟨n1, n2⟩, hv⟩ := ho
      have e : payM m = [1] ++ (digs 1 m.name.size ++ (sb m.name ++ digs 8 m.ver)) := by unfold payM; rw [if_pos hk]; rfl
      have e2 : payM m = ([1] ++ (digs 1 m.name.size ++ sb m.name)) ++ (digs 8 m.ver ++ []) := by rw [e]; simp
      have q1 : numb (payM m) 1 1 = m.name.size := by rw [e]; exact numb_at [1] _ _ _ (by simp [num]; omega) 1 1 rfl rfl (by omega)
      have q2 : numb (payM m) (2 + (m.name.size : Int).toNat) 8 = m.ver := by
        rw [e2]; exact numb_at _ _ _ _ hv 8 _ (by simp [digs_length, sb_length]; omega) rfl (num8 _ hv)
      have q3 : ((payM m).drop 2).take (m.name.size : Int).toNat = sb m.name := by
        rw [e, show [1] ++ (digs 1 (m.name.size : Int) ++ (sb m.name ++ digs 8 m.ver)) = ([1] ++ digs 1 (m.name.size : Int)) ++ (sb m.name ++ digs 8 m.ver) by simp]
        rw [List.drop_left' (by simp [digs_length]), List.take_left' (by rw [sb_length]; omega)]
      unfold candM
      rw [if_pos (by rw [e]; rfl), q1, q2, q3, bstr_sb]
      unfold plainM at hp; rw [if_pos hk] at hp; exact hp
    split at ho
    · rename_i hk1 hk
      simp only [Bool.and_eq_true, decide_eq_true_eq] at ho
      obtain ⟨⟨⟨hn, hf⟩, hv⟩, ht⟩ := ho
      have e : payM m = [2] ++ (digs 8 m.non ++ (digs 8 m.frm ++ (digs 8 m.ver ++ (digs 4 m.text.size ++ sb m.text)))) := by unfold payM; rw [if_neg hk1, if_pos hk]; rfl
      have e2 : payM m = ([2] ++ digs 8 m.non) ++ (digs 8 m.frm ++ (digs 8 m.ver ++ (digs 4 m.text.size ++ sb m.text))) := by rw [e]; simp
      have e3 : payM m = ([2] ++ (digs 8 m.non ++ digs 8 m.frm)) ++ (digs 8 m.ver ++ (digs 4 m.text.size ++ sb m.text)) := by rw [e]; simp
      have e4 : payM m = ([2] ++ (digs 8 m.non ++ (digs 8 m.frm ++ (digs 8 m.ver ++ digs 4 m.text.size)))) ++ sb m.text := by rw [e]; simp
      have q1 : numb (payM m) 1 8 = m.non := by rw [e]; exact numb_at [2] _ _ _ hn 8 1 rfl rfl (num8 _ hn)
      have q2 : numb (payM m) 9 8 = m.frm := by rw [e2]; exact numb_at _ _ _ _ hf 8 9 (by simp [digs_length]) rfl (num8 _ hf)
      have q3 : numb (payM m) 17 8 = m.ver := by rw [e3]; exact numb_at _ _ _ _ hv 8 17 (by simp [digs_length]) rfl (num8 _ hv)
      have q4 : ((payM m).drop 29).take 1048576 = sb m.text := by
        rw [e4, List.drop_left' (by simp [digs_length]), List.take_of_length_le (by rw [sb_length]; omega)]
      unfold candM
      rw [if_neg (by rw [e]; exact hd_ne _ _ _ (by decide)), if_pos (by rw [e]; rfl), q1, q2, q3, q4, bstr_sb]
      unfold plainM at hp; rw [if_neg hk1, if_pos hk] at hp; exact hp
    split at ho
    · rename_i hk1 hk2 hk
      simp only [Bool.and_eq_true] at ho
      obtain ⟨hn, hv⟩ := ho
      have e : payM m = [3] ++ (digs 8 m.non ++ digs 8 m.ver) := by unfold payM; rw [if_neg hk1, if_neg hk2, if_pos hk]; rfl
      have e2 : payM m = ([3] ++ digs 8 m.non) ++ (digs 8 m.ver ++ []) := by rw [e]; simp
      have q1 : numb (payM m) 1 8 = m.non := by rw [e]; exact numb_at [3] _ _ _ hn 8 1 rfl rfl (num8 _ hn)
      have q2 : numb (payM m) 9 8 = m.ver := by rw [e2]; exact numb_at _ _ _ _ hv 8 9 (by simp [digs_length]) rfl (num8 _ hv)
      unfold candM
      rw [if_neg (by rw [e]; exact hd_ne _ _ _ (by decide)), if_neg (by rw [e]; exact hd_ne _ _ _ (by decide)), if_pos (by rw [e]; rfl), q1, q2]
      unfold plainM at hp; rw [if_neg hk1, if_neg hk2, if_pos hk] at hp; exact hp
    split at ho
    · rename_i hk1 hk2 hk3 hk
      simp only [Bool.and_eq_true, decide_eq_true_eq] at ho
      obtain ⟨⟨hn, hv⟩, he⟩ := ho
      have e : payM m = [4] ++ (digs 8 m.non ++ (digs 8 m.ver ++ digs 2 m.err)) := by unfold payM; rw [if_neg hk1, if_neg hk2, if_neg hk3, if_pos hk]; rfl
      have e2 : payM m = ([4] ++ digs 8 m.non) ++ (digs 8 m.ver ++ digs 2 m.err) := by rw [e]; simp
      have e3 : payM m = ([4] ++ (digs 8 m.non ++ digs 8 m.ver)) ++ (digs 2 m.err ++ []) := by rw [e]; simp
      have q1 : numb (payM m) 1 8 = m.non := by rw [e]; exact numb_at [4] _ _ _ hn 8 1 rfl rfl (num8 _ hn)
      have q2 : numb (payM m) 9 8 = m.ver := by rw [e2]; exact numb_at _ _ _ _ hv 8 9 (by simp [digs_length]) rfl (num8 _ hv)
      have q3 : numb (payM m) 17 2 = m.err := by rw [e3]; exact numb_at _ _ _ _ (by simp [num]; omega) 2 17 (by simp [digs_length]) rfl (by omega)
      unfold candM
      rw [if_neg (by rw [e]; exact hd_ne _ _ _ (by decide)), if_neg (by rw [e]; exact hd_ne _ _ _ (by decide)), if_neg (by rw [e]; exact hd_ne _ _ _ (by decide)), if_pos (by rw [e]; rfl), q1, q2, q3]
      unfold plainM at hp; rw [if_neg hk1, if_neg hk2, if_neg hk3, if_pos hk] at hp; exact hp
    split at ho
    · rename_i hk1 hk2 hk3 hk4 hk
      have e : payM m = [5] ++ (digs 8 m.non ++ []) := by unfold payM; rw [if_neg hk1, if_neg hk2, if_neg hk3, if_neg hk4]; simp
      have q1 : numb (payM m) 1 8 = m.non := by rw [e]; exact numb_at [5] _ _ _ ho 8 1 rfl rfl (num8 _ ho)
      unfold candM
      rw [if_neg (by rw [e]; exact hd_ne _ _ _ (by decide)), if_neg (by rw [e]; exact hd_ne _ _ _ (by decide)), if_neg (by rw [e]; exact hd_ne _ _ _ (by decide)), if_neg (by rw [e]; exact hd_ne _ _ _ (by decide)), if_pos (by rw [e]; rfl), q1]
      unfold plainM at hp; rw [if_neg hk1, if_neg hk2, if_neg hk3, if_neg hk4, hk] at hp; exact hp
    · cases ho
  have hne : payM m ≠ [] := by
    unfold payM
    repeat (first | exact List.cons_ne_nil _ _ | split)
  unfold readM
  rw [key, if_pos ⟨hne, ho, rfl⟩]
end Go.Proofs.YteeclghhoioapaaDoor
