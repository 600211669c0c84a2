/-
  Names and keys.
-/
import Derived.Test.YtjmgngocpokpgaaDoorUnr
namespace Go.Proofs.YtjmgngocpokpgaaDoor
open Go.RowKit
set_option linter.unusedVariables false
set_option linter.unusedSimpArgs false
def namN : Nat → List UInt8 → Nat
  | 0, _ => 0
  | _ + 1, [] => 0
  | n + 1, c :: r => if namF c.toNat = true then namN n r + 1 else 0
theorem namN_le : ∀ (n : Nat) (l : List UInt8), namN n l ≤ l.length ∧ namN n l ≤ n
  | 0, l => by simp [namN]
  | n + 1, [] => by simp [namN]
  | n + 1, c :: r => by
    have := namN_le n r
    rw [namN]
    split <;> simp <;> omega
theorem drop_cons {l : List UInt8} {k : Nat} {c : UInt8} (h : l[k]? = some c) : l.drop k = c :: l.drop (k + 1) := by
  obtain ⟨hk, rfl⟩ := List.getElem?_eq_some_iff.1 h
  exact List.drop_eq_getElem_cons hk
set_option maxHeartbeats 2000000 in
theorem nameSize_any (l : List UInt8) (w : World) (hs : l.length ≤ 2 ^ 40) :
    Calls Tryd.prog 60 #[.string ⟨l.toArray⟩] w fun e w' => e = .returned (.int .i64 (namN 64 l)) ∧ w' = w := by
  go_enter Tryd.func60, Tryd.ntmps60
  go_wp2
  go_loop [3] (fun t => ∃ k : Nat, t = .int .i64 k ∧ k ≤ 64 ∧ k ≤ l.length ∧ namN 64 l = k + namN (64 - k) (l.drop k)) (fun t => 64 - (intOf t).toNat)
  case atStart => exact ⟨0, rfl, by omega, by omega, by simp⟩
  case round =>
    obtain ⟨k, rfl, hk, hkl, he⟩ := hrel
    have HE := hide2 he
    clear he
    have k0 : (0 : Int) ≤ k := by omega
    by_cases h64 : k < 64
    · rcases ik : l[k]? with _ | c
      · have hl := len_none ik
        have hle : (l.length : Int) = k := by omega
        have HZ : Hid (namN (64 - k) (l.drop k) = 0) := by
          show _ = _
          have := (namN_le (64 - k) (l.drop k)).1
          rw [List.length_drop] at this; omega
        have hmin : min (l.length : Int) 64 = k := by omega
        go_wp2
        go_ret
        exact ⟨ret_int (by rw [HE.out, HZ.out]; simp), rfl⟩
      · have ek := ix_eq ik
        have hkl' := ix_lt ik
        have hl' : (k : Int) < l.length := by omega
        have hmn : (k : Int) < min (l.length : Int) 64 := by omega
        have lo := u8_lo c
        have hi := u8_hi c
        have hst : namN (64 - k) (l.drop k) = if namF c.toNat = true then namN (64 - (k + 1)) (l.drop (k + 1)) + 1 else 0 := by
          obtain ⟨j, hj⟩ : ∃ j, 64 - k = j + 1 := ⟨63 - k, by omega⟩
          have hj' : 64 - (k + 1) = j := by omega
          rw [drop_cons ik, hj, hj', namN]
        have HS := hide2 hst
        clear hst
        by_cases hc : namF c.toNat = true
        · rw [if_pos hc] at HS
          go_wp2_with (go_at_call 79; refine (inName_any _ lo hi _).mono ?_; rintro e w' ⟨rfl, rfl⟩)
          go_round
          case rel => exact ⟨k + 1, by go_num, by omega, by omega, by rw [HE.out, HS.out]; omega⟩
          case measure => simp [intOf]; omega
        · rw [if_neg hc] at HS
          have hc' : namF c.toNat = false := by simpa using hc
          go_wp2_with (go_at_call 79; refine (inName_any _ lo hi _).mono ?_; rintro e w' ⟨rfl, rfl⟩)
          go_ret
          exact ⟨ret_int (by rw [HE.out, HS.out]; simp), rfl⟩
    · obtain rfl : k = 64 := by omega
      have hmn : min (l.length : Int) 64 = 64 := by omega
      go_wp2
      go_ret
      exact ⟨ret_int (by rw [HE.out]; simp [namN]), rfl⟩
def cln (l : List UInt8) : Bool := (l == [58]) || Lib.hasPrefix l [58, 32]
/-- The key that a text begins with, and how many bytes it has. -/
def keyF (l : List UInt8) : Option (List UInt8 × Nat) := match l with
  | [] => none
  | c :: _ => match (if quoF c.toNat = true then unqF l else if 0 < namN 64 l then some (l.take (namN 64 l), namN 64 l) else none) with
    | none => none
    | some (t, k) => if cln (l.drop k) = true then some (t, k + 1) else none
theorem cln_len {l : List UInt8} (h : cln l = true) : 0 < l.length := by
  cases l with
  | nil => cases h
  | cons => simp
theorem keyF_le {l t : List UInt8} {m : Nat} (h : keyF l = some (t, m)) : 1 < m ∧ m ≤ l.length := by
  unfold keyF at h
  cases l with
  | nil => cases h
  | cons c r =>
    dsimp only at h
    split at h
    · cases h
    · rename_i t' k hk
      split at h
      · cases h
        have := cln_len ‹_›
        rw [List.length_drop] at this
        have hk1 : 0 < k := by
          split at hk
          · have := unqF_le hk; omega
          · split at hk
            · cases hk; assumption
            · cases hk
        omega
      · cases h
theorem clone_at (l : List UInt8) (k : Nat) (hs : l.length ≤ 2 ^ 40) (w : World) : Calls Tryd.prog 46 #[.string ((ByteArray.mk l.toArray).extract 0 k)] w fun e w' => e = .returned (.string ⟨(l.take k).toArray⟩) ∧ Below w.heap.size w w' := by
  rw [extract_take]
  exact clone_any _ w (by show (l.take k).length ≤ _; simp; omega)
theorem pre_d (d p : List UInt8) (b : Bool) (h : Lib.hasPrefix d p = b) (w : World) : Calls Tryd.prog 59 #[.string ⟨d.toArray⟩, .string ⟨p.toArray⟩] w fun e w' => e = .returned (.bool b) ∧ w' = w := by
  have := Tryd.strings_HasPrefix ⟨d.toArray⟩ ⟨p.toArray⟩ w
  subst h
  exact this
set_option maxHeartbeats 4000000 in
theorem keyOf_q (c : UInt8) (r : List UInt8) (w : World) (hs : (c :: r).length ≤ 2 ^ 40) (hq : quoF c.toNat = true) :
    Calls Tryd.prog 44 #[.string ⟨(c :: r).toArray⟩] w fun e w' => e = txtE (keyF (c :: r)) ∧ Below w.heap.size w w' := by
  have lo := u8_lo c
  have hi := u8_hi c
  have huc := unq_any c r w hs
  obtain ⟨l, hl⟩ : ∃ l, c :: r = l := ⟨_, rfl⟩
  have i0 : l[0]? = some c := by rw [← hl]; rfl
  have HF : Hid (keyF l = match unqF l with | none => none | some (t, k) => if cln (l.drop k) = true then some (t, k + 1) else none) := by show _ = _; rw [← hl, keyF, if_pos hq]
  rw [hl] at hs huc ⊢
  clear hl
  have e0 := ix_eq i0
  have l0 : (0 : Int) < l.length := by have := ix_lt i0; omega
  rcases hu : unqF l with _ | ⟨t, k⟩
  · rw [hu] at HF huc
    dsimp only [txtE] at huc
    go_enter Tryd.func44, Tryd.ntmps44
    go_wp2_with (first | (go_at_call 45; refine (isQuote_any _ lo hi _).mono ?_; rintro e w' ⟨rfl, rfl⟩) | (go_at_call 47; refine huc.mono ?_; rintro e w' ⟨rfl, hb⟩))
    go_ret3
    exact ⟨by rw [HF.out]; rfl, hb⟩
  · obtain ⟨k1, k2⟩ := unqF_le hu
    rw [hu] at HF huc
    dsimp only [txtE] at huc
    dsimp only at HF
    have a0 : (0 : Int) ≤ k := by omega
    have a1 : (k : Int) ≤ l.length := by omega
    have hxd := extract_drop l k
    obtain ⟨d, hd⟩ : ∃ d, l.drop k = d := ⟨_, rfl⟩
    rw [hd] at hxd HF
    clear hd
    rcases hc1 : (d == [58]) with _ | _
    · have hd1 : ¬ d = [58] := by simpa using hc1
      rcases hc2 : Lib.hasPrefix d [58, 32] with _ | _
      · rw [show cln d = false by rw [cln, hc1, hc2]; rfl, if_neg (by simp)] at HF
        have hpa := pre_d d [58, 32] false hc2
        clear hc2
        go_enter Tryd.func44, Tryd.ntmps44
        go_wp2_with (first | (go_at_call 45; refine (isQuote_any _ lo hi _).mono ?_; rintro e w' ⟨rfl, rfl⟩) | (go_at_call 47; refine huc.mono ?_; rintro e w' ⟨rfl, hb⟩) | (go_at_call 59; refine (hpa _).mono ?_; rintro e w' ⟨rfl, rfl⟩))
        go_ret3
        exact ⟨by rw [HF.out]; rfl, hb⟩
      · rw [show cln d = true by rw [cln, hc2]; simp, if_pos rfl] at HF
        have hpa := pre_d d [58, 32] true hc2
        clear hc2
        go_enter Tryd.func44, Tryd.ntmps44
        go_wp2_with (first | (go_at_call 45; refine (isQuote_any _ lo hi _).mono ?_; rintro e w' ⟨rfl, rfl⟩) | (go_at_call 47; refine huc.mono ?_; rintro e w' ⟨rfl, hb⟩) | (go_at_call 59; refine (hpa _).mono ?_; rintro e w' ⟨rfl, rfl⟩))
        go_ret3
        exact ⟨by rw [HF.out]; rfl, hb⟩
    · have hd1 : d = [58] := by simpa using hc1
      rw [show cln d = true by rw [cln, hc1]; rfl, if_pos rfl] at HF
      rw [hd1] at hxd
      clear hc1 hd1
      go_enter Tryd.func44, Tryd.ntmps44
      go_wp2_with (first | (go_at_call 45; refine (isQuote_any _ lo hi _).mono ?_; rintro e w' ⟨rfl, rfl⟩) | (go_at_call 47; refine huc.mono ?_; rintro e w' ⟨rfl, hb⟩))
      go_ret3
      exact ⟨by rw [HF.out]; rfl, hb⟩
set_option maxHeartbeats 4000000 in
theorem keyOf_n (c : UInt8) (r : List UInt8) (w : World) (hs : (c :: r).length ≤ 2 ^ 40) (hq : quoF c.toNat = false) :
    Calls Tryd.prog 44 #[.string ⟨(c :: r).toArray⟩] w fun e w' => e = txtE (keyF (c :: r)) ∧ Below w.heap.size w w' := by
  have lo := u8_lo c
  have hi := u8_hi c
  obtain ⟨l, hl⟩ : ∃ l, c :: r = l := ⟨_, rfl⟩
  have i0 : l[0]? = some c := by rw [← hl]; rfl
  have HF : Hid (keyF l = match (if 0 < namN 64 l then some (l.take (namN 64 l), namN 64 l) else none) with | none => none | some (t, k) => if cln (l.drop k) = true then some (t, k + 1) else none) := by show _ = _; rw [← hl, keyF, if_neg (by simp [hq])]
  rw [hl] at hs ⊢
  clear hl
  have e0 := ix_eq i0
  have l0 : (0 : Int) < l.length := by have := ix_lt i0; omega
  obtain ⟨k2, _⟩ := namN_le 64 l
  have hnc := fun W => nameSize_any l W hs
  obtain ⟨k, hk⟩ : ∃ k, namN 64 l = k := ⟨_, rfl⟩
  rw [hk] at HF k2
  simp only [hk] at hnc
  clear hk
  have hcl := clone_at l k hs
  have b0 : (0 : Int) ≤ k := by omega
  have b1 : (k : Int) ≤ l.length := by omega
  by_cases hk0 : 0 < k
  case neg =>
    rw [if_neg (by omega)] at HF
    dsimp only at HF
    have hk0' : ¬ (0 : Int) < k := by omega
    go_enter Tryd.func44, Tryd.ntmps44
    go_wp2_with (first | (go_at_call 45; refine (isQuote_any _ lo hi _).mono ?_; rintro e w' ⟨rfl, rfl⟩) | (go_at_call 60; refine (hnc _).mono ?_; rintro e w' ⟨rfl, rfl⟩) | (go_at_call 46; refine (hcl _).mono ?_; rintro e w' ⟨rfl, hb⟩))
    go_ret3
    exact ⟨by rw [HF.out]; rfl, hb⟩
  case pos =>
    rw [if_pos hk0] at HF
    dsimp only at HF
    have hk0' : (0 : Int) < k := by omega
    have a0 : (0 : Int) ≤ k := by omega
    have a1 : (k : Int) ≤ l.length := by omega
    have hxd := extract_drop l k
    obtain ⟨d, hd⟩ : ∃ d, l.drop k = d := ⟨_, rfl⟩
    rw [hd] at hxd HF
    clear hd
    rcases hc1 : (d == [58]) with _ | _
    · have hd1 : ¬ d = [58] := by simpa using hc1
      rcases hc2 : Lib.hasPrefix d [58, 32] with _ | _
      · rw [show cln d = false by rw [cln, hc1, hc2]; rfl, if_neg (by simp)] at HF
        have hpa := pre_d d [58, 32] false hc2
        clear hc2
        go_enter Tryd.func44, Tryd.ntmps44
        go_wp2_with (first | (go_at_call 45; refine (isQuote_any _ lo hi _).mono ?_; rintro e w' ⟨rfl, rfl⟩) | (go_at_call 60; refine (hnc _).mono ?_; rintro e w' ⟨rfl, rfl⟩) | (go_at_call 46; refine (hcl _).mono ?_; rintro e w' ⟨rfl, hb⟩) | (go_at_call 59; refine (hpa _).mono ?_; rintro e w' ⟨rfl, rfl⟩))
        go_ret3
        exact ⟨by rw [HF.out]; rfl, hb⟩
      · rw [show cln d = true by rw [cln, hc2]; simp, if_pos rfl] at HF
        have hpa := pre_d d [58, 32] true hc2
        clear hc2
        go_enter Tryd.func44, Tryd.ntmps44
        go_wp2_with (first | (go_at_call 45; refine (isQuote_any _ lo hi _).mono ?_; rintro e w' ⟨rfl, rfl⟩) | (go_at_call 60; refine (hnc _).mono ?_; rintro e w' ⟨rfl, rfl⟩) | (go_at_call 46; refine (hcl _).mono ?_; rintro e w' ⟨rfl, hb⟩) | (go_at_call 59; refine (hpa _).mono ?_; rintro e w' ⟨rfl, rfl⟩))
        go_ret3
        exact ⟨by rw [HF.out]; rfl, hb⟩
    · have hd1 : d = [58] := by simpa using hc1
      rw [show cln d = true by rw [cln, hc1]; rfl, if_pos rfl] at HF
      rw [hd1] at hxd
      clear hc1 hd1
      go_enter Tryd.func44, Tryd.ntmps44
      go_wp2_with (first | (go_at_call 45; refine (isQuote_any _ lo hi _).mono ?_; rintro e w' ⟨rfl, rfl⟩) | (go_at_call 60; refine (hnc _).mono ?_; rintro e w' ⟨rfl, rfl⟩) | (go_at_call 46; refine (hcl _).mono ?_; rintro e w' ⟨rfl, hb⟩))
      go_ret3
      exact ⟨by rw [HF.out]; rfl, hb⟩
theorem keyOf_any (c : UInt8) (r : List UInt8) (w : World) (hs : (c :: r).length ≤ 2 ^ 40) :
    Calls Tryd.prog 44 #[.string ⟨(c :: r).toArray⟩] w fun e w' => e = txtE (keyF (c :: r)) ∧ Below w.heap.size w w' := by
  rcases h : quoF c.toNat with _ | _
  · exact keyOf_n c r w hs h
  · exact keyOf_q c r w hs h
end Go.Proofs.YtjmgngocpokpgaaDoor
