import Derived.Test.YtmmnpnhffgpchaaGreatDoorBn3
/-
  Names and keys.
-/
namespace Go.Proofs.YtmmnpnhffgpchaaGreatDoor.Ln
open Go.RowKit
set_option linter.unusedVariables false
set_option linter.unusedSimpArgs false
def namN : Nat → List UInt8 → Nat
  | 0, _ => 0
  | _ + 1, [] => 0
  | n + 1, c :: r => if namF c.toNat = true then namN n r + 1 else 0
theorem namN_le : ∀ (n : Nat) (l : List UInt8), namN n l ≤ l.length ∧ namN n l ≤ n
  | 0, l => by simp [namN]
  | n + 1, [] => by simp [namN]
  | n + 1, c :: r => by
    have := namN_le n r
    rw [namN]
    split <;> simp <;> omega
theorem drop_cons {l : List UInt8} {k : Nat} {c : UInt8} (h : l[k]? = some c) : l.drop k = c :: l.drop (k + 1) := by
  obtain ⟨hk, rfl⟩ := List.getElem?_eq_some_iff.1 h
  exact List.drop_eq_getElem_cons hk
set_option maxHeartbeats 2000000 in
theorem nameSize_any (l : List UInt8) (w : World) (hs : l.length ≤ 2 ^ 40) :
    Calls Tryz.prog 66 #[.string ⟨l.toArray⟩] w fun e w' => e = .returned (.int .i64 (namN 64 l)) ∧ w' = w := by
  go_enter Tryz.func66, Tryz.ntmps66
  go_wp2
  go_loop [3] (fun t => ∃ k : Nat, t = .int .i64 k ∧ k ≤ 64 ∧ k ≤ l.length ∧ namN 64 l = k + namN (64 - k) (l.drop k)) (fun t => 64 - (intOf t).toNat)
  case atStart => exact ⟨0, rfl, by omega, by omega, by simp⟩
  case round =>
    obtain ⟨k, rfl, hk, hkl, he⟩ := hrel
    have HE := hide2 he
    clear he
    have k0 : (0 : Int) ≤ k := by omega
    by_cases h64 : k < 64
    · rcases ik : l[k]? with _ | c
      · have hl := len_none ik
        have hle : (l.length : Int) = k := by omega
        have HZ : Hid (namN (64 - k) (l.drop k) = 0) := by
          show _ = _
          have := (namN_le (64 - k) (l.drop k)).1
          rw [List.length_drop] at this; omega
        have hmin : min (l.length : Int) 64 = k := by omega
        go_wp2
        go_ret
        exact ⟨ret_int (by rw [HE.out, HZ.out]; simp), rfl⟩
      · have ek := ix_eq ik
        have hkl' := ix_lt ik
        have hl' : (k : Int) < l.length := by omega
        have hmn : (k : Int) < min (l.length : Int) 64 := by omega
        have lo := u8_lo c
        have hi := u8_hi c
        have hst : namN (64 - k) (l.drop k) = if namF c.toNat = true then namN (64 - (k + 1)) (l.drop (k + 1)) + 1 else 0 := by
          obtain ⟨j, hj⟩ : ∃ j, 64 - k = j + 1 := ⟨63 - k, by omega⟩
          have hj' : 64 - (k + 1) = j := by omega
          rw [drop_cons ik, hj, hj', namN]
        have HS := hide2 hst
        clear hst
        by_cases hc : namF c.toNat = true
        · rw [if_pos hc] at HS
          go_wp2_with (go_at_call 85; refine (inName_any _ lo hi _).mono ?_; rintro e w' ⟨rfl, rfl⟩)
          go_round
          case rel => exact ⟨k + 1, by go_num, by omega, by omega, by rw [HE.out, HS.out]; omega⟩
          case measure => simp [intOf]; omega
        · rw [if_neg hc] at HS
          have hc' : namF c.toNat = false := by simpa using hc
          go_wp2_with (go_at_call 85; refine (inName_any _ lo hi _).mono ?_; rintro e w' ⟨rfl, rfl⟩)
          go_ret
          exact ⟨ret_int (by rw [HE.out, HS.out]; simp), rfl⟩
    · obtain rfl : k = 64 := by omega
      have hmn : min (l.length : Int) 64 = 64 := by omega
      go_wp2
      go_ret
      exact ⟨ret_int (by rw [HE.out]; simp [namN]), rfl⟩
def cln (l : List UInt8) : Bool := (l == [58]) || Lib.hasPrefix l [58, 32]
/-- The key that a text begins with, and how many bytes it has. -/
def keyF (l : List UInt8) : Option (List UInt8 × Nat) := match l with
  | [] => none
  | c :: _ => match (if quoF c.toNat = true then unqF l else if 0 < namN 64 l then some (l.take (namN 64 l), namN 64 l) else none) with
    | none => none
    | some (t, k) => if cln (l.drop k) = true then some (t, k + 1) else none
theorem cln_len {l : List UInt8} (h : cln l = true) : 0 < l.length := by
  cases l with
  | nil => cases h
  | cons => simp
theorem keyF_le {l t : List UInt8} {m : Nat} (h : keyF l = some (t, m)) : 1 < m ∧ m ≤ l.length := by
  unfold keyF at h
  cases l with
  | nil => cases h
  | cons c r =>
    dsimp only at h
    split at h
    · cases h
    · rename_i t' k hk
      split at h
      · cases h
        have := cln_len ‹_›
        rw [List.length_drop] at this
        have hk1 : 0 < k := by
          split at hk
          · have := unqF_le hk; omega
          · split at hk
            · cases hk; assumption
            · cases hk
        omega
      · cases h
theorem clone_at (l : List UInt8) (k : Nat) (hs : l.length ≤ 2 ^ 40) (w : World) : Calls Tryz.prog 50 #[.string ((ByteArray.mk l.toArray).extract 0 k)] w fun e w' => e = .returned (.string ⟨(l.take k).toArray⟩) ∧ Below w.heap.size w w' := by
  rw [extract_take]
  exact clone_any _ w (by show (l.take k).length ≤ _; simp; omega)
theorem pre_d (d p : List UInt8) (b : Bool) (h : Lib.hasPrefix d p = b) (w : World) : Calls Tryz.prog 65 #[.string ⟨d.toArray⟩, .string ⟨p.toArray⟩] w fun e w' => e = .returned (.bool b) ∧ w' = w := by
  have := Tryz.strings_HasPrefix ⟨d.toArray⟩ ⟨p.toArray⟩ w
  subst h
  exact this
set_option maxHeartbeats 4000000 in
theorem keyOf_q (c : UInt8) (r : List UInt8) (w : World) (hs : (c :: r).length ≤ 2 ^ 40) (hq : quoF c.toNat = true) :
    Calls Tryz.prog 47 #[.string ⟨(c :: r).toArray⟩] w fun e w' => e = txtE (keyF (c :: r)) ∧ Below w.heap.size w w' := by
  have lo := u8_lo c
  have hi := u8_hi c
  have huc := unq_any c r w hs
  obtain ⟨l, hl⟩ : ∃ l, c :: r = l := ⟨_, rfl⟩
  have i0 : l[0]? = some c := by rw [← hl]; rfl
  have HF : Hid (keyF l = match unqF l with | none => none | some (t, k) => if cln (l.drop k) = true then some (t, k + 1) else none) := by show _ = _; rw [← hl, keyF, if_pos hq]
  rw [hl] at hs huc ⊢
  clear hl
  have e0 := ix_eq i0
  have l0 : (0 : Int) < l.length := by have := ix_lt i0; omega
  rcases hu : unqF l with _ | ⟨t, k⟩
  · rw [hu] at HF huc
    dsimp only [txtE] at huc
    go_enter Tryz.func47, Tryz.ntmps47
    go_wp2_with (first | (go_at_call 48; refine (isQuote_any _ lo hi _).mono ?_; rintro e w' ⟨rfl, rfl⟩) | (go_at_call 51; refine huc.mono ?_; rintro e w' ⟨rfl, hb⟩))
    go_ret3
    exact ⟨by rw [HF.out]; rfl, hb⟩
  · obtain ⟨k1, k2⟩ := unqF_le hu
    rw [hu] at HF huc
    dsimp only [txtE] at huc
    dsimp only at HF
    have a0 : (0 : Int) ≤ k := by omega
    have a1 : (k : Int) ≤ l.length := by omega
    have hxd := extract_drop l k
    obtain ⟨d, hd⟩ : ∃ d, l.drop k = d := ⟨_, rfl⟩
    rw [hd] at hxd HF
    clear hd
    rcases hc1 : (d == [58]) with _ | _
    · have hd1 : ¬ d = [58] := by simpa using hc1
      rcases hc2 : Lib.hasPrefix d [58, 32] with _ | _
      · rw [show cln d = false by rw [cln, hc1, hc2]; rfl, if_neg (by simp)] at HF
        have hpa := pre_d d [58, 32] false hc2
        clear hc2
        go_enter Tryz.func47, Tryz.ntmps47
        go_wp2_with (first | (go_at_call 48; refine (isQuote_any _ lo hi _).mono ?_; rintro e w' ⟨rfl, rfl⟩) | (go_at_call 51; refine huc.mono ?_; rintro e w' ⟨rfl, hb⟩) | (go_at_call 65; refine (hpa _).mono ?_; rintro e w' ⟨rfl, rfl⟩))
        go_ret3
        exact ⟨by rw [HF.out]; rfl, hb⟩
      · rw [show cln d = true by rw [cln, hc2]; simp, if_pos rfl] at HF
        have hpa := pre_d d [58, 32] true hc2
        clear hc2
        go_enter Tryz.func47, Tryz.ntmps47
        go_wp2_with (first | (go_at_call 48; refine (isQuote_any _ lo hi _).mono ?_; rintro e w' ⟨rfl, rfl⟩) | (go_at_call 51; refine huc.mono ?_; rintro e w' ⟨rfl, hb⟩) | (go_at_call 65; refine (hpa _).mono ?_; rintro e w' ⟨rfl, rfl⟩))
        go_ret3
        exact ⟨by rw [HF.out]; rfl, hb⟩
    · have hd1 : d = [58] := by simpa using hc1
      rw [show cln d = true by rw [cln, hc1]; rfl, if_pos rfl] at HF
      rw [hd1] at hxd
      clear hc1 hd1
      go_enter Tryz.func47, Tryz.ntmps47
      go_wp2_with (first | (go_at_call 48; refine (isQuote_any _ lo hi _).mono ?_; rintro e w' ⟨rfl, rfl⟩) | (go_at_call 51; refine huc.mono ?_; rintro e w' ⟨rfl, hb⟩))
      go_ret3
      exact ⟨by rw [HF.out]; rfl, hb⟩
set_option maxHeartbeats 4000000 in
theorem keyOf_n (c : UInt8) (r : List UInt8) (w : World) (hs : (c :: r).length ≤ 2 ^ 40) (hq : quoF c.toNat = false) :
    Calls Tryz.prog 47 #[.string ⟨(c :: r).toArray⟩] w fun e w' => e = txtE (keyF (c :: r)) ∧ Below w.heap.size w w' := by
  have lo := u8_lo c
  have hi := u8_hi c
  obtain ⟨l, hl⟩ : ∃ l, c :: r = l := ⟨_, rfl⟩
  have i0 : l[0]? = some c := by rw [← hl]; rfl
  have HF : Hid (keyF l = match (if 0 < namN 64 l then some (l.take (namN 64 l), namN 64 l) else none) with | none => none | some (t, k) => if cln (l.drop k) = true then some (t, k + 1) else none) := by show _ = _; rw [← hl, keyF, if_neg (by simp [hq])]
  rw [hl] at hs ⊢
  clear hl
  have e0 := ix_eq i0
  have l0 : (0 : Int) < l.length := by have := ix_lt i0; omega
  obtain ⟨k2, _⟩ := namN_le 64 l
  have hnc := fun W => nameSize_any l W hs
  obtain ⟨k, hk⟩ : ∃ k, namN 64 l = k := ⟨_, rfl⟩
  rw [hk] at HF k2
  simp only [hk] at hnc
  clear hk
  have hcl := clone_at l k hs
  have b0 : (0 : Int) ≤ k := by omega
  have b1 : (k : Int) ≤ l.length := by omega
  by_cases hk0 : 0 < k
  case neg =>
    rw [if_neg (by omega)] at HF
    dsimp only at HF
    have hk0' : ¬ (0 : Int) < k := by omega
    go_enter Tryz.func47, Tryz.ntmps47
    go_wp2_with (first | (go_at_call 48; refine (isQuote_any _ lo hi _).mono ?_; rintro e w' ⟨rfl, rfl⟩) | (go_at_call 66; refine (hnc _).mono ?_; rintro e w' ⟨rfl, rfl⟩) | (go_at_call 50; refine (hcl _).mono ?_; rintro e w' ⟨rfl, hb⟩))
    go_ret3
    exact ⟨by rw [HF.out]; rfl, hb⟩
  case pos =>
    rw [if_pos hk0] at HF
    dsimp only at HF
    have hk0' : (0 : Int) < k := by omega
    have a0 : (0 : Int) ≤ k := by omega
    have a1 : (k : Int) ≤ l.length := by omega
    have hxd := extract_drop l k
    obtain ⟨d, hd⟩ : ∃ d, l.drop k = d := ⟨_, rfl⟩
    rw [hd] at hxd HF
    clear hd
    rcases hc1 : (d == [58]) with _ | _
    · have hd1 : ¬ d = [58] := by simpa using hc1
      rcases hc2 : Lib.hasPrefix d [58, 32] with _ | _
      · rw [show cln d = false by rw [cln, hc1, hc2]; rfl, if_neg (by simp)] at HF
        have hpa := pre_d d [58, 32] false hc2
        clear hc2
        go_enter Tryz.func47, Tryz.ntmps47
        go_wp2_with (first | (go_at_call 48; refine (isQuote_any _ lo hi _).mono ?_; rintro e w' ⟨rfl, rfl⟩) | (go_at_call 66; refine (hnc _).mono ?_; rintro e w' ⟨rfl, rfl⟩) | (go_at_call 50; refine (hcl _).mono ?_; rintro e w' ⟨rfl, hb⟩) | (go_at_call 65; refine (hpa _).mono ?_; rintro e w' ⟨rfl, rfl⟩))
        go_ret3
        exact ⟨by rw [HF.out]; rfl, hb⟩
      · rw [show cln d = true by rw [cln, hc2]; simp, if_pos rfl] at HF
        have hpa := pre_d d [58, 32] true hc2
        clear hc2
        go_enter Tryz.func47, Tryz.ntmps47
        go_wp2_with (first | (go_at_call 48; refine (isQuote_any _ lo hi _).mono ?_; rintro e w' ⟨rfl, rfl⟩) | (go_at_call 66; refine (hnc _).mono ?_; rintro e w' ⟨rfl, rfl⟩) | (go_at_call 50; refine (hcl _).mono ?_; rintro e w' ⟨rfl, hb⟩) | (go_at_call 65; refine (hpa _).mono ?_; rintro e w' ⟨rfl, rfl⟩))
        go_ret3
        exact ⟨by rw [HF.out]; rfl, hb⟩
    · have hd1 : d = [58] := by simpa using hc1
      rw [show cln d = true by rw [cln, hc1]; rfl, if_pos rfl] at HF
      rw [hd1] at hxd
      clear hc1 hd1
      go_enter Tryz.func47, Tryz.ntmps47
      go_wp2_with (first | (go_at_call 48; refine (isQuote_any _ lo hi _).mono ?_; rintro e w' ⟨rfl, rfl⟩) | (go_at_call 66; refine (hnc _).mono ?_; rintro e w' ⟨rfl, rfl⟩) | (go_at_call 50; refine (hcl _).mono ?_; rintro e w' ⟨rfl, hb⟩))
      go_ret3
      exact ⟨by rw [HF.out]; rfl, hb⟩
theorem keyOf_any (c : UInt8) (r : List UInt8) (w : World) (hs : (c :: r).length ≤ 2 ^ 40) :
    Calls Tryz.prog 47 #[.string ⟨(c :: r).toArray⟩] w fun e w' => e = txtE (keyF (c :: r)) ∧ Below w.heap.size w w' := by
  rcases h : quoF c.toNat with _ | _
  · exact keyOf_n c r w hs h
  · exact keyOf_q c r w hs h
end Go.Proofs.YtmmnpnhffgpchaaGreatDoor.Ln

/-
  Plain scalars; what begins a document.
-/
namespace Go.Proofs.YtmmnpnhffgpchaaGreatDoor.Ln
open Go.RowKit
set_option linter.unusedVariables false
set_option linter.unusedSimpArgs false
def nopL : List UInt8 := [32, 34, 39, 35, 44, 91, 93, 123, 125, 38, 42, 33, 124, 62, 37, 64, 63, 58, 96]
def cutF (l : List UInt8) : List UInt8 := Lib.trimRightB (Lib.cut l [32, 35]).1 32
def plnG (s : List UInt8) : List UInt8 := match s with
  | [] => []
  | c :: r => if (c :: r == [45, 45, 45]) = true then [] else if itmF (c :: r) = true then [] else if 0 ≤ Lib.indexByte nopL c then [] else if Lib.contains (c :: r) [58, 32] = true then [] else if Lib.hasSuffix (c :: r) [58] = true then [] else c :: r
def plnF (l : List UInt8) : List UInt8 := plnG (cutF l)
theorem cut_le (l : List UInt8) : (Lib.cut l [32, 35]).1.length ≤ l.length := by
  unfold Lib.cut
  split
  · simp; omega
  · simp
theorem trimR_le (l : List UInt8) : (Lib.trimRightB l 32).length ≤ l.length := by
  unfold Lib.trimRightB
  have := (List.dropWhile_sublist (l := l.reverse) (· == 32)).length_le
  simpa using this
theorem cutF_le (l : List UInt8) : (cutF l).length ≤ l.length := Nat.le_trans (trimR_le _) (cut_le l)
theorem plnF_le (l : List UInt8) : (plnF l).length ≤ l.length := by
  have := cutF_le l
  unfold plnF plnG
  split
  · simp
  · rename_i c r h
    rw [h] at this
    repeat' split
    all_goals first | exact this | simp
theorem nop_at (c : UInt8) (w : World) : Calls Tryz.prog 68 #[.string ⟨#[32, 34, 39, 35, 44, 91, 93, 123, 125, 38, 42, 33, 124, 62, 37, 64, 63, 58, 96]⟩, .int .u8 (c.toNat : Int)] w fun e w' => e = .returned (.int .i64 (Lib.indexByte nopL c)) ∧ w' = w := by
  have := Tryz.strings_IndexByte ⟨#[32, 34, 39, 35, 44, 91, 93, 123, 125, 38, 42, 33, 124, 62, 37, 64, 63, 58, 96]⟩ (c.toNat : Int) w
  have e : ((c.toNat : Int).toNat.toUInt8) = c := by simp
  rw [e] at this
  exact this
theorem cut_call (l : List UInt8) (m : Int) (w : World) (hs : l.length ≤ 2 ^ 30) (hm : w.cell? ⟨0, 0, none⟩ = some (.int .i64 m)) (a b : List UInt8) (f : Bool) (h : Lib.cut l [32, 35] = (a, b, f)) :
    Calls Tryz.prog 27 #[.string ⟨l.toArray⟩, .string ⟨#[32, 35]⟩] w fun e w' => e = .returned (.tuple #[.string ⟨a.toArray⟩, .string ⟨b.toArray⟩, .bool f]) ∧ ∃ q, w' = w.drewN q := by
  have := Tryz.strings_Cut ⟨l.toArray⟩ ⟨#[32, 35]⟩ m w (show l.length < _ by omega) hm
  have e : Lib.cut (ByteArray.mk l.toArray).data.toList (ByteArray.mk #[32, 35]).data.toList = (a, b, f) := h
  rw [e] at this
  exact this
theorem trim_call (l s : List UInt8) (w : World) (hs : l.length ≤ 2 ^ 40) (h : Lib.trimRightB l 32 = s) :
    Calls Tryz.prog 67 #[.string ⟨l.toArray⟩, .string ⟨#[32]⟩] w fun e w' => e = .returned (.string ⟨s.toArray⟩) ∧ w' = w := by
  have := Tryz.strings_TrimRight_one ⟨l.toArray⟩ 32 (by decide) w (show l.length ≤ _ by omega)
  subst h
  exact this
theorem has_call (l : List UInt8) (m : Int) (w : World) (hs : l.length ≤ 2 ^ 30) (hm : w.cell? ⟨0, 0, none⟩ = some (.int .i64 m)) (b : Bool) (h : Lib.contains l [58, 32] = b) :
    Calls Tryz.prog 69 #[.string ⟨l.toArray⟩, .string ⟨#[58, 32]⟩] w fun e w' => e = .returned (.bool b) ∧ w' = w := by
  have := Tryz.strings_Contains ⟨l.toArray⟩ ⟨#[58, 32]⟩ m w (show l.length < _ by omega) hm
  subst h
  exact this
theorem suf_call (l : List UInt8) (w : World) (hs : l.length ≤ 2 ^ 30) (b : Bool) (h : Lib.hasSuffix l [58] = b) :
    Calls Tryz.prog 70 #[.string ⟨l.toArray⟩, .string ⟨#[58]⟩] w fun e w' => e = .returned (.bool b) ∧ w' = w := by
  have := Tryz.strings_HasSuffix ⟨l.toArray⟩ ⟨#[58]⟩ w (show l.length ≤ _ by omega)
  subst h
  exact this
theorem item_call (l : List UInt8) (w : World) (hs : l.length ≤ 2 ^ 30) (b : Bool) (h : itmF l = b) :
    Calls Tryz.prog 45 #[.string ⟨l.toArray⟩] w fun e w' => e = .returned (.bool b) ∧ w' = w := by
  have := isItem_any l w (by omega)
  subst h
  exact this
set_option maxRecDepth 100000 in
set_option maxHeartbeats 4000000 in
theorem plain_any (l : List UInt8) (m : Int) (w : World) (hs : l.length ≤ 2 ^ 30) (hm : w.cell? ⟨0, 0, none⟩ = some (.int .i64 m)) :
    Calls Tryz.prog 49 #[.string ⟨l.toArray⟩] w fun e w' => e = .returned (.string ⟨(plnF l).toArray⟩) ∧ ∃ q, w' = w.drewN q := by
  obtain ⟨a, b, f, hcut⟩ : ∃ a b f, Lib.cut l [32, 35] = (a, b, f) := ⟨_, _, _, rfl⟩
  have hal : a.length ≤ l.length := by have := cut_le l; rw [hcut] at this; exact this
  obtain ⟨s, htr⟩ : ∃ s, Lib.trimRightB a 32 = s := ⟨_, rfl⟩
  have hsl : s.length ≤ a.length := by rw [← htr]; exact trimR_le a
  have HP : Hid (plnF l = plnG s) := by
    show _ = _
    rw [plnF, cutF, hcut]
    dsimp only
    rw [htr]
  have c28 := cut_call l m w hs hm a b f hcut
  have c49 := fun W => trim_call a s W (by omega) htr
  clear hcut htr
  have hm' : ∀ q, (w.drewN q).cell? ⟨0, 0, none⟩ = some (.int .i64 m) := fun q => by simpa using hm
  cases s with
  | nil =>
    unfold plnG at HP
    dsimp only at HP
    go_enter Tryz.func49, Tryz.ntmps49
    go_wp2_with (first | (go_at_call 27; refine c28.mono ?_; rintro e w' ⟨rfl, q, rfl⟩) | (go_at_call 67; refine (c49 _).mono ?_; rintro e w' ⟨rfl, rfl⟩))
    go_ret
    exact ⟨by rw [HP.out]; rfl, q, rfl⟩
  | cons c r =>
    unfold plnG at HP
    dsimp only at HP
    have lo := u8_lo c
    have hi := u8_hi c
    obtain ⟨s, hse⟩ : ∃ s, c :: r = s := ⟨_, rfl⟩
    have i0 : s[0]? = some c := by rw [← hse]; rfl
    have hne : ¬ s = [] := by rw [← hse]; simp
    rw [hse] at hsl HP
    simp only [hse] at c49
    clear hse
    have e0 := ix_eq i0
    have l0 : (0 : Int) < s.length := by have := ix_lt i0; omega
    have hne' : s.isEmpty = false := by cases s with | nil => exact absurd rfl hne | cons => rfl
    have c42 := fun W => item_call s W (by omega)
    rcases h1 : (s == [45, 45, 45]) with _ | _
    · rw [h1, if_neg (by simp)] at HP
      have h1' : ¬ s = [45, 45, 45] := by simpa using h1
      rcases h2 : itmF s with _ | _
      · rw [h2, if_neg (by simp)] at HP
        have c42 := fun W => c42 W false h2
        obtain ⟨ib, hib⟩ : ∃ ib, Lib.indexByte nopL c = ib := ⟨_, rfl⟩
        have c50 := fun W => nop_at c W
        simp only [hib] at c50
        rw [hib] at HP
        clear hib
        by_cases h3 : 0 ≤ ib
        · rw [if_pos h3] at HP
          go_enter Tryz.func49, Tryz.ntmps49
          go_wp2_with (first | (go_at_call 27; refine c28.mono ?_; rintro e w' ⟨rfl, q, rfl⟩) | (go_at_call 67; refine (c49 _).mono ?_; rintro e w' ⟨rfl, rfl⟩) | (go_at_call 45; refine (c42 _).mono ?_; rintro e w' ⟨rfl, rfl⟩) | (go_at_call 68; refine (c50 _).mono ?_; rintro e w' ⟨rfl, rfl⟩))
          go_ret
          exact ⟨by rw [HP.out]; rfl, q, rfl⟩
        · rw [if_neg h3] at HP
          rcases h4 : Lib.contains s [58, 32] with _ | _
          · rw [h4, if_neg (by simp)] at HP
            have c51 := fun q => has_call s m (w.drewN q) (by omega) (hm' q) false h4
            rcases h5 : Lib.hasSuffix s [58] with _ | _
            · rw [h5, if_neg (by simp)] at HP
              have c52 := fun W => suf_call s W (by omega) false h5
              go_enter Tryz.func49, Tryz.ntmps49
              go_wp2_with (first | (go_at_call 27; refine c28.mono ?_; rintro e w' ⟨rfl, q, rfl⟩) | (go_at_call 67; refine (c49 _).mono ?_; rintro e w' ⟨rfl, rfl⟩) | (go_at_call 45; refine (c42 _).mono ?_; rintro e w' ⟨rfl, rfl⟩) | (go_at_call 68; refine (c50 _).mono ?_; rintro e w' ⟨rfl, rfl⟩) | (go_at_call 69; refine (c51 _).mono ?_; rintro e w' ⟨rfl, rfl⟩) | (go_at_call 70; refine (c52 _).mono ?_; rintro e w' ⟨rfl, rfl⟩))
              go_ret
              exact ⟨by rw [HP.out]; rfl, q, rfl⟩
            · rw [h5, if_pos rfl] at HP
              have c52 := fun W => suf_call s W (by omega) true h5
              go_enter Tryz.func49, Tryz.ntmps49
              go_wp2_with (first | (go_at_call 27; refine c28.mono ?_; rintro e w' ⟨rfl, q, rfl⟩) | (go_at_call 67; refine (c49 _).mono ?_; rintro e w' ⟨rfl, rfl⟩) | (go_at_call 45; refine (c42 _).mono ?_; rintro e w' ⟨rfl, rfl⟩) | (go_at_call 68; refine (c50 _).mono ?_; rintro e w' ⟨rfl, rfl⟩) | (go_at_call 69; refine (c51 _).mono ?_; rintro e w' ⟨rfl, rfl⟩) | (go_at_call 70; refine (c52 _).mono ?_; rintro e w' ⟨rfl, rfl⟩))
              go_ret
              exact ⟨by rw [HP.out]; rfl, q, rfl⟩
          · rw [h4, if_pos rfl] at HP
            have c51 := fun q => has_call s m (w.drewN q) (by omega) (hm' q) true h4
            go_enter Tryz.func49, Tryz.ntmps49
            go_wp2_with (first | (go_at_call 27; refine c28.mono ?_; rintro e w' ⟨rfl, q, rfl⟩) | (go_at_call 67; refine (c49 _).mono ?_; rintro e w' ⟨rfl, rfl⟩) | (go_at_call 45; refine (c42 _).mono ?_; rintro e w' ⟨rfl, rfl⟩) | (go_at_call 68; refine (c50 _).mono ?_; rintro e w' ⟨rfl, rfl⟩) | (go_at_call 69; refine (c51 _).mono ?_; rintro e w' ⟨rfl, rfl⟩))
            go_ret
            exact ⟨by rw [HP.out]; rfl, q, rfl⟩
      · rw [h2, if_pos rfl] at HP
        have c42 := fun W => c42 W true h2
        go_enter Tryz.func49, Tryz.ntmps49
        go_wp2_with (first | (go_at_call 27; refine c28.mono ?_; rintro e w' ⟨rfl, q, rfl⟩) | (go_at_call 67; refine (c49 _).mono ?_; rintro e w' ⟨rfl, rfl⟩) | (go_at_call 45; refine (c42 _).mono ?_; rintro e w' ⟨rfl, rfl⟩))
        go_ret
        exact ⟨by rw [HP.out]; rfl, q, rfl⟩
    · rw [h1, if_pos rfl] at HP
      have h1' : s = [45, 45, 45] := by simpa using h1
      go_enter Tryz.func49, Tryz.ntmps49
      go_wp2_with (first | (go_at_call 27; refine c28.mono ?_; rintro e w' ⟨rfl, q, rfl⟩) | (go_at_call 67; refine (c49 _).mono ?_; rintro e w' ⟨rfl, rfl⟩))
      go_ret
      exact ⟨by rw [HP.out]; rfl, q, rfl⟩
def docF (l : List UInt8) : Bool := Lib.hasPrefix l [45, 45, 45] && nulF (l.drop 3)
theorem doc_any (l : List UInt8) (w : World) (hs : l.length ≤ 2 ^ 30) :
    Calls Tryz.prog 41 #[.string ⟨l.toArray⟩] w fun e w' => e = .returned (.bool (docF l)) ∧ w' = w := by
  have c57 := fun W => Tryz.strings_CutPrefix ⟨l.toArray⟩ ⟨#[45, 45, 45]⟩ W
  rcases hp : Lib.hasPrefix l [45, 45, 45] with _ | _
  · have e1 : Lib.trimPrefix (ByteArray.mk l.toArray).data.toList (ByteArray.mk #[45, 45, 45]).data.toList = l := by
      show Lib.trimPrefix l [45, 45, 45] = l
      rw [Lib.trimPrefix, hp]; rfl
    have e2 : Lib.hasPrefix (ByteArray.mk l.toArray).data.toList (ByteArray.mk #[45, 45, 45]).data.toList = false := hp
    simp only [e1, e2] at c57
    clear e1 e2
    have HD : Hid (docF l = false) := by show _ = _; rw [docF, hp]; rfl
    go_enter Tryz.func41, Tryz.ntmps41
    go_wp2_with (go_at_call 63; refine (c57 _).mono ?_; rintro e w' ⟨rfl, rfl⟩)
    go_ret
    exact ⟨ret_bool (by rw [HD.out]), rfl⟩
  · have e1 : Lib.trimPrefix (ByteArray.mk l.toArray).data.toList (ByteArray.mk #[45, 45, 45]).data.toList = l.drop 3 := by
      show Lib.trimPrefix l [45, 45, 45] = l.drop 3
      rw [Lib.trimPrefix, hp]; rfl
    have e2 : Lib.hasPrefix (ByteArray.mk l.toArray).data.toList (ByteArray.mk #[45, 45, 45]).data.toList = true := hp
    simp only [e1, e2] at c57
    clear e1 e2
    have HD : Hid (docF l = nulF (l.drop 3)) := by show _ = _; rw [docF, hp]; rfl
    obtain ⟨d, hd⟩ : ∃ d, l.drop 3 = d := ⟨_, rfl⟩
    have hdl : d.length ≤ 2 ^ 62 := by rw [← hd]; simp; omega
    simp only [hd] at c57
    rw [hd] at HD
    clear hd
    go_enter Tryz.func41, Tryz.ntmps41
    go_wp2_with (first | (go_at_call 63; refine (c57 _).mono ?_; rintro e w' ⟨rfl, rfl⟩) | (go_at_call 52; refine (saysNothing_any d _ hdl).mono ?_; rintro e w' ⟨rfl, rfl⟩))
    go_ret
    exact ⟨ret_bool (by rw [HD.out]), rfl⟩
end Go.Proofs.YtmmnpnhffgpchaaGreatDoor.Ln
