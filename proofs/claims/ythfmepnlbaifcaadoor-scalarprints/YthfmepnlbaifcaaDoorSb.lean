/-
  The document's small functions: minus, digits, whole, number, cut; the program's isPower.
-/
import Derived.Test.YthfmepnlbaifcaaDoorSa
namespace Go.Proofs.YthfmepnlbaifcaaDoor
open Go.RowKit
set_option linter.unusedVariables false
set_option linter.unusedSimpArgs false
theorem mk_nil : (ByteArray.mk (([] : List UInt8).toArray)) = ⟨#[]⟩ := rfl
theorem toList_mk (l : List UInt8) : (ByteArray.mk l.toArray).toList = l := by
  rw [ByteArray.toList_eq]
theorem minus_any (l : List UInt8) (w : World) (hs : l.length ≤ 2 ^ 62) :
    Calls Tryd.prog 42 #[.string ⟨l.toArray⟩] w fun e w' => e = .returned (.tuple #[.string ⟨(unM l).toArray⟩, .bool (hasM l)]) ∧ w' = w := by
  cases l with
  | nil =>
    go_enter Tryd.func42, Tryd.ntmps42
    go_wp2
    go_ret2
    exact ⟨rfl, rfl⟩
  | cons c r =>
    have ik : (c :: r)[0]? = some c := rfl
    have ek := ix_eq ik
    have hkl := ix_lt ik
    have lo := u8_lo c
    have hi := u8_hi c
    have hl' : (0 : Int) < (c :: r).length := by simp
    by_cases hc : (c.toNat : Int) = 45
    · have hc' : c = 45 := by rw [← UInt8.toNat_inj]; simp; omega
      have e1 : unM (c :: r) = (c :: r).drop 1 := by rw [unM, if_pos (by rw [hc']; rfl)]; rfl
      have e2 : hasM (c :: r) = true := by rw [hasM, hc']; rfl
      rw [e1, e2]
      generalize hL : c :: r = L at *
      clear hL e1 e2 hc'
      go_enter Tryd.func42, Tryd.ntmps42
      go_wp2
      go_ret2
      refine ⟨?_, rfl⟩
      rw [← extract_drop L 1]
      rfl
    · have hc' : c ≠ 45 := by intro h; subst h; exact hc rfl
      have e1 : unM (c :: r) = (c :: r) := by rw [unM, if_neg (by simpa using hc')]
      have e2 : hasM (c :: r) = false := by rw [hasM]; simp [hc']
      rw [e1, e2]
      generalize hL : c :: r = L at *
      clear hL e1 e2 hc'
      go_enter Tryd.func42, Tryd.ntmps42
      go_wp2
      go_ret2
      exact ⟨rfl, rfl⟩
theorem dgs_take {l : List UInt8} : dgs l = (l.all dg && decide (0 < l.length)) := by
  cases l <;> simp [dgs]
theorem digits_any (l : List UInt8) (w : World) (hs : l.length ≤ 2 ^ 62) :
    Calls Tryd.prog 46 #[.string ⟨l.toArray⟩] w fun e w' => e = .returned (.bool (dgs l)) ∧ w' = w := by
  go_enter Tryd.func46, Tryd.ntmps46
  go_wp2
  go_loop [3] (fun t => ∃ k : Nat, t = .int .i64 k ∧ k ≤ l.length ∧ (l.take k).all dg = true) (fun t => l.length - (intOf t).toNat)
  case atStart => exact ⟨0, rfl, by omega, by simp⟩
  case round =>
    obtain ⟨k, rfl, hk, hall⟩ := hrel
    have HA := hide2 hall
    clear hall
    have k0 : (0 : Int) ≤ k := by omega
    rcases ik : l[k]? with _ | c
    · have hl := len_none ik
      have hle : (l.length : Int) = k := by omega
      go_wp2
      go_ret
      refine ⟨ret_bool ?_, rfl⟩
      have := HA.out
      rw [List.take_of_length_le (by omega)] at this
      rw [dgs_take, this, Bool.true_and]
      rw [decide_eq_decide]; omega
    · have ek := ix_eq ik
      have hkl := ix_lt ik
      have hkl' := (List.getElem?_eq_some_iff.1 ik).1
      have hl' : (k : Int) < l.length := by omega
      have lo := u8_lo c
      have hi := u8_hi c
      have HS : Hid (l.take (k + 1) = l.take k ++ [c]) := by
        show _ = _
        rw [List.take_add_one, ik]; rfl
      by_cases hd : 48 ≤ (c.toNat : Int) ∧ (c.toNat : Int) ≤ 57
      · obtain ⟨d1, d2⟩ := hd
        go_wp2
        go_round
        case rel => exact ⟨k + 1, by go_num, by omega, by rw [HS.out, List.all_append, HA.out]; simp [dg]; omega⟩
        case measure => simp [intOf]; omega
      · have HF : Hid (dgs l = false) := by
          show _ = _
          rw [Bool.eq_false_iff]
          intro h
          have := (dgs_iff.1 h).1 c (List.mem_of_getElem? ik)
          have := of_decide_eq_true this
          omega
        by_cases d1 : (c.toNat : Int) < 48
        · clear hd
          go_wp2
          go_ret
          exact ⟨ret_bool HF.out.symm, rfl⟩
        · have d2 : 57 < (c.toNat : Int) := by omega
          clear hd
          go_wp2
          go_ret
          exact ⟨ret_bool HF.out.symm, rfl⟩
theorem whole_any (l : List UInt8) (w : World) (hs : l.length ≤ 2 ^ 62) :
    Calls Tryd.prog 43 #[.string ⟨l.toArray⟩] w fun e w' => e = .returned (.bool (whl l)) ∧ w' = w := by
  have hdg := digits_any l w hs
  by_cases hd : dgs l = true
  · have hne := (dgs_iff.1 hd).2
    cases l with
    | nil => exact absurd rfl hne
    | cons c r =>
      have ik : (c :: r)[0]? = some c := rfl
      have ek := ix_eq ik
      have hkl := ix_lt ik
      have lo := u8_lo c
      have hi := u8_hi c
      have hl' : (0 : Int) < (c :: r).length := by simp
      have HW : Hid (whl (c :: r) = (decide ((c.toNat : Int) ≠ 48) || decide (((c :: r).length : Int) = 1))) := by
        show _ = _
        rw [whl, hd, Bool.true_and]
        have e1 : (decide ((c :: r).head? ≠ some 48)) = decide ((c.toNat : Int) ≠ 48) := by
          rw [decide_eq_decide]
          simp [← UInt8.toNat_inj]
          omega
        have e2 : (decide ((c :: r).length = 1)) = decide (((c :: r).length : Int) = 1) := by
          rw [decide_eq_decide]; omega
        rw [e1, e2]
      rw [hd] at hdg
      generalize hL : c :: r = L at *
      clear hL hne
      by_cases hc : (c.toNat : Int) = 48
      all_goals
        go_enter Tryd.func43, Tryd.ntmps43
        go_wp2_with (go_at_call 46; refine hdg.mono ?_; rintro e w' ⟨rfl, rfl⟩)
        go_ret
        refine ⟨ret_bool ?_, rfl⟩
        rw [HW.out]
        simp [hc]
        try (rw [Bool.eq_iff_iff]; simp)
  · have hd' : dgs l = false := by simpa using hd
    have hw : whl l = false := by rw [whl, hd', Bool.false_and]
    rw [hw]
    rw [hd'] at hdg
    clear hd hw hd'
    go_enter Tryd.func43, Tryd.ntmps43
    go_wp2_with (go_at_call 46; refine hdg.mono ?_; rintro e w' ⟨rfl, rfl⟩)
    go_ret
    exact ⟨rfl, rfl⟩
theorem take_snoc {l : List UInt8} {k : Nat} {c : UInt8} (h : l[k]? = some c) : l.take (k + 1) = l.take k ++ [c] := by
  rw [List.take_add_one, h]; rfl
theorem val_nil : val [] = 0 := rfl
/-- what number answers -/
def numE (l : List UInt8) (lim : Nat) : Ending := if val l ≤ lim then .returned (.tuple #[.int .u64 (val l), .bool true]) else .returned (.tuple #[.int .u64 0, .bool false])
theorem val_take {l : List UInt8} (k : Nat) : val (l.take k) ≤ val l := by
  have h := List.take_append_drop k l
  have h2 : val l = valF (val (l.take k)) (l.drop k) := by
    conv => lhs; rw [← h]
    exact valF_append _ _ _
  rw [h2]
  exact valF_le _ _
theorem val_snoc (l : List UInt8) (c : UInt8) : val (l ++ [c]) = 10 * val l + (c.toNat - 48) := by
  rw [val, valF_append]; rfl
theorem number_any (l : List UInt8) (lim : Nat) (w : World) (hs : l.length ≤ 2 ^ 62) (hd : ∀ c ∈ l, dg c = true) (h9 : 9 ≤ lim) (h64 : lim < 18446744073709551616) :
    Calls Tryd.prog 44 #[.string ⟨l.toArray⟩, .int .u64 lim] w fun e w' => e = numE l lim ∧ w' = w := by
  have HD := hide2 hd
  obtain ⟨L, hL⟩ : ∃ L : Int, (lim : Int) = L := ⟨_, rfl⟩
  have L9 : 9 ≤ L := by omega
  have L64 : L < 18446744073709551616 := by omega
  have HL := hide2 hL
  rw [hL]
  clear hd hL h9 h64
  go_enter Tryd.func44, Tryd.ntmps44
  go_wp2
  go_loop [6, 7] (fun n t => ∃ k : Nat, t = .int .i64 k ∧ k ≤ l.length ∧ n = .int .u64 (val (l.take k)) ∧ val (l.take k) ≤ lim) (fun _ t => l.length - (intOf t).toNat)
  case atStart => exact ⟨0, rfl, by omega, by rw [List.take_zero, val_nil]; rfl, by rw [List.take_zero, val_nil]; exact Nat.zero_le _⟩
  case round =>
    obtain ⟨k, rfl, hk, rfl, hv⟩ := hrel
    have k0 : (0 : Int) ≤ k := by omega
    have hv' : (val (l.take k) : Int) ≤ L := by have := HL.out; omega
    have hv0 : 0 ≤ (val (l.take k) : Int) := by omega
    have HV := hide2 hv
    clear hv
    rcases ik : l[k]? with _ | c
    · have hl := len_none ik
      have hle : (l.length : Int) = k := by omega
      have HT : Hid (l.take k = l) := by show _ = _; exact List.take_of_length_le hl
      obtain ⟨n, hn⟩ : ∃ n : Int, (val (l.take k) : Int) = n := ⟨_, rfl⟩
      rw [hn] at hv' hv0 ⊢
      have HN := hide2 hn
      clear hn
      go_wp2
      go_ret2
      refine ⟨?_, rfl⟩
      have h1 := HN.out
      have h2 := HV.out
      rw [HT.out] at h1 h2
      rw [numE, if_pos h2, h1]
      rfl
    · have ek := ix_eq ik
      have hkl := ix_lt ik
      have hkl' := (List.getElem?_eq_some_iff.1 ik).1
      have hl' : (k : Int) < l.length := by omega
      have hdc : 48 ≤ c.toNat ∧ c.toNat ≤ 57 := of_decide_eq_true (HD.out c (List.mem_of_getElem? ik))
      have c1 : 48 ≤ (c.toNat : Int) := by omega
      have c2 : (c.toNat : Int) ≤ 57 := by omega
      have HS : Hid (val (l.take (k + 1)) = 10 * val (l.take k) + (c.toNat - 48)) := by
        show _ = _
        rw [take_snoc ik, val_snoc]
      have HT : Hid (val (l.take (k + 1)) ≤ val l) := val_take _
      clear hdc
      obtain ⟨n, hn⟩ : ∃ n : Int, (val (l.take k) : Int) = n := ⟨_, rfl⟩
      rw [hn] at hv' hv0 ⊢
      have HN := hide2 hn
      clear hn
      by_cases hgt : n > (L - ((c.toNat : Int) - 48)) / 10
      · go_wp2
        go_ret2
        refine ⟨?_, rfl⟩
        have h1 := HN.out
        have h2 := HS.out
        have h3 := HT.out
        have h4 := HL.out
        rw [numE, if_neg (by omega)]
        rfl
      · go_wp2
        go_round
        case rel =>
          have h1 := HN.out
          have h2 := HS.out
          have h4 := HL.out
          exact ⟨k + 1, by go_num, by omega, by rw [h2]; congr 1; omega, by omega⟩
        case measure => simp [intOf]; omega
/-- what cut answers -/
def cutE (c : UInt8) (l : List UInt8) : Ending := match cutB c l with
  | some (x, y) => .returned (.tuple #[.string ⟨x.toArray⟩, .string ⟨y.toArray⟩, .bool true])
  | none => .returned (.tuple #[.string ⟨l.toArray⟩, .string ⟨#[]⟩, .bool false])
theorem cutB_at {c : UInt8} {l : List UInt8} {k : Nat} (h : l[k]? = some c) (hn : c ∉ l.take k) : cutB c l = some (l.take k, l.drop (k + 1)) := by
  have hk := (List.getElem?_eq_some_iff.1 h).1
  have e : l = l.take k ++ c :: l.drop (k + 1) := by
    have h1 := List.take_append_drop k l
    rw [List.drop_eq_getElem_cons hk, (List.getElem?_eq_some_iff.1 h).2] at h1
    exact h1.symm
  conv => lhs; rw [e]
  exact cutB_mem hn
theorem cut_any (l : List UInt8) (b : UInt8) (w : World) (hs : l.length ≤ 2 ^ 62) :
    Calls Tryd.prog 45 #[.string ⟨l.toArray⟩, .int .u8 b.toNat] w fun e w' => e = cutE b l ∧ ∃ q, w' = w.drewN q := by
  have b0 := u8_lo b
  have b1 := u8_hi b
  go_enter Tryd.func45, Tryd.ntmps45
  go_wp2
  go_loop [7] (fun t => ∃ k : Nat, t = .int .i64 k ∧ k ≤ l.length ∧ b ∉ l.take k) (fun t => l.length - (intOf t).toNat)
  case atStart => exact ⟨0, rfl, by omega, by simp⟩
  case round =>
    obtain ⟨k, rfl, hk, hn⟩ := hrel
    have HA := hide2 hn
    clear hn
    have k0 : (0 : Int) ≤ k := by omega
    rcases ik : l[k]? with _ | c
    · have hl := len_none ik
      have hle : (l.length : Int) = k := by omega
      have HN : Hid (cutB b l = none) := by
        show _ = _
        have := HA.out
        rw [List.take_of_length_le hl] at this
        exact cutB_none this
      go_wp2
      go_ret3
      refine ⟨?_, 0, by simp [World.drewN]⟩
      rw [cutE, HN.out]
      rfl
    · have ek := ix_eq ik
      have hkl := ix_lt ik
      have hkl' := (List.getElem?_eq_some_iff.1 ik).1
      have hl' : (k : Int) < l.length := by omega
      have lo := u8_lo c
      have hi := u8_hi c
      by_cases hc : (c.toNat : Int) = b.toNat
      · have hcb : c = b := by rw [← UInt8.toNat_inj]; omega
        have HN : Hid (cutB b l = some (l.take k, l.drop (k + 1))) := cutB_at (hcb ▸ ik) HA.out
        clear hcb
        go_wp2
        go_quiet (fail)
        go_wp2
        go_ret3
        refine ⟨?_, nq, rfl⟩
        rw [cutE, HN.out]
        show _ = Ending.returned (.tuple #[.string ⟨(l.take k).toArray⟩, .string ⟨(l.drop (k + 1)).toArray⟩, .bool true])
        rw [← extract_drop, ← extract_take]
        rfl
      · have hcb : c ≠ b := by rintro rfl; exact hc rfl
        have HB := hide2 hcb
        clear hcb
        go_wp2
        go_round
        case rel => exact ⟨k + 1, by go_num, by omega, by rw [take_snoc ik]; simp [HA.out, HB.out.symm]⟩
        case measure => simp [intOf]; omega
theorem isP_unM (p : List UInt8) (h1 : hasM p = true) : p.length = (unM p).length + 1 ∧ ∀ k, dgB p (k + 1) = dgB (unM p) k := by
  have := hasM_cons h1
  generalize unM p = r at *
  subst this
  exact ⟨rfl, fun k => rfl⟩
theorem isP_two (q : List UInt8) (h1 : q.length = 1 ∨ q.length = 2) : (dgs q && decide (q.length ≤ 2)) = (dgB q 0 && dgB q (q.length - 1)) := by
  match q, h1 with
  | [a], _ => simp [dgs, dgB]
  | [a, b], _ => simp [dgs, dgB]
theorem isP_not (q : List UInt8) (h1 : ¬ (q.length = 1 ∨ q.length = 2)) : (dgs q && decide (q.length ≤ 2)) = false := by
  rw [Bool.eq_false_iff]
  intro h
  rw [Bool.and_eq_true, decide_eq_true_eq, dgs_iff] at h
  have : q.length ≠ 0 := fun e => h.1.2 (List.length_eq_zero_iff.1 e)
  omega
theorem dig_at (l : List UInt8) (k : Nat) (z : Int) (hz : (k : Int) = z) (b : Bool) (hb : dgB l k = b) (w : World) (hs : l.length ≤ 2 ^ 47) (hk : k ≤ 3) :
    Calls Tryd.prog 56 #[.string ⟨l.toArray⟩, .int .i64 z] w fun e w' => e = .returned (.bool b) ∧ w' = w := by
  subst hz hb
  exact isDigitAt_any l k w (by omega) (by omega)
theorem dd_of {l : List UInt8} {w : World} {i j : Int} {b1 b2 : Bool} (d1 : Calls Tryd.prog 56 #[.string ⟨l.toArray⟩, .int .i64 i] w fun e w' => e = .returned (.bool b1) ∧ w' = w) (d2 : Calls Tryd.prog 56 #[.string ⟨l.toArray⟩, .int .i64 j] w fun e w' => e = .returned (.bool b2) ∧ w' = w) :
    ∀ (z : Int) (b : Bool), (z = i ∧ b = b1) ∨ (z = j ∧ b = b2) → Calls Tryd.prog 56 #[.string ⟨l.toArray⟩, .int .i64 z] w fun e w' => e = .returned (.bool b) ∧ w' = w := by
  rintro z b (⟨rfl, rfl⟩ | ⟨rfl, rfl⟩)
  · exact d1
  · exact d2
theorem m_at (l : List UInt8) (b : Bool) (hb : hasM l = b) (w : World) (hs : l.length ≤ 2 ^ 47) :
    Calls Tryd.prog 55 #[.string ⟨l.toArray⟩, .int .i64 0, .int .u8 45] w fun e w' => e = .returned (.bool b) ∧ w' = w := by
  have hat := isAt_any l 0 45 w (by omega) (by decide) (by decide)
  have eat : atB l 0 45 = hasM l := by
    cases l with
    | nil => rfl
    | cons c r =>
      show decide ((c.toNat : Int) = 45) = decide (some c = some 45)
      rw [decide_eq_decide]
      simp [← UInt8.toNat_inj]
      omega
  rw [eat, hb] at hat
  exact hat
theorem isPower_true2 (l : List UInt8) (w : World) (hs : l.length ≤ 2 ^ 47) (hm : hasM l = true) (hn : (l.length : Int) = 2) :
    Calls Tryd.prog 57 #[.string ⟨l.toArray⟩] w fun e w' => e = .returned (.bool (dgB l 1 && dgB l 1)) ∧ w' = w := by
  have hat := m_at l _ hm w hs
  have d1 := dig_at l 1 1 rfl
  have d2 := dig_at l 1 1 rfl
  clear hm
  cases h1 : dgB l 1
  all_goals
    have d1 := d1 _ h1 w hs (by decide)
    clear h1 d2
    go_enter Tryd.func57, Tryd.ntmps57
    go_wp2_with (first
      | (go_at_call 55; refine hat.mono ?_; rintro e w' ⟨rfl, rfl⟩)
      | (go_at_call 56; refine d1.mono ?_; rintro e w' ⟨rfl, rfl⟩))
    go_ret
    exact ⟨rfl, rfl⟩
theorem isPower_true3 (l : List UInt8) (w : World) (hs : l.length ≤ 2 ^ 47) (hm : hasM l = true) (hn : (l.length : Int) = 3) :
    Calls Tryd.prog 57 #[.string ⟨l.toArray⟩] w fun e w' => e = .returned (.bool (dgB l 1 && dgB l 2)) ∧ w' = w := by
  have hat := m_at l _ hm w hs
  have d1 := dig_at l 1 1 rfl
  have d2 := dig_at l 2 2 rfl
  clear hm
  cases h1 : dgB l 1 <;> cases h2 : dgB l 2
  all_goals
    have d1 := d1 _ h1 w hs (by decide)
    have d2 := d2 _ h2 w hs (by decide)
    have dd := dd_of d1 d2
    clear h1 h2 d1 d2
    go_enter Tryd.func57, Tryd.ntmps57
    go_wp2_with (first
      | (go_at_call 55; refine hat.mono ?_; rintro e w' ⟨rfl, rfl⟩)
      | (go_at_call 56; refine (dd _ _ (by first | exact .inl ⟨rfl, rfl⟩ | exact .inr ⟨rfl, rfl⟩)).mono ?_; rintro e w' ⟨rfl, rfl⟩))
    go_ret
    exact ⟨rfl, rfl⟩
theorem isPower_false1 (l : List UInt8) (w : World) (hs : l.length ≤ 2 ^ 47) (hm : hasM l = false) (hn : (l.length : Int) = 1) :
    Calls Tryd.prog 57 #[.string ⟨l.toArray⟩] w fun e w' => e = .returned (.bool (dgB l 0 && dgB l 0)) ∧ w' = w := by
  have hat := m_at l _ hm w hs
  have d1 := dig_at l 0 0 rfl
  have d2 := dig_at l 0 0 rfl
  clear hm
  cases h1 : dgB l 0
  all_goals
    have d1 := d1 _ h1 w hs (by decide)
    clear h1 d2
    go_enter Tryd.func57, Tryd.ntmps57
    go_wp2_with (first
      | (go_at_call 55; refine hat.mono ?_; rintro e w' ⟨rfl, rfl⟩)
      | (go_at_call 56; refine d1.mono ?_; rintro e w' ⟨rfl, rfl⟩))
    go_ret
    exact ⟨rfl, rfl⟩
theorem isPower_false2 (l : List UInt8) (w : World) (hs : l.length ≤ 2 ^ 47) (hm : hasM l = false) (hn : (l.length : Int) = 2) :
    Calls Tryd.prog 57 #[.string ⟨l.toArray⟩] w fun e w' => e = .returned (.bool (dgB l 0 && dgB l 1)) ∧ w' = w := by
  have hat := m_at l _ hm w hs
  have d1 := dig_at l 0 0 rfl
  have d2 := dig_at l 1 1 rfl
  clear hm
  cases h1 : dgB l 0 <;> cases h2 : dgB l 1
  all_goals
    have d1 := d1 _ h1 w hs (by decide)
    have d2 := d2 _ h2 w hs (by decide)
    have dd := dd_of d1 d2
    clear h1 h2 d1 d2
    go_enter Tryd.func57, Tryd.ntmps57
    go_wp2_with (first
      | (go_at_call 55; refine hat.mono ?_; rintro e w' ⟨rfl, rfl⟩)
      | (go_at_call 56; refine (dd _ _ (by first | exact .inl ⟨rfl, rfl⟩ | exact .inr ⟨rfl, rfl⟩)).mono ?_; rintro e w' ⟨rfl, rfl⟩))
    go_ret
    exact ⟨rfl, rfl⟩
theorem isPower_truex (l : List UInt8) (w : World) (hs : l.length ≤ 2 ^ 47) (hm : hasM l = true) (h1 : ¬ (l.length : Int) = 2) (h2 : ¬ (l.length : Int) = 3) :
    Calls Tryd.prog 57 #[.string ⟨l.toArray⟩] w fun e w' => e = .returned (.bool false) ∧ w' = w := by
  have hat := m_at l _ hm w hs
  clear hm
  have hs' : (l.length : Int) ≤ 140737488355328 := by omega
  have h0' : 0 ≤ (l.length : Int) := by omega
  have g1 : ((l.length : Int) - 1 != 1) = true := by rw [bne_iff_ne]; omega
  have g2 : ((l.length : Int) - 1 != 2) = true := by rw [bne_iff_ne]; omega
  clear h1 h2
  go_enter Tryd.func57, Tryd.ntmps57
  go_wp2_with (go_at_call 55; refine hat.mono ?_; rintro e w' ⟨rfl, rfl⟩)
  go_ret
  exact ⟨rfl, rfl⟩
theorem isPower_falsex (l : List UInt8) (w : World) (hs : l.length ≤ 2 ^ 47) (hm : hasM l = false) (h1 : ¬ (l.length : Int) = 1) (h2 : ¬ (l.length : Int) = 2) :
    Calls Tryd.prog 57 #[.string ⟨l.toArray⟩] w fun e w' => e = .returned (.bool false) ∧ w' = w := by
  have hat := m_at l _ hm w hs
  clear hm
  have hs' : (l.length : Int) ≤ 140737488355328 := by omega
  have h0' : 0 ≤ (l.length : Int) := by omega
  have g1 : ((l.length : Int) != 1) = true := by rw [bne_iff_ne]; omega
  have g2 : ((l.length : Int) != 2) = true := by rw [bne_iff_ne]; omega
  clear h1 h2
  go_enter Tryd.func57, Tryd.ntmps57
  go_wp2_with (go_at_call 55; refine hat.mono ?_; rintro e w' ⟨rfl, rfl⟩)
  go_ret
  exact ⟨rfl, rfl⟩
theorem isPower_any (l : List UInt8) (w : World) (hs : l.length ≤ 2 ^ 47) :
    Calls Tryd.prog 57 #[.string ⟨l.toArray⟩] w fun e w' => e = .returned (.bool (isP l)) ∧ w' = w := by
  cases hm : hasM l with
  | true =>
    obtain ⟨hl, hk⟩ := isP_unM l hm
    by_cases h12 : (unM l).length = 1 ∨ (unM l).length = 2
    · have HP : isP l = (dgB l 1 && dgB l (l.length - 1)) := by
        rw [isP, isP_two _ h12, ← hk 0, ← hk]
        congr 2
        omega
      rcases h12 with h | h
      · have := isPower_true2 l w hs hm (by omega)
        rw [HP, show l.length - 1 = 1 by omega]
        exact this
      · have := isPower_true3 l w hs hm (by omega)
        rw [HP, show l.length - 1 = 2 by omega]
        exact this
    · rw [isP, isP_not _ h12]
      exact isPower_truex l w hs hm (by omega) (by omega)
  | false =>
    have hu := (hasM_not hm).2
    by_cases h12 : l.length = 1 ∨ l.length = 2
    · have HP : isP l = (dgB l 0 && dgB l (l.length - 1)) := by
        rw [isP, hu, isP_two _ h12]
      rcases h12 with h | h
      · have := isPower_false1 l w hs hm (by omega)
        rw [HP, show l.length - 1 = 0 by omega]
        exact this
      · have := isPower_false2 l w hs hm (by omega)
        rw [HP, show l.length - 1 = 1 by omega]
        exact this
    · rw [isP, hu, isP_not _ h12]
      exact isPower_falsex l w hs hm (by omega) (by omega)
end Go.Proofs.YthfmepnlbaifcaaDoor
