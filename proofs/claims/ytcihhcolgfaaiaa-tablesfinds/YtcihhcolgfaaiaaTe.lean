/-
  Lists compared.
-/
import Derived.Test.YtcihhcolgfaaiaaTb
namespace Go.Proofs.Ytcihhcolgfaaiaa
open Go.RowKit
set_option linter.unusedVariables false
set_option linter.unusedSimpArgs false
set_option maxRecDepth 100000
set_option maxHeartbeats 8000000 in
theorem equalS_any (w : World) (a b : Option Addr) (n m c1 c2 : Nat) (cs ds : List ByteArray) (hn : cs.length = n) (hm : ds.length = m) (hl : n ≤ 140737488355328) (h1 : Cel w a 1 (cs.map strR)) (h2 : Cel w b 1 (ds.map strR)) :
    Calls Try.prog 12 #[.slice a n c1, .slice b m c2] w fun e w' => e = .returned (.bool (eqL strB cs ds)) ∧ ∃ q, w' = w.drewN q := by
  have HN := hideL hn
  have HM := hideL hm
  have H1 := hideL h1
  have H2 := hideL h2
  obtain ⟨R, hR⟩ : ∃ R, eqL strB cs ds = R := ⟨_, rfl⟩
  have HR := hideL hR
  rw [hR]
  clear hn hm h1 h2 hR
  go_enter Try.func12, Try.ntmps12
  by_cases hnm : n = m
  · subst hnm
    go_wp2_with fail
    go_loopw [13] (fun t wr => ∃ (i : Nat), t = .int .i64 i ∧ i ≤ n ∧ (∃ q, wr = w.drewN q) ∧ Hid (∀ (j : Nat) c d, j < i → cs[j]? = some c → ds[j]? = some d → strB c d = true)) (fun t _ => n - (intOf t).toNat)
    case atStart => exact ⟨0, rfl, by omega, ⟨0, rfl⟩, fun j c d hj _ => by omega⟩
    case round =>
      obtain ⟨i, rfl, hi, ⟨q, rfl⟩, HF⟩ := hrel
      have i0 : (0 : Int) ≤ i := by omega
      by_cases h3 : i < n
      · have h3' : (i : Int) < n := by omega
        rcases hki : cs[i]? with _ | k
        · have := List.getElem?_eq_none_iff.1 hki; have := HN.out; omega
        rcases hkj : ds[i]? with _ | k2
        · have := List.getElem?_eq_none_iff.1 hkj; have := HM.out; omega
        obtain ⟨g, off, rfl, hcx⟩ := H1.out.at_ hki
        obtain ⟨g', off', rfl, hcy⟩ := H2.out.at_ hkj
        have c0 := hcx 0 _ rfl
        have d0 := hcy 0 _ rfl
        rw [Nat.add_zero, Nat.mul_one] at c0 d0
        have HK := hideL hki
        have HJ := hideL hkj
        clear hki hkj hcx hcy
        obtain ⟨bb, hbb⟩ : ∃ bb, strB k k2 = bb := ⟨_, rfl⟩
        have HBB := hideL hbb
        have hq : (k.toList == k2.toList) = bb := hbb
        clear hbb
        cases bb
        · have HE : Hid (R = false) := by unfold Hid; rw [← HR.out]; exact eqL_no HK.out HJ.out HBB.out
          go_wp2_with fail
          go_quiet (fail)
          go_wp2
          go_ret
          exact ⟨by rw [HE.out]; rfl, _, drew_two _ _ _⟩
        · go_wp2_with fail
          go_quiet (fail)
          go_wp2
          go_roundw
          case rel =>
            refine ⟨i + 1, by go_num, by omega, ⟨q + nq, rfl⟩, fun j c d hj hc hd => ?_⟩
            by_cases hji : j < i
            · exact HF.out j c d hji hc hd
            · obtain rfl : j = i := by omega
              rw [HK.out] at hc; rw [HJ.out] at hd
              cases hc; cases hd; exact HBB.out
          case measure => simp [intOf]; omega
      · have h3' : ¬ (i : Int) < n := by omega
        have HE : Hid (R = true) := by
          unfold Hid; rw [← HR.out]
          exact eqL_yes (by rw [HN.out, HM.out]) (fun j c d hj hc hd => HF.out j c d (by have := HN.out; omega) hc hd)
        go_wp2
        go_ret
        exact ⟨by rw [HE.out]; rfl, _, rfl⟩
  · have hnm' : ¬ (n : Int) = m := by omega
    have HE : Hid (R = false) := by
      unfold Hid; rw [← HR.out]
      exact eqL_len (by rw [HN.out, HM.out]; exact hnm)
    go_wp2
    go_ret
    exact ⟨by rw [HE.out]; rfl, 0, rfl⟩
set_option maxHeartbeats 8000000 in
theorem equalP_any (w : World) (a b : Option Addr) (n m c1 c2 : Nat) (cs ds : List Pm) (hn : cs.length = n) (hm : ds.length = m) (hl : n ≤ 140737488355328) (h1 : Cel w a 3 (cs.map Pm.row)) (h2 : Cel w b 3 (ds.map Pm.row)) :
    Calls Try.prog 22 #[.slice a n c1, .slice b m c2] w fun e w' => e = .returned (.bool (eqL pmB cs ds)) ∧ ∃ q, w' = w.drewN q := by
  have HN := hideL hn
  have HM := hideL hm
  have H1 := hideL h1
  have H2 := hideL h2
  obtain ⟨R, hR⟩ : ∃ R, eqL pmB cs ds = R := ⟨_, rfl⟩
  have HR := hideL hR
  rw [hR]
  clear hn hm h1 h2 hR
  go_enter Try.func22, Try.ntmps22
  by_cases hnm : n = m
  · subst hnm
    go_wp2_with fail
    go_loopw [13] (fun t wr => ∃ (i : Nat), t = .int .i64 i ∧ i ≤ n ∧ (∃ q, wr = w.drewN q) ∧ Hid (∀ (j : Nat) c d, j < i → cs[j]? = some c → ds[j]? = some d → pmB c d = true)) (fun t _ => n - (intOf t).toNat)
    case atStart => exact ⟨0, rfl, by omega, ⟨0, rfl⟩, fun j c d hj _ => by omega⟩
    case round =>
      obtain ⟨i, rfl, hi, ⟨q, rfl⟩, HF⟩ := hrel
      have i0 : (0 : Int) ≤ i := by omega
      by_cases h3 : i < n
      · have h3' : (i : Int) < n := by omega
        rcases hki : cs[i]? with _ | k
        · have := List.getElem?_eq_none_iff.1 hki; have := HN.out; omega
        rcases hkj : ds[i]? with _ | k2
        · have := List.getElem?_eq_none_iff.1 hkj; have := HM.out; omega
        obtain ⟨g, off, rfl, hcx⟩ := H1.out.at_ hki
        obtain ⟨g', off', rfl, hcy⟩ := H2.out.at_ hkj
        have c0 := hcx 0 _ rfl
        have d0 := hcy 0 _ rfl
        have c1 := hcx 1 _ rfl
        have d1 := hcy 1 _ rfl
        have c2 := hcx 2 _ rfl
        have d2 := hcy 2 _ rfl
        rw [Nat.add_zero] at c0 d0
        have HK := hideL hki
        have HJ := hideL hkj
        clear hki hkj hcx hcy
        obtain ⟨bb, hbb⟩ : ∃ bb, pmB k k2 = bb := ⟨_, rfl⟩
        have HBB := hideL hbb
        have hq : ∀ W, (binOp .neq 54 (.agg #[.string k.pa, .string k.me, .bool k.al]) (.agg #[.string k2.pa, .string k2.me, .bool k2.al])).run Try.prog W = .ok (.bool (!bb)) W := fun W => by rw [← hbb]; exact neqPm k k2 W
        clear hbb
        cases bb
        · have HE : Hid (R = false) := by unfold Hid; rw [← HR.out]; exact eqL_no HK.out HJ.out HBB.out
          go_wp2_with fail
          go_quiet (fail)
          go_wp2
          go_ret
          exact ⟨by rw [HE.out]; rfl, _, drew_two _ _ _⟩
        · go_wp2_with fail
          go_quiet (fail)
          go_wp2
          go_roundw
          case rel =>
            refine ⟨i + 1, by go_num, by omega, ⟨q + nq, rfl⟩, fun j c d hj hc hd => ?_⟩
            by_cases hji : j < i
            · exact HF.out j c d hji hc hd
            · obtain rfl : j = i := by omega
              rw [HK.out] at hc; rw [HJ.out] at hd
              cases hc; cases hd; exact HBB.out
          case measure => simp [intOf]; omega
      · have h3' : ¬ (i : Int) < n := by omega
        have HE : Hid (R = true) := by
          unfold Hid; rw [← HR.out]
          exact eqL_yes (by rw [HN.out, HM.out]) (fun j c d hj hc hd => HF.out j c d (by have := HN.out; omega) hc hd)
        go_wp2
        go_ret
        exact ⟨by rw [HE.out]; rfl, _, rfl⟩
  · have hnm' : ¬ (n : Int) = m := by omega
    have HE : Hid (R = false) := by
      unfold Hid; rw [← HR.out]
      exact eqL_len (by rw [HN.out, HM.out]; exact hnm)
    go_wp2
    go_ret
    exact ⟨by rw [HE.out]; rfl, 0, rfl⟩
set_option maxHeartbeats 8000000 in
theorem equalH_any (w : World) (a b : Option Addr) (n m c1 c2 : Nat) (cs ds : List Sh) (hn : cs.length = n) (hm : ds.length = m) (hl : n ≤ 140737488355328) (h1 : Cel w a 2 (cs.map Sh.row)) (h2 : Cel w b 2 (ds.map Sh.row)) :
    Calls Try.prog 28 #[.slice a n c1, .slice b m c2] w fun e w' => e = .returned (.bool (eqL shB cs ds)) ∧ ∃ q, w' = w.drewN q := by
  have HN := hideL hn
  have HM := hideL hm
  have H1 := hideL h1
  have H2 := hideL h2
  obtain ⟨R, hR⟩ : ∃ R, eqL shB cs ds = R := ⟨_, rfl⟩
  have HR := hideL hR
  rw [hR]
  clear hn hm h1 h2 hR
  go_enter Try.func28, Try.ntmps28
  by_cases hnm : n = m
  · subst hnm
    go_wp2_with fail
    go_loopw [13] (fun t wr => ∃ (i : Nat), t = .int .i64 i ∧ i ≤ n ∧ (∃ q, wr = w.drewN q) ∧ Hid (∀ (j : Nat) c d, j < i → cs[j]? = some c → ds[j]? = some d → shB c d = true)) (fun t _ => n - (intOf t).toNat)
    case atStart => exact ⟨0, rfl, by omega, ⟨0, rfl⟩, fun j c d hj _ => by omega⟩
    case round =>
      obtain ⟨i, rfl, hi, ⟨q, rfl⟩, HF⟩ := hrel
      have i0 : (0 : Int) ≤ i := by omega
      by_cases h3 : i < n
      · have h3' : (i : Int) < n := by omega
        rcases hki : cs[i]? with _ | k
        · have := List.getElem?_eq_none_iff.1 hki; have := HN.out; omega
        rcases hkj : ds[i]? with _ | k2
        · have := List.getElem?_eq_none_iff.1 hkj; have := HM.out; omega
        obtain ⟨g, off, rfl, hcx⟩ := H1.out.at_ hki
        obtain ⟨g', off', rfl, hcy⟩ := H2.out.at_ hkj
        have c0 := hcx 0 _ rfl
        have d0 := hcy 0 _ rfl
        have c1 := hcx 1 _ rfl
        have d1 := hcy 1 _ rfl
        rw [Nat.add_zero] at c0 d0
        have HK := hideL hki
        have HJ := hideL hkj
        clear hki hkj hcx hcy
        obtain ⟨bb, hbb⟩ : ∃ bb, shB k k2 = bb := ⟨_, rfl⟩
        have HBB := hideL hbb
        have hq : ∀ W, (binOp .neq 60 (.agg #[.string k.sv, .float .f64 k.up]) (.agg #[.string k2.sv, .float .f64 k2.up])).run Try.prog W = .ok (.bool (!bb)) W := fun W => by rw [← hbb]; exact neqSh k k2 W
        clear hbb
        cases bb
        · have HE : Hid (R = false) := by unfold Hid; rw [← HR.out]; exact eqL_no HK.out HJ.out HBB.out
          go_wp2_with fail
          go_quiet (fail)
          go_wp2
          go_ret
          exact ⟨by rw [HE.out]; rfl, _, drew_two _ _ _⟩
        · go_wp2_with fail
          go_quiet (fail)
          go_wp2
          go_roundw
          case rel =>
            refine ⟨i + 1, by go_num, by omega, ⟨q + nq, rfl⟩, fun j c d hj hc hd => ?_⟩
            by_cases hji : j < i
            · exact HF.out j c d hji hc hd
            · obtain rfl : j = i := by omega
              rw [HK.out] at hc; rw [HJ.out] at hd
              cases hc; cases hd; exact HBB.out
          case measure => simp [intOf]; omega
      · have h3' : ¬ (i : Int) < n := by omega
        have HE : Hid (R = true) := by
          unfold Hid; rw [← HR.out]
          exact eqL_yes (by rw [HN.out, HM.out]) (fun j c d hj hc hd => HF.out j c d (by have := HN.out; omega) hc hd)
        go_wp2
        go_ret
        exact ⟨by rw [HE.out]; rfl, _, rfl⟩
  · have hnm' : ¬ (n : Int) = m := by omega
    have HE : Hid (R = false) := by
      unfold Hid; rw [← HR.out]
      exact eqL_len (by rw [HN.out, HM.out]; exact hnm)
    go_wp2
    go_ret
    exact ⟨by rw [HE.out]; rfl, 0, rfl⟩
end Go.Proofs.Ytcihhcolgfaaiaa
