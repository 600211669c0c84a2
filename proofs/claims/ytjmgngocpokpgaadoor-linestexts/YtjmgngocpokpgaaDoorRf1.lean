/-
  The document's own reader: its small parts.
-/
import Derived.Test.YtjmgngocpokpgaaDoorQte
namespace Go.Proofs.YtjmgngocpokpgaaDoor
open Go.RowKit
set_option linter.unusedVariables false
set_option linter.unusedSimpArgs false
theorem skpF_blank {l : List UInt8} {j : Nat} (h : l[j]? = some 32) : skpF l (j + 1) = skpF l j := by
  unfold skpF
  rw [drop_cons h]
  simp [Lib.trimLeftB]
theorem skpF_stop {l : List UInt8} {j : Nat} {c : UInt8} (h : l[j]? = some c) (hc : ¬ c = 32) : skpF l j = j := by
  have hj := ix_lt h
  unfold skpF
  rw [drop_cons h]
  have : Lib.trimLeftB (c :: l.drop (j + 1)) 32 = c :: l.drop (j + 1) := by simp [Lib.trimLeftB, hc]
  rw [this]
  simp
  omega
theorem skpF_end {l : List UInt8} {j : Nat} (h : l[j]? = none) (hj : j ≤ l.length) : skpF l j = j := by
  have := List.getElem?_eq_none_iff.1 h
  obtain rfl : j = l.length := by omega
  unfold skpF
  simp [Lib.trimLeftB]
set_option maxHeartbeats 4000000 in
theorem skip_ref (l : List UInt8) (i : Nat) (w : World) (hs : l.length ≤ 2 ^ 40) (hi : i ≤ l.length) :
    Calls Tryd.prog 33 #[.string ⟨l.toArray⟩, .int .i64 i] w fun e w' => e = .returned (.int .i64 (skpF l i)) ∧ w' = w := by
  go_enter Tryd.func33, Tryd.ntmps33
  go_wp2
  go_loopw [1] (fun t wr => ∃ j : Nat, t = .int .i64 j ∧ j ≤ l.length ∧ skpF l j = skpF l i ∧ wr = w) (fun t _ => l.length - (intOf t).toNat)
  case atStart => exact ⟨i, rfl, hi, rfl, rfl⟩
  case round =>
    obtain ⟨j, rfl, hj, he, rfl⟩ := hrel
    have HE := hide2 he
    clear he
    have j0 : (0 : Int) ≤ j := by omega
    rcases ij : l[j]? with _ | c
    · have hl := len_none ij
      have hl' : ¬ (j : Int) < l.length := by omega
      go_wp2
      go_ret
      exact ⟨ret_int (by rw [← HE.out, skpF_end ij hj]), rfl⟩
    · have ej := ix_eq ij
      have hjl := ix_lt ij
      have hl' : (j : Int) < l.length := by omega
      by_cases hc : (c.toNat : Int) = 32
      · have hc' : c = 32 := UInt8.toNat_inj.1 (by show c.toNat = 32; omega)
        have HB := hide2 (skpF_blank (hc' ▸ ij))
        go_wp2_with fail
        go_roundw
        case rel => exact ⟨j + 1, by go_num, by omega, by rw [HB.out, HE.out], trivial⟩
        case measure => simp [intOf]; omega
      · have hc' : ¬ c = 32 := fun e => hc (by rw [e]; rfl)
        go_wp2
        go_ret
        exact ⟨ret_int (by rw [← HE.out, skpF_stop ij hc']), rfl⟩
theorem nothing_ref (l : List UInt8) (i : Nat) (w : World) (hs : l.length ≤ 2 ^ 40) (hi : i ≤ l.length) :
    Calls Tryd.prog 34 #[.string ⟨l.toArray⟩, .int .i64 i] w fun e w' => e = .returned (.bool (ovrF (l.drop i))) ∧ w' = w := by
  have i0 : (0 : Int) ≤ i := by omega
  rcases ij : l[i]? with _ | c
  · have hl := len_none ij
    have hl' : (l.length : Int) ≤ i := hl
    have hd : l.drop i = [] := List.drop_eq_nil_of_le (by omega)
    go_enter Tryd.func34, Tryd.ntmps34
    go_wp2
    go_ret
    exact ⟨ret_bool (by rw [hd]; rfl), rfl⟩
  · have ej := ix_eq ij
    have hjl := ix_lt ij
    have hl' : ¬ (l.length : Int) ≤ i := by omega
    have hd := drop_cons ij
    go_enter Tryd.func34, Tryd.ntmps34
    go_wp2
    go_ret
    refine ⟨ret_bool ?_, rfl⟩
    first | (simp [ovrF]; done) | (rw [Bool.eq_iff_iff]; simp [ovrF])
theorem letter_ref (c : Int) (h0 : 0 ≤ c) (h1 : c ≤ 255) (w : World) : Calls Tryd.prog 54 #[.int .u8 c] w fun e w' => e = .returned (.bool (namF c)) ∧ w' = w := by
  go_enter Tryd.func54, Tryd.ntmps54
  go_wp2
  all_goals go_ret
  all_goals refine ⟨ret_bool ?_, rfl⟩
  all_goals rw [Bool.eq_iff_iff]
  all_goals simp [namF]
  all_goals omega
def digF (l : List UInt8) (i : Nat) : Int := match l[i]? with
  | none => -1
  | some c => hexI c
theorem hexI_hit : ∀ k : Fin 16, hexI (hexD k.val) = k.val := by decide +kernel
theorem hexI_miss : ∀ n : Fin 256, (∀ j : Fin 16, ¬ hexD j.val = UInt8.ofNat n.val) → hexI (UInt8.ofNat n.val) = -1 := by decide +kernel
theorem hex_at2 (k : Nat) (h : k < 16) : (ByteArray.mk #[48, 49, 50, 51, 52, 53, 54, 55, 56, 57, 97, 98, 99, 100, 101, 102])[k]'h = hexD k := hexes ⟨k, h⟩
set_option maxHeartbeats 4000000 in
theorem digit_ref (l : List UInt8) (i : Nat) (w : World) (hs : l.length ≤ 2 ^ 40) (hi : i ≤ l.length + 8) :
    Calls Tryd.prog 85 #[.string ⟨l.toArray⟩, .int .i64 i] w fun e w' => e = .returned (.int .i64 (digF l i)) ∧ ∃ q, w' = w.drewN q := by
  have i0 : (0 : Int) ≤ i := by omega
  rcases ij : l[i]? with _ | c
  · have hl := len_none ij
    have hl' : (l.length : Int) ≤ i := hl
    go_enter Tryd.func85, Tryd.ntmps85
    go_wp2
    go_ret
    exact ⟨ret_int (by simp [digF, ij]), 0, rfl⟩
  · have ej := ix_eq ij
    have hjl := ix_lt ij
    have hl' : ¬ (l.length : Int) ≤ i := by omega
    have hil : (i : Int) < l.length := by omega
    have HD : Hid (digF l i = hexI c) := by show _ = _; simp [digF, ij]
    go_enter Tryd.func85, Tryd.ntmps85
    go_wp2
    go_loopw [5] (fun t wr => ∃ k : Nat, t = .int .i64 k ∧ k ≤ 16 ∧ (∀ j, j < k → ¬ hexD j = c) ∧ ∃ q, wr = w.drewN q) (fun t _ => 16 - (intOf t).toNat)
    case atStart => exact ⟨0, rfl, by omega, fun j hj => by omega, 0, rfl⟩
    case round =>
      obtain ⟨k, rfl, hk, hno, q, rfl⟩ := hrel
      have HNO := hide2 hno
      clear hno
      have k0 : (0 : Int) ≤ k := by omega
      by_cases hk2 : k < 16
      · have hk3 : (k : Int) < 16 := by omega
        have ek := hex_at2 k hk2
        by_cases hh : hexD k = c
        · have hh2 : ((hexD k).toNat : Int) = c.toNat := by rw [hh]
          go_wp2_with fail
          go_quiet (fail)
          go_wp2
          go_ret
          refine ⟨ret_int ?_, q + nq, by simp⟩
          rw [HD.out, ← hh]
          exact (hexI_hit ⟨k, hk2⟩).symm
        · have hh2 : ¬ ((hexD k).toNat : Int) = c.toNat := fun e => hh (UInt8.toNat_inj.1 (by omega))
          go_wp2_with fail
          go_quiet (fail)
          go_wp2_with fail
          go_roundw
          case rel => exact ⟨k + 1, by go_num, by omega, fun j hj => by rcases Nat.lt_succ_iff_lt_or_eq.1 hj with h | rfl; exact HNO.out j h; exact hh, q + nq, by simp⟩
          case measure => simp [intOf]; omega
      · have hk3 : ¬ (k : Int) < 16 := by omega
        go_wp2
        go_ret
        refine ⟨ret_int ?_, q, rfl⟩
        rw [HD.out]
        have := hexI_miss ⟨c.toNat, c.toNat_lt⟩ (fun j e => HNO.out j.val (by omega) (by simpa using e))
        simpa using this.symm
end Go.Proofs.YtjmgngocpokpgaaDoor
