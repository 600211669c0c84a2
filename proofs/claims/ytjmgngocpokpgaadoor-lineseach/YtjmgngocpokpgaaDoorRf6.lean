/-
  The document's own reader: what may begin a plain scalar.
-/
import Derived.Test.YtjmgngocpokpgaaDoorRf5
namespace Go.Proofs.YtjmgngocpokpgaaDoor
open Go.RowKit
set_option linter.unusedVariables false
set_option linter.unusedSimpArgs false
def badL : List UInt8 := [34, 39, 35, 44, 91, 93, 123, 125, 38, 42, 33, 124, 62, 37, 64, 63, 58, 96]
def badD (k : Nat) : UInt8 := badL.getD k 0
def fstF (c : UInt8) (d : List UInt8) : Bool := decide (∀ j : Fin 18, ¬ badD j.val = c) && !(itmF d)
theorem bads : ∀ k : Fin 18, (ByteArray.mk #[34, 39, 35, 44, 91, 93, 123, 125, 38, 42, 33, 124, 62, 37, 64, 63, 58, 96])[k.val]'k.2 = badD k.val := by decide +kernel
theorem bad_at (k : Nat) (h : k < 18) : (ByteArray.mk #[34, 39, 35, 44, 91, 93, 123, 125, 38, 42, 33, 124, 62, 37, 64, 63, 58, 96])[k]'h = badD k := bads ⟨k, h⟩
theorem itm_not {l : List UInt8} {i : Nat} {c : UInt8} (h : l[i]? = some c) (hc : ¬ (c.toNat : Int) = 45) : itmF (l.drop i) = false := by
  have hc' : ¬ c = 45 := fun e => hc (by rw [e]; rfl)
  rw [drop_cons h]
  simp [itmF, Lib.hasPrefix, List.isPrefixOf, hc', Ne.symm hc']
theorem itm_last {l : List UInt8} {i : Nat} {c : UInt8} (h : l[i]? = some c) (hc : (c.toNat : Int) = 45) (h2 : l[i + 1]? = none) : itmF (l.drop i) = true := by
  have hc' : c = 45 := UInt8.toNat_inj.1 (by show c.toNat = 45; omega)
  rw [drop_cons h, List.drop_eq_nil_of_le (List.getElem?_eq_none_iff.1 h2), hc']
  rfl
theorem itm_two {l : List UInt8} {i : Nat} {c e : UInt8} (h : l[i]? = some c) (hc : (c.toNat : Int) = 45) (h2 : l[i + 1]? = some e) : itmF (l.drop i) = decide ((e.toNat : Int) = 32) := by
  have hc' : c = 45 := UInt8.toNat_inj.1 (by show c.toNat = 45; omega)
  rw [drop_cons h, drop_cons h2, hc']
  have : (e = 32) ↔ (e.toNat : Int) = 32 := ⟨fun e' => by rw [e']; rfl, fun e' => UInt8.toNat_inj.1 (by show e.toNat = 32; omega)⟩
  rw [Bool.eq_iff_iff]
  simp [itmF, Lib.hasPrefix, List.isPrefixOf, ← this]
  exact eq_comm
set_option maxRecDepth 100000 in
set_option maxHeartbeats 4000000 in
theorem first_ref (l : List UInt8) (i : Nat) (c : UInt8) (w : World) (hs : l.length ≤ 2 ^ 40) (ip : l[i]? = some c) :
    Calls Tryd.prog 55 #[.string ⟨l.toArray⟩, .int .i64 i] w fun e w' => e = .returned (.bool (fstF c (l.drop i))) ∧ ∃ q, w' = w.drewN q := by
  have ej := ix_eq ip
  have hil := ix_lt ip
  have i0 : (0 : Int) ≤ i := by omega
  have hpl : (i : Int) < l.length := by omega
  go_enter Tryd.func55, Tryd.ntmps55
  go_wp2
  go_loopw [6] (fun t wr => ∃ k : Nat, t = .int .i64 k ∧ k ≤ 18 ∧ (∀ j, j < k → ¬ badD j = c) ∧ ∃ q, wr = w.drewN q) (fun t _ => 18 - (intOf t).toNat)
  case atStart => exact ⟨0, rfl, by omega, fun j hj => by omega, 0, rfl⟩
  case round =>
    obtain ⟨k, rfl, hk, hno, q, rfl⟩ := hrel
    have HNO := hide2 hno
    clear hno
    have k0 : (0 : Int) ≤ k := by omega
    by_cases hk2 : k < 18
    · have hk3 : (k : Int) < 18 := by omega
      have ek := bad_at k hk2
      by_cases hh : badD k = c
      · have hh2 : (c.toNat : Int) = (badD k).toNat := by rw [hh]
        have hh3 : ((c.toNat : Int) == ((badD k).toNat : Int)) = true := by rw [beq_iff_eq]; exact hh2
        clear hh2
        have HF : Hid (fstF c (l.drop i) = false) := by
          show _ = _
          unfold fstF
          rw [decide_eq_false (fun h => h ⟨k, hk2⟩ hh), Bool.false_and]
        go_wp2_with fail
        go_quiet (fail)
        go_wp2
        go_ret
        exact ⟨ret_bool HF.out.symm, q + nq, by simp⟩
      · have hh2 : ¬ (c.toNat : Int) = (badD k).toNat := fun e => hh (UInt8.toNat_inj.1 (by omega))
        have hh3 : ((c.toNat : Int) == ((badD k).toNat : Int)) = false := by rw [beq_eq_false_iff_ne]; exact hh2
        go_wp2_with fail
        go_quiet (fail)
        go_wp2_with fail
        go_roundw
        case rel => exact ⟨k + 1, by go_num, by omega, fun j hj => by rcases Nat.lt_succ_iff_lt_or_eq.1 hj with h | rfl; exact HNO.out j h; exact hh, q + nq, by simp⟩
        case measure => simp [intOf]; omega
    · have hk3 : ¬ (k : Int) < 18 := by omega
      have HF : Hid (fstF c (l.drop i) = !(itmF (l.drop i))) := by
        show _ = _
        unfold fstF
        have hall : ∀ j : Fin 18, ¬ badD j.val = c := fun j => HNO.out j.val (by have := j.2; omega)
        rw [decide_eq_true hall, Bool.true_and]
      by_cases h45 : (c.toNat : Int) = 45
      · rcases ik1 : l[i + 1]? with _ | y
        · rw [itm_last ip h45 ik1] at HF
          have kl3 := len_none ik1
          have kl4 : ¬ (i : Int) + 1 < l.length := by omega
          go_wp2
          go_ret
          exact ⟨ret_bool (by rw [HF.out]; rfl), q, rfl⟩
        · rw [itm_two ip h45 ik1] at HF
          have ey := ix_eq ik1
          have kl3 := ix_lt ik1
          have kl4 : (i : Int) + 1 < l.length := by omega
          have kl5 : ((i : Int) + 1).toNat = i + 1 := by omega
          by_cases hy : (y.toNat : Int) = 32
          · rw [decide_eq_true hy] at HF
            go_wp2
            go_ret
            exact ⟨ret_bool (by rw [HF.out]; simp), q, rfl⟩
          · rw [decide_eq_false hy] at HF
            have hyc : ((y.toNat : Int) != 32) = true := by rw [bne_iff_ne]; exact hy
            go_wp2
            go_ret
            exact ⟨ret_bool (by rw [HF.out]; simp), q, rfl⟩
      · rw [itm_not ip h45] at HF
        have hcc : ((c.toNat : Int) != 45) = true := by rw [bne_iff_ne]; exact h45
        go_wp2
        go_ret
        exact ⟨ret_bool (by rw [HF.out]; simp), q, rfl⟩
end Go.Proofs.YtjmgngocpokpgaaDoor
