/-
  Small functions of package paths: bytes asked, texts made of such.
-/
import Derived.Test.YtmljljpldljpjaaKBase
import Derived.Test.YtmljljpldljpjaaKShf
import Derived.Deep.QuietTactic
import Derived.BigQuiet
namespace Go.Proofs.Ytmljljpldljpjaa.Kk
open Go.RowKit
set_option linter.unusedVariables false
set_option linter.unusedSimpArgs false
theorem hide2 {p : Prop} (h : p) : Hid p := h
def greF (c : Int) : Bool := decide (65 ≤ c ∧ c ≤ 90)
def hosF (c : Int) : Bool := decide (65 ≤ c ∧ c ≤ 90 ∨ 97 ≤ c ∧ c ≤ 122 ∨ 48 ≤ c ∧ c ≤ 57 ∨ c = 45 ∨ c = 46)
def patF (c : Int) : Bool := decide (33 ≤ c ∧ c ≤ 126)
def smlI (c : Int) : Int := if greF c then c + 32 else c
theorem ret_bool {a b : Bool} (h : a = b) : Ending.returned (.bool a) = .returned (.bool b) := by rw [h]
theorem ret_int {k : IntKind} {a b : Int} (h : a = b) : Ending.returned (.int k a) = .returned (.int k b) := by rw [h]
theorem ret_str {a b : List UInt8} (h : a = b) : Ending.returned (.string ⟨a.toArray⟩) = .returned (.string ⟨b.toArray⟩) := by rw [h]
theorem u8_lo (c : UInt8) : (0 : Int) ≤ (c.toNat : Int) := by omega
theorem u8_hi (c : UInt8) : (c.toNat : Int) ≤ 255 := by have := c.toNat_lt; omega
theorem inPath_any (c : Int) (h0 : 0 ≤ c) (h1 : c ≤ 255) (w : World) : Calls Try.prog 103 #[.int .u8 c] w fun e w' => e = .returned (.bool (patF c)) ∧ w' = w := by
  go_enter Try.func103, Try.ntmps103
  go_wp2
  all_goals
    go_ret
    refine ⟨ret_bool ?_, rfl⟩
    simp only [patF]
    first
      | (symm; rw [decide_eq_true_eq]; omega)
      | (symm; rw [decide_eq_false_iff_not]; omega)
      | (rw [Bool.eq_iff_iff]; simp; done) | (rw [Bool.eq_iff_iff]; simp; omega)
def madF (p : Int → Bool) (l : List UInt8) : Bool := l.all (fun c => p c.toNat) && !l.isEmpty
theorem take_one (l : List UInt8) (k : Nat) (h : k < l.length) : l.take (k + 1) = l.take k ++ [l[k]] := by
  rw [List.take_succ_eq_append_getElem h]
theorem madF_true {p : Int → Bool} {l : List UInt8} (h : ∀ k (hk : k < l.length), p (l[k].toNat : Int) = true) : madF p l = !l.isEmpty := by
  have : l.all (fun c => p c.toNat) = true := by
    rw [List.all_eq_true]
    intro c hc
    obtain ⟨k, hk, rfl⟩ := List.getElem_of_mem hc
    exact h k hk
  rw [madF, this]; rfl
theorem madF_false {p : Int → Bool} {l : List UInt8} {k : Nat} (hk : k < l.length) (h : p (l[k].toNat : Int) = false) : madF p l = false := by
  have : l.all (fun c => p c.toNat) = false := by
    rw [List.all_eq_false]
    exact ⟨l[k], List.getElem_mem hk, by simp [h]⟩
  rw [madF, this]; rfl
set_option maxHeartbeats 1000000 in
theorem made_path (l : List UInt8) (w : World) (hs : l.length ≤ 2 ^ 62) :
    Calls Try.prog 102 #[.string ⟨l.toArray⟩, .func (.func 103) #[] #[]] w fun e w' => e = .returned (.bool (madF patF l)) ∧ w' = w := by
  go_enter Try.func102, Try.ntmps102
  go_wp2
  go_loop [8] (fun i => ∃ k : Nat, k ≤ l.length ∧ i = .int .i64 k ∧ ∀ j (hj : j < k) (hk : j < l.length), patF (l[j].toNat : Int) = true) (fun i => l.length - (intOf i).toNat)
  case atStart => exact ⟨0, Nat.zero_le _, rfl, fun j hj => by omega⟩
  case round =>
    obtain ⟨k, hk, rfl, hall⟩ := hrel
    have HA := hide2 hall
    clear hall
    have k0 : (0 : Int) ≤ k := by omega
    by_cases hlt : k < l.length
    · have hlt' : (k : Int) < l.length := by omega
      have hI := inPath_any (l[k].toNat : Int) (u8_lo _) (u8_hi _) w
      cases hp : patF (l[k].toNat : Int) with
      | true =>
        have HP := hide2 hp
        rw [hp] at hI
        clear hp
        go_wp2_with (go_at_call 103; refine hI.mono ?_; rintro e w' ⟨rfl, rfl⟩)
        go_round
        case rel =>
          refine ⟨k + 1, by omega, by go_num, fun j hj hk => ?_⟩
          rcases Nat.lt_succ_iff_lt_or_eq.1 hj with h | rfl
          · exact HA.out j h hk
          · exact HP.out
        case measure => simp [intOf]; omega
      | false =>
        have HP := hide2 hp
        rw [hp] at hI
        clear hp
        go_wp2_with (go_at_call 103; refine hI.mono ?_; rintro e w' ⟨rfl, rfl⟩)
        go_ret
        exact ⟨ret_bool (madF_false hlt HP.out).symm, rfl⟩
    · have hlt' : ¬ (k : Int) < l.length := by omega
      have HM : Hid (madF patF l = !l.isEmpty) := madF_true fun j hj => HA.out j (by omega) hj
      go_wp2
      go_ret
      exact ⟨ret_bool (by rw [HM.out]), rfl⟩
end Go.Proofs.Ytmljljpldljpjaa.Kk
