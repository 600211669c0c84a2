/-
  Small functions of package paths: bytes asked, texts made of such.
-/
import Derived.Test.YtfhobglcploaoaaDoorKBase
import Derived.Test.YtfhobglcploaoaaDoorKShf
import Derived.Deep.QuietTactic
import Derived.BigQuiet
namespace Go.Proofs.YtfhobglcploaoaaDoor.Kk
open Go.RowKit
set_option linter.unusedVariables false
set_option linter.unusedSimpArgs false
theorem hide2 {p : Prop} (h : p) : Hid p := h
def greF (c : Int) : Bool := decide (65 ≤ c ∧ c ≤ 90)
def hosF (c : Int) : Bool := decide (65 ≤ c ∧ c ≤ 90 ∨ 97 ≤ c ∧ c ≤ 122 ∨ 48 ≤ c ∧ c ≤ 57 ∨ c = 45 ∨ c = 46)
def patF (c : Int) : Bool := decide (33 ≤ c ∧ c ≤ 126)
def smlI (c : Int) : Int := if greF c then c + 32 else c
theorem ret_bool {a b : Bool} (h : a = b) : Ending.returned (.bool a) = .returned (.bool b) := by rw [h]
theorem ret_int {k : IntKind} {a b : Int} (h : a = b) : Ending.returned (.int k a) = .returned (.int k b) := by rw [h]
theorem ret_str {a b : List UInt8} (h : a = b) : Ending.returned (.string ⟨a.toArray⟩) = .returned (.string ⟨b.toArray⟩) := by rw [h]
theorem u8_lo (c : UInt8) : (0 : Int) ≤ (c.toNat : Int) := by omega
theorem u8_hi (c : UInt8) : (c.toNat : Int) ≤ 255 := by have := c.toNat_lt; omega
theorem isGreat_any (c : Int) (h0 : 0 ≤ c) (h1 : c ≤ 255) (w : World) : Calls Tryd.prog 53 #[.int .u8 c] w fun e w' => e = .returned (.bool (greF c)) ∧ w' = w := by
  go_enter Tryd.func53, Tryd.ntmps53
  go_wp2
  all_goals
    go_ret
    refine ⟨ret_bool ?_, rfl⟩
    simp only [greF]
    first
      | (symm; rw [decide_eq_true_eq]; omega)
      | (symm; rw [decide_eq_false_iff_not]; omega)
      | (rw [Bool.eq_iff_iff]; simp; done) | (rw [Bool.eq_iff_iff]; simp; omega)
theorem inPath_any (c : Int) (h0 : 0 ≤ c) (h1 : c ≤ 255) (w : World) : Calls Tryd.prog 57 #[.int .u8 c] w fun e w' => e = .returned (.bool (patF c)) ∧ w' = w := by
  go_enter Tryd.func57, Tryd.ntmps57
  go_wp2
  all_goals
    go_ret
    refine ⟨ret_bool ?_, rfl⟩
    simp only [patF]
    first
      | (symm; rw [decide_eq_true_eq]; omega)
      | (symm; rw [decide_eq_false_iff_not]; omega)
      | (rw [Bool.eq_iff_iff]; simp; done) | (rw [Bool.eq_iff_iff]; simp; omega)
theorem inHost_any (c : Int) (h0 : 0 ≤ c) (h1 : c ≤ 255) (w : World) : Calls Tryd.prog 52 #[.int .u8 c] w fun e w' => e = .returned (.bool (hosF c)) ∧ w' = w := by
  by_cases hg : greF c = true
  · go_enter Tryd.func52, Tryd.ntmps52
    go_wp2_with (go_at_call 53; refine (isGreat_any _ h0 h1 _).mono ?_; rintro e w' ⟨rfl, rfl⟩)
    go_ret
    refine ⟨ret_bool ?_, rfl⟩
    simp only [hosF]
    simp only [greF, decide_eq_true_eq] at hg
    symm; rw [decide_eq_true_eq]; omega
  · have hg' : greF c = false := Bool.not_eq_true _ ▸ hg
    go_enter Tryd.func52, Tryd.ntmps52
    go_wp2_with (go_at_call 53; refine (isGreat_any _ h0 h1 _).mono ?_; rintro e w' ⟨rfl, rfl⟩)
    all_goals
      go_ret
      refine ⟨ret_bool ?_, rfl⟩
      simp only [hosF]
      simp only [greF, decide_eq_false_iff_not] at hg'
      first
        | (symm; rw [decide_eq_true_eq]; omega)
        | (symm; rw [decide_eq_false_iff_not]; omega)
        | (rw [Bool.eq_iff_iff]; simp; done) | (rw [Bool.eq_iff_iff]; simp; omega)
theorem small_any (c : Int) (h0 : 0 ≤ c) (h1 : c ≤ 255) (w : World) : Calls Tryd.prog 45 #[.int .u8 c] w fun e w' => e = .returned (.int .u8 (smlI c)) ∧ w' = w := by
  by_cases hg : greF c = true
  · have hg2 := hg
    simp only [greF, decide_eq_true_eq] at hg2
    obtain ⟨g1, g2⟩ := hg2
    go_enter Tryd.func45, Tryd.ntmps45
    go_wp2_with (go_at_call 53; refine (isGreat_any _ h0 h1 _).mono ?_; rintro e w' ⟨rfl, rfl⟩)
    go_ret
    refine ⟨ret_int ?_, rfl⟩
    rw [smlI, if_pos hg]; omega
  · have hg' : greF c = false := Bool.not_eq_true _ ▸ hg
    go_enter Tryd.func45, Tryd.ntmps45
    go_wp2_with (go_at_call 53; refine (isGreat_any _ h0 h1 _).mono ?_; rintro e w' ⟨rfl, rfl⟩)
    go_ret
    refine ⟨ret_int ?_, rfl⟩
    rw [smlI, if_neg hg]
def madF (p : Int → Bool) (l : List UInt8) : Bool := l.all (fun c => p c.toNat) && !l.isEmpty
theorem take_one (l : List UInt8) (k : Nat) (h : k < l.length) : l.take (k + 1) = l.take k ++ [l[k]] := by
  rw [List.take_succ_eq_append_getElem h]
theorem madF_true {p : Int → Bool} {l : List UInt8} (h : ∀ k (hk : k < l.length), p (l[k].toNat : Int) = true) : madF p l = !l.isEmpty := by
  have : l.all (fun c => p c.toNat) = true := by
    rw [List.all_eq_true]
    intro c hc
    obtain ⟨k, hk, rfl⟩ := List.getElem_of_mem hc
    exact h k hk
  rw [madF, this]; rfl
theorem madF_false {p : Int → Bool} {l : List UInt8} {k : Nat} (hk : k < l.length) (h : p (l[k].toNat : Int) = false) : madF p l = false := by
  have : l.all (fun c => p c.toNat) = false := by
    rw [List.all_eq_false]
    exact ⟨l[k], List.getElem_mem hk, by simp [h]⟩
  rw [madF, this]; rfl
set_option maxHeartbeats 1000000 in
theorem made_host (l : List UInt8) (w : World) (hs : l.length ≤ 2 ^ 62) :
    Calls Tryd.prog 51 #[.string ⟨l.toArray⟩, .func (.func 52) #[] #[]] w fun e w' => e = .returned (.bool (madF hosF l)) ∧ w' = w := by
  go_enter Tryd.func51, Tryd.ntmps51
  go_wp2
  go_loop [8] (fun i => ∃ k : Nat, k ≤ l.length ∧ i = .int .i64 k ∧ ∀ j (hj : j < k) (hk : j < l.length), hosF (l[j].toNat : Int) = true) (fun i => l.length - (intOf i).toNat)
  case atStart => exact ⟨0, Nat.zero_le _, rfl, fun j hj => by omega⟩
  case round =>
    obtain ⟨k, hk, rfl, hall⟩ := hrel
    have HA := hide2 hall
    clear hall
    have k0 : (0 : Int) ≤ k := by omega
    by_cases hlt : k < l.length
    · have hlt' : (k : Int) < l.length := by omega
      have hI := inHost_any (l[k].toNat : Int) (u8_lo _) (u8_hi _) w
      cases hp : hosF (l[k].toNat : Int) with
      | true =>
        have HP := hide2 hp
        rw [hp] at hI
        clear hp
        go_wp2_with (go_at_call 52; refine hI.mono ?_; rintro e w' ⟨rfl, rfl⟩)
        go_round
        case rel =>
          refine ⟨k + 1, by omega, by go_num, fun j hj hk => ?_⟩
          rcases Nat.lt_succ_iff_lt_or_eq.1 hj with h | rfl
          · exact HA.out j h hk
          · exact HP.out
        case measure => simp [intOf]; omega
      | false =>
        have HP := hide2 hp
        rw [hp] at hI
        clear hp
        go_wp2_with (go_at_call 52; refine hI.mono ?_; rintro e w' ⟨rfl, rfl⟩)
        go_ret
        exact ⟨ret_bool (madF_false hlt HP.out).symm, rfl⟩
    · have hlt' : ¬ (k : Int) < l.length := by omega
      have HM : Hid (madF hosF l = !l.isEmpty) := madF_true fun j hj => HA.out j (by omega) hj
      go_wp2
      go_ret
      exact ⟨ret_bool (by rw [HM.out]), rfl⟩
set_option maxHeartbeats 1000000 in
theorem made_great (l : List UInt8) (w : World) (hs : l.length ≤ 2 ^ 62) :
    Calls Tryd.prog 51 #[.string ⟨l.toArray⟩, .func (.func 53) #[] #[]] w fun e w' => e = .returned (.bool (madF greF l)) ∧ w' = w := by
  go_enter Tryd.func51, Tryd.ntmps51
  go_wp2
  go_loop [8] (fun i => ∃ k : Nat, k ≤ l.length ∧ i = .int .i64 k ∧ ∀ j (hj : j < k) (hk : j < l.length), greF (l[j].toNat : Int) = true) (fun i => l.length - (intOf i).toNat)
  case atStart => exact ⟨0, Nat.zero_le _, rfl, fun j hj => by omega⟩
  case round =>
    obtain ⟨k, hk, rfl, hall⟩ := hrel
    have HA := hide2 hall
    clear hall
    have k0 : (0 : Int) ≤ k := by omega
    by_cases hlt : k < l.length
    · have hlt' : (k : Int) < l.length := by omega
      have hI := isGreat_any (l[k].toNat : Int) (u8_lo _) (u8_hi _) w
      cases hp : greF (l[k].toNat : Int) with
      | true =>
        have HP := hide2 hp
        rw [hp] at hI
        clear hp
        go_wp2_with (go_at_call 53; refine hI.mono ?_; rintro e w' ⟨rfl, rfl⟩)
        go_round
        case rel =>
          refine ⟨k + 1, by omega, by go_num, fun j hj hk => ?_⟩
          rcases Nat.lt_succ_iff_lt_or_eq.1 hj with h | rfl
          · exact HA.out j h hk
          · exact HP.out
        case measure => simp [intOf]; omega
      | false =>
        have HP := hide2 hp
        rw [hp] at hI
        clear hp
        go_wp2_with (go_at_call 53; refine hI.mono ?_; rintro e w' ⟨rfl, rfl⟩)
        go_ret
        exact ⟨ret_bool (madF_false hlt HP.out).symm, rfl⟩
    · have hlt' : ¬ (k : Int) < l.length := by omega
      have HM : Hid (madF greF l = !l.isEmpty) := madF_true fun j hj => HA.out j (by omega) hj
      go_wp2
      go_ret
      exact ⟨ret_bool (by rw [HM.out]), rfl⟩
set_option maxHeartbeats 1000000 in
theorem made_path (l : List UInt8) (w : World) (hs : l.length ≤ 2 ^ 62) :
    Calls Tryd.prog 51 #[.string ⟨l.toArray⟩, .func (.func 57) #[] #[]] w fun e w' => e = .returned (.bool (madF patF l)) ∧ w' = w := by
  go_enter Tryd.func51, Tryd.ntmps51
  go_wp2
  go_loop [8] (fun i => ∃ k : Nat, k ≤ l.length ∧ i = .int .i64 k ∧ ∀ j (hj : j < k) (hk : j < l.length), patF (l[j].toNat : Int) = true) (fun i => l.length - (intOf i).toNat)
  case atStart => exact ⟨0, Nat.zero_le _, rfl, fun j hj => by omega⟩
  case round =>
    obtain ⟨k, hk, rfl, hall⟩ := hrel
    have HA := hide2 hall
    clear hall
    have k0 : (0 : Int) ≤ k := by omega
    by_cases hlt : k < l.length
    · have hlt' : (k : Int) < l.length := by omega
      have hI := inPath_any (l[k].toNat : Int) (u8_lo _) (u8_hi _) w
      cases hp : patF (l[k].toNat : Int) with
      | true =>
        have HP := hide2 hp
        rw [hp] at hI
        clear hp
        go_wp2_with (go_at_call 57; refine hI.mono ?_; rintro e w' ⟨rfl, rfl⟩)
        go_round
        case rel =>
          refine ⟨k + 1, by omega, by go_num, fun j hj hk => ?_⟩
          rcases Nat.lt_succ_iff_lt_or_eq.1 hj with h | rfl
          · exact HA.out j h hk
          · exact HP.out
        case measure => simp [intOf]; omega
      | false =>
        have HP := hide2 hp
        rw [hp] at hI
        clear hp
        go_wp2_with (go_at_call 57; refine hI.mono ?_; rintro e w' ⟨rfl, rfl⟩)
        go_ret
        exact ⟨ret_bool (madF_false hlt HP.out).symm, rfl⟩
    · have hlt' : ¬ (k : Int) < l.length := by omega
      have HM : Hid (madF patF l = !l.isEmpty) := madF_true fun j hj => HA.out j (by omega) hj
      go_wp2
      go_ret
      exact ⟨ret_bool (by rw [HM.out]), rfl⟩
end Go.Proofs.YtfhobglcploaoaaDoor.Kk
