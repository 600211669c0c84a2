/-
  What a name may be; why a call is refused.
-/
import Derived.Test.YtkmohpdcchpndaaDir
namespace Go.Proofs.Ytkmohpdcchpndaa
open Go.RowKit
set_option linter.unusedVariables false
set_option linter.unusedSimpArgs false
def bOk (z : Int) : Prop := 33 ≤ z ∧ z ≤ 126 ∧ z ≠ 47
def byteAt (s : ByteArray) (i : Nat) : Int := if h : i < s.size then (s[i].toNat : Int) else 0
def nmOk (s : ByteArray) : Prop := 1 ≤ s.size ∧ s.size ≤ 64 ∧ ∀ i, i < s.size → bOk (byteAt s i)
theorem byte_rng (s : ByteArray) (i : Nat) : 0 ≤ byteAt s i ∧ byteAt s i ≤ 255 := by
  unfold byteAt
  split
  · have := s[i].toNat_lt; omega
  · omega
theorem idx_run (s : ByteArray) (i : Nat) (h : i < s.size) (w : World) : (Instr.index 9 (.string s) (.int .i64 i)).run Try.prog w = .ok (.int .u8 (byteAt s i)) w := by
  rw [run_index_string w 9 s .i64 i Try.underlying9, dif_pos ⟨by omega, by omega⟩]
  simp [byteAt, h]
set_option maxHeartbeats 1000000 in
theorem mayBe_yes (s : ByteArray) (w : World) (h : nmOk s) : Calls Try.prog 57 #[.string s] w fun e w' => e = .returned (.bool true) ∧ w' = w := by
  obtain ⟨h1, h2, h3⟩ := h
  have HI : Hid (∀ i, i < s.size → bOk (byteAt s i)) := h3
  obtain ⟨n, hn⟩ : ∃ n, s.size = n := ⟨_, rfl⟩
  have HR : Hid (∀ i : Nat, i < n → ∀ w, (Instr.index 9 (.string s) (.int .i64 i)).run Try.prog w = .ok (.int .u8 (byteAt s i)) w) := fun i hi w => idx_run s i (by omega) w
  have HN : Hid (s.size = n) := hn
  clear h3
  have g1 : ¬ (n : Int) < 1 := by omega
  have g2 : ¬ (64 : Int) < n := by omega
  go_enter Try.func57, Try.ntmps57
  go_wp2_with fail
  go_loopw [15] (fun t W => ∃ i : Nat, i ≤ n ∧ t = .int .i64 i ∧ W = w) (fun t _ => n - (intOf t).toNat)
  case atStart => exact ⟨0, by omega, rfl, rfl⟩
  case round =>
    obtain ⟨i, hi, rfl, hwr⟩ := hrel
    have hwr := hwr.symm
    subst hwr
    by_cases hin : i < n
    · have hii : (i : Int) < n := by omega
      have hr := HR.out i hin
      obtain ⟨b1, b2, b3⟩ := HI.out i (by rw [HN.out]; exact hin)
      obtain ⟨b4, b5⟩ := byte_rng s i
      obtain ⟨z, hz⟩ : ∃ z, byteAt s i = z := ⟨_, rfl⟩
      rw [hz] at hr b1 b2 b3 b4 b5
      have q1 : ¬ z < 33 := by omega
      have q2 : ¬ 126 < z := by omega
      have q3 : (z == 47) = false := by simpa using b3
      clear hz
      go_wp2_with fail
      case roundEnd => exact ⟨⟨i + 1, by omega, rfl, trivial⟩, by simp [intOf]; omega⟩
    · have hii : ¬ (i : Int) < n := by omega
      go_wp2_with fail
      go_ret
      exact ⟨rfl, rfl⟩
set_option maxHeartbeats 2000000 in
theorem mayBe_no (s : ByteArray) (w : World) (h : ¬ nmOk s) (hs : s.size ≤ maxLen) : Calls Try.prog 57 #[.string s] w fun e w' => e = .returned (.bool false) ∧ w' = w := by
  obtain ⟨n, hn⟩ : ∃ n, s.size = n := ⟨_, rfl⟩
  have hs' : n ≤ 9223372036854775807 := by rw [← hn]; unfold maxLen at hs; omega
  by_cases g1 : (n : Int) < 1
  · obtain rfl : n = 0 := by omega
    clear g1
    go_enter Try.func57, Try.ntmps57
    go_wp2_with fail
    go_ret
    exact ⟨rfl, rfl⟩
  · by_cases g2 : (64 : Int) < n
    · go_enter Try.func57, Try.ntmps57
      go_wp2_with fail
      go_ret
      exact ⟨rfl, rfl⟩
    · have HI : Hid (¬ ∀ i, i < n → bOk (byteAt s i)) := fun hh => h ⟨by omega, by omega, by rw [hn]; exact hh⟩
      have HR : Hid (∀ i : Nat, i < n → ∀ w, (Instr.index 9 (.string s) (.int .i64 i)).run Try.prog w = .ok (.int .u8 (byteAt s i)) w) := fun i hi w => idx_run s i (by omega) w
      clear h hs
      go_enter Try.func57, Try.ntmps57
      go_wp2_with fail
      go_loopw [15] (fun t W => ∃ i : Nat, i ≤ n ∧ t = .int .i64 i ∧ Hid (∀ j, j < i → bOk (byteAt s j)) ∧ W = w) (fun t _ => n - (intOf t).toNat)
      case atStart => exact ⟨0, by omega, rfl, (fun j hj => by omega : ∀ j, j < 0 → bOk (byteAt s j)), rfl⟩
      case round =>
        obtain ⟨i, hi, rfl, HP, hwr⟩ := hrel
        have hwr := hwr.symm
        subst hwr
        by_cases hin : i < n
        · have hii : (i : Int) < n := by omega
          have hr := HR.out i hin
          obtain ⟨b4, b5⟩ := byte_rng s i
          have HB : Hid (bOk (byteAt s i) → ∀ j, j < i + 1 → bOk (byteAt s j)) := fun hb j hj => by
            by_cases e : j = i
            · subst e; exact hb
            · exact HP.out j (by omega)
          obtain ⟨z, hz⟩ : ∃ z, byteAt s i = z := ⟨_, rfl⟩
          have HZ : Hid (byteAt s i = z) := hz
          rw [hz] at hr b4 b5
          clear hz
          by_cases q1 : z < 33
          · go_wp2_with fail
            go_ret
            exact ⟨rfl, rfl⟩
          · by_cases q2 : 126 < z
            · go_wp2_with fail
              go_ret
              exact ⟨rfl, rfl⟩
            · by_cases q3 : z = 47
              · subst q3
                go_wp2_with fail
                go_ret
                exact ⟨rfl, rfl⟩
              · have q4 : (z == 47) = false := by simpa using q3
                have HN : Hid (∀ j, j < i + 1 → bOk (byteAt s j)) := HB.out (by rw [HZ.out]; exact ⟨by omega, by omega, q3⟩)
                clear q3
                go_wp2_with fail
                case roundEnd => exact ⟨⟨i + 1, by omega, rfl, HN, trivial⟩, by simp [intOf]; omega⟩
        · have := HI.out (fun j hj => HP.out j (by omega))
          exact this.elim
/-- refused: no disk, or one that is down -/
theorem refuses_nil (v : Value) (w : World) : Calls Try.prog 29 #[.pointer none, v] w fun e w' => e = .returned (.int .i64 1) ∧ w' = w := by
  go_enter Try.func29, Try.ntmps29
  go_wp2_with fail
  go_ret
  exact ⟨rfl, rfl⟩
theorem refuses_down (d : Nat) (v : Value) (w : World) (h : w.cell? ⟨d, 1, none⟩ = some (.bool true)) : Calls Try.prog 29 #[.pointer (some ⟨d, 0, none⟩), v] w fun e w' => e = .returned (.int .i64 32) ∧ w' = w := by
  go_enter Try.func29, Try.ntmps29
  go_wp2_with fail
  go_ret
  exact ⟨rfl, rfl⟩
/-- a list of names in memory -/
def Nms (w : World) (a : Option Addr) (l : List ByteArray) : Prop := l = [] ∨ ∃ g o, a = some ⟨g, o, none⟩ ∧ ∀ i s, l[i]? = some s → w.cell? ⟨g, o + i, none⟩ = some (.string s)
theorem refuses_ok (d : Nat) (a : Option Addr) (n c : Nat) (l : List ByteArray) (w : World) (h : w.cell? ⟨d, 1, none⟩ = some (.bool false)) (hl : l.length = n) (hn : n ≤ 1000) (hN : Nms w a l) (hok : ∀ s ∈ l, nmOk s) : Calls Try.prog 29 #[.pointer (some ⟨d, 0, none⟩), .slice a n c] w fun e w' => e = .returned (.int .i64 0) ∧ w' = w := by
  have HN : Hid (l.length = n ∧ Nms w a l ∧ ∀ s ∈ l, nmOk s) := ⟨hl, hN, hok⟩
  clear hl hN hok
  go_enter Try.func29, Try.ntmps29
  go_wp2_with fail
  go_loopw [15] (fun t W => ∃ i : Nat, i ≤ n ∧ t = .int .i64 i ∧ W = w) (fun t _ => n - (intOf t).toNat)
  case atStart => exact ⟨0, by omega, rfl, rfl⟩
  case round =>
    obtain ⟨i, hi, rfl, hwr⟩ := hrel
    have hwr := hwr.symm
    subst hwr
    have i0 : (0 : Int) ≤ i := by omega
    by_cases hin : i < n
    · have hii : (i : Int) < n := by omega
      obtain ⟨s, hs⟩ : ∃ s, l[i]? = some s := ⟨l[i]'(by have := HN.out.1; omega), List.getElem?_eq_getElem _⟩
      obtain ⟨g, o, ea, hc⟩ : ∃ g o, a = some ⟨g, o, none⟩ ∧ w.cell? ⟨g, o + i, none⟩ = some (.string s) := by
        rcases HN.out.2.1 with h0 | ⟨g, o, e, hc⟩
        · subst h0; simp at hs
        · exact ⟨g, o, e, hc i s hs⟩
      subst ea
      have HO : Hid (nmOk s) := HN.out.2.2 s (List.mem_of_getElem? hs)
      clear hs
      go_wp2_with (first | (go_at_call 57; refine (mayBe_yes s w HO.out).mono ?_; rintro e w1 ⟨rfl, hw⟩; have hw := hw.symm; subst hw))
      all_goals first | exact ⟨⟨i + 1, by omega, rfl, rfl⟩, by simp [intOf]; omega⟩ | exact ⟨⟨i + 1, by omega, rfl, trivial⟩, by simp [intOf]; omega⟩
    · have hii : ¬ (i : Int) < n := by omega
      go_wp2_with fail
      go_ret
      exact ⟨rfl, rfl⟩
end Go.Proofs.Ytkmohpdcchpndaa
