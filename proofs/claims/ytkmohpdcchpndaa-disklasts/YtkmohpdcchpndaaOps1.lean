/-
  A new disk; down and up; what is read.
-/
import Derived.Test.YtkmohpdcchpndaaFind
import Derived.Test.YtkmohpdcchpndaaFil
namespace Go.Proofs.Ytkmohpdcchpndaa
open Go.RowKit
set_option linter.unusedVariables false
set_option linter.unusedSimpArgs false
set_option maxRecDepth 100000
theorem new_any (room : Int) (w : World) : Calls Try.prog 17 #[.int .i64 room] w fun e w' => e = .returned (.pointer (some ⟨w.heap.size, 0, none⟩)) ∧ w' = w.alloc (.cells #[.int .i64 (max room 0), .bool false, .pointer none, .map none, .slice none 0 0, .map none, .map none, .int .i64 0] 69 (0, 0)) := by
  by_cases hr : room < 0
  · have e : max room 0 = 0 := by omega
    rw [e]
    go_enter Try.func17, Try.ntmps17
    go_wp2_with fail
    go_ret
    exact ⟨rfl, rfl⟩
  · have e : max room 0 = room := by omega
    rw [e]
    go_enter Try.func17, Try.ntmps17
    go_wp2_with fail
    go_ret
    exact ⟨rfl, rfl⟩
theorem down_any (d : Nat) (v : Bool) (w : World) (h : w.cell? ⟨d, 1, none⟩ = some (.bool v)) : Calls Try.prog 15 #[.pointer (some ⟨d, 0, none⟩)] w fun e w' => e = .returned (.bool v) ∧ w' = w := by
  go_enter Try.func15, Try.ntmps15
  go_wp2_with fail
  go_ret
  exact ⟨rfl, rfl⟩
theorem up_any (d : Nat) (v : Bool) (w : World) (h : w.cell? ⟨d, 1, none⟩ = some (.bool v)) (hz : w.frozen? ⟨d, 1, none⟩ = false) : Calls Try.prog 16 #[.pointer (some ⟨d, 0, none⟩)] w fun e w' => e = .returned (.tuple #[]) ∧ w' = w.setCell ⟨d, 1, none⟩ (.bool false) := by
  go_enter Try.func16, Try.ntmps16
  go_wp2_with fail
  go_end0
  exact ⟨rfl, rfl⟩
theorem goes_none (d : Nat) (w : World) (h : w.cell? ⟨d, 2, none⟩ = some (.pointer none)) : Calls Try.prog 31 #[.pointer (some ⟨d, 0, none⟩)] w fun e w' => e = .returned (.bool false) ∧ w' = w := by
  go_enter Try.func31, Try.ntmps31
  go_wp2_with fail
  go_ret
  exact ⟨rfl, rfl⟩
theorem goes_some (d ab k : Nat) (w : World) (h : w.cell? ⟨d, 2, none⟩ = some (.pointer (some ⟨ab, 0, none⟩))) (ha : w.cell? ⟨ab, 0, none⟩ = some (.int .i64 k)) : Calls Try.prog 31 #[.pointer (some ⟨d, 0, none⟩)] w fun e w' => e = .returned (.bool (k == 0)) ∧ w' = w := by
  by_cases hk : k = 0
  · subst hk
    go_enter Try.func31, Try.ntmps31
    go_wp2_with fail
    go_ret
    exact ⟨rfl, rfl⟩
  · have hk' : ((k : Int) == 0) = false := by simpa using hk
    have e : (k == 0) = false := by simpa using hk
    rw [e]
    go_enter Try.func31, Try.ntmps31
    go_wp2_with fail
    go_ret
    exact ⟨rfl, rfl⟩
theorem read_bad (p : Option Addr) (nm : ByteArray) (E : Int) (w : World) (h : Calls Try.prog 30 #[.pointer p, .string nm] w fun e w' => e = .returned (.tuple #[.pointer none, .int .i64 E]) ∧ Below w.heap.size w w') (hE : (E == 0) = false) : Calls Try.prog 12 #[.pointer p, .string nm] w fun e w' => e = .returned (.tuple #[.slice none 0 0, .int .i64 E]) ∧ Below w.heap.size w w' := by
  have HC : Hid (Calls Try.prog 30 #[.pointer p, .string nm] w fun e w' => e = .returned (.tuple #[.pointer none, .int .i64 E]) ∧ Below w.heap.size w w') := h
  clear h
  go_enter Try.func12, Try.ntmps12
  go_wp2_with (first | (go_at_call 30; refine HC.out.mono ?_; rintro e w1 ⟨rfl, hb⟩; have HB : Hid (Below w.heap.size w w1) := hb; clear hb))
  go_ret2
  exact ⟨rfl, HB.out⟩
theorem read_ok (p : Option Addr) (nm : ByteArray) (base fb : Nat) (f : Fs) (w : World) (h : Calls Try.prog 30 #[.pointer p, .string nm] w fun e w' => e = .returned (.tuple #[.pointer (some ⟨fb, 0, none⟩), .int .i64 0]) ∧ Below w.heap.size w w') (hf : Fil w base fb f) (hs : f.now.length ≤ 140737488355328) : Calls Try.prog 12 #[.pointer p, .string nm] w fun e w' => ∃ v, e = .returned (.tuple #[v, .int .i64 0]) ∧ Buf w' w.heap.size v f.now ∧ Below w.heap.size w w' := by
  obtain ⟨ao, cap, hnv, hbare, hh, _⟩ := hf.now.form
  have hblk := hf.blk
  rw [hnv] at hblk
  obtain ⟨L, hL⟩ : ∃ L, f.now.length = L := ⟨_, rfl⟩
  rw [hL] at hblk hs
  have HC : Hid (Calls Try.prog 30 #[.pointer p, .string nm] w fun e w1 => e = .returned (.tuple #[.pointer (some ⟨fb, 0, none⟩), .int .i64 0]) ∧ w1.cell? ⟨fb, 2, none⟩ = some (.slice ao L cap) ∧ Calls Try.prog 37 #[.slice ao L cap] w1 fun e w2 => ∃ v, e = .returned v ∧ Buf w2 w.heap.size v f.now ∧ Below w.heap.size w w2) := h.mono fun e w1 ⟨he, hb⟩ => by
    have hb1 := (hb.block fb (lt_of_block hblk)).trans hblk
    refine ⟨he, by rw [cell_block hb1]; rfl, (clone_any w1 ao L cap f.now hL hbare (hh.of_below' hb) hf.now.1 hs).mono ?_⟩
    rintro e w2 ⟨v, rfl, hB, hb2⟩
    exact ⟨v, rfl, hB.base hb.size, hb.trans (hb2.mono hb.size)⟩
  clear h hf hh hblk hnv hL hbare
  go_enter Try.func12, Try.ntmps12
  go_wp2_with (first | (go_at_call 30; refine HC.out.mono ?_; rintro e w1 ⟨rfl, x0, hc⟩; have HC2 : Hid (Calls Try.prog 37 #[.slice ao L cap] w1 fun e w2 => ∃ v, e = .returned v ∧ Buf w2 w.heap.size v f.now ∧ Below w.heap.size w w2) := hc; clear hc) | (go_at_call 37; refine HC2.out.mono ?_; rintro e w2 ⟨v, rfl, hB, hb⟩; have HB : Hid (Buf w2 w.heap.size v f.now ∧ Below w.heap.size w w2) := ⟨hB, hb⟩; clear hB hb))
  go_ret2
  exact ⟨v, rfl, HB.out.1, HB.out.2⟩
end Go.Proofs.Ytkmohpdcchpndaa
