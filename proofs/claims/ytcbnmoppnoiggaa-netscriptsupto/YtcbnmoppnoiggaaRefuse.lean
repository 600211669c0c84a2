/-
  Refuse; a dial that is refused, that is too many, of no net.
-/
import Derived.Test.YtcbnmoppnoiggaaLeave
namespace Go.Proofs.Ytcbnmoppnoiggaa
open Go.RowKit
set_option linter.unusedVariables false
set_option linter.unusedSimpArgs false
theorem refuse_nil (nm : ByteArray) (t : Int) (w : World) : Calls Try.prog 21 #[.pointer none, .string nm, .int .i64 t] w fun e w' => w' = w ∧ e = .returned (.int .i64 1) := by
  go_enter Try.func21, Try.ntmps21
  go_wp2_with fail
  refine wp_scope_once 0 rfl ?_
  go_wp2_with fail
  go_step3
  refine ⟨rfl, ?_⟩
  go_wp2_with fail
  rw [Exit.noGoto_ret]
  go_ret
  exact ⟨rfl, rfl⟩
theorem refuse_arg (b : Nat) (nm : ByteArray) (t : Int) (w : World) (ht : t < 0) : Calls Try.prog 21 #[.pointer (some ⟨b, 0, none⟩), .string nm, .int .i64 t] w fun e w' => w' = w ∧ e = .returned (.int .i64 2) := by
  go_enter Try.func21, Try.ntmps21
  go_wp2_with fail
  refine wp_scope_once 0 rfl ?_
  go_wp2_with fail
  go_step3
  refine ⟨rfl, ?_⟩
  go_wp2_with fail
  rw [Exit.noGoto_ret]
  go_ret
  exact ⟨rfl, rfl⟩
theorem refuse_ok (base b : Nat) (row mv : Value) (cs : List Cn) (f : ByteArray → Int) (bound : Nat) (nm : ByteArray) (t : Int) (w : World) (h : Net w base b row mv cs) (hm : MapIs w base mv f bound) (hs : nm.size ≤ maxLen) (hb : bound < 1000000000) (ht : 0 ≤ t) (htw : (Lit.int .i64 t).wf = true) :
    Calls Try.prog 21 #[.pointer (some ⟨b, 0, none⟩), .string nm, .int .i64 t] w fun e w' => e = .returned (.int .i64 0) ∧ ∃ mv', Left w w' base b row mv cs mv' (fupd f nm t) (bound + 1) := by
  have L := leave_any base b row mv cs f bound nm t w h hm hs hb ht htw
  clear h hm
  go_enter Try.func21, Try.ntmps21
  go_wp2_with fail
  refine wp_scope_once 0 rfl ?_
  go_wp2_with fail
  refine L.mono ?_
  rintro e w1 ⟨rfl, mv', hL⟩
  have HL : Hid (Left w w1 base b row mv cs mv' (fupd f nm t) (bound + 1)) := hL
  clear hL
  go_wp2_with fail
  refine jump_ret ?_
  go_ret
  exact ⟨rfl, _, HL.out⟩
set_option maxRecDepth 100000 in
theorem dial_nil (nm : ByteArray) (w : World) : Calls Try.prog 13 #[.pointer none, .string nm] w fun e w' => w' = w ∧ e = .returned (.tuple #[.int .i64 (-1), .int .i64 1]) := by
  go_enter Try.func13, Try.ntmps13
  go_wp2_with fail
  refine wp_scope_once 0 rfl ?_
  go_wp2_with fail
  go_step3
  refine ⟨rfl, ?_⟩
  go_wp2_with fail
  rw [Exit.noGoto_ret]
  go_ret2
  exact ⟨rfl, rfl⟩
set_option maxRecDepth 100000 in
theorem dial_full (base b : Nat) (row mv : Value) (cs : List Cn) (nm : ByteArray) (w : World) (h : Net w base b row mv cs) (hf : ¬ cs.length < 4096) :
    Calls Try.prog 13 #[.pointer (some ⟨b, 0, none⟩), .string nm] w fun e w' => w' = w ∧ e = .returned (.tuple #[.int .i64 (-1), .int .i64 3]) := by
  obtain ⟨ao, cap, hrow⟩ : ∃ ao cap, row = .slice ao cs.length cap := by
    rcases h.rw.2 with ⟨h, h0⟩ | ⟨g, cap, _, h, _⟩
    · exact ⟨_, _, h0 ▸ h⟩
    · exact ⟨_, _, h⟩
  subst hrow
  have c0 : w.cell? ⟨b, 0, none⟩ = some (.slice ao cs.length cap) := by rw [cell_block h.net]; rfl
  have hN : cs.length = 4096 := by have := h.few; omega
  rw [hN] at c0
  clear h hf hN
  go_enter Try.func13, Try.ntmps13
  go_wp2_with fail
  refine wp_scope_once 0 rfl ?_
  go_wp2_with fail
  go_step3
  refine ⟨rfl, ?_⟩
  go_wp2_with fail
  rw [Exit.noGoto_ret]
  go_ret2
  exact ⟨rfl, rfl⟩
set_option maxRecDepth 100000 in
set_option maxHeartbeats 1000000 in
theorem dial_ref (base b : Nat) (row mv : Value) (cs : List Cn) (f : ByteArray → Int) (bound : Nat) (nm : ByteArray) (w : World) (h : Net w base b row mv cs) (hm : MapIs w base mv f bound) (hs : nm.size ≤ maxLen) (hb : bound < 1000000000) (hf : cs.length < 4096) (hp : 0 < f nm) (hpm : f nm ≤ 9223372036854775807) :
    Calls Try.prog 13 #[.pointer (some ⟨b, 0, none⟩), .string nm] w fun e w' => e = .returned (.tuple #[.int .i64 (-1), .int .i64 41]) ∧ ∃ mv', Left w w' base b row mv cs mv' (fupd f nm (f nm - 1)) (bound + 1) := by
  have htw : (Lit.int .i64 (f nm - 1)).wf = true := by
    have a : IntKind.i64.min = -9223372036854775808 := by decide
    have b : IntKind.i64.max = 9223372036854775807 := by decide
    simp [Lit.wf, a, b]; omega
  have L := leave_any base b row mv cs f bound nm (f nm - 1) w h hm hs hb (by omega) htw
  have hlook := hm.look nm hs
  obtain ⟨mm, rfl⟩ := hm.shape
  obtain ⟨ao, cap, hrow⟩ : ∃ ao cap, row = .slice ao cs.length cap := by
    rcases h.rw.2 with ⟨h, h0⟩ | ⟨g, cap, _, h, _⟩
    · exact ⟨_, _, h0 ▸ h⟩
    · exact ⟨_, _, h⟩
  have c0 : w.cell? ⟨b, 0, none⟩ = some (.slice ao cs.length cap) := by rw [cell_block h.net, ← hrow]; rfl
  have c1 : w.cell? ⟨b, 1, none⟩ = some (.map mm) := by rw [cell_block h.net]; rfl
  obtain ⟨N, hN⟩ : ∃ N, cs.length = N := ⟨_, rfl⟩
  obtain ⟨t, ht⟩ : ∃ t, f nm = t := ⟨_, rfl⟩
  rw [hN] at c0 hf
  rw [ht] at hlook L hp hpm ⊢
  clear h hm hN hrow ht htw
  go_enter Try.func13, Try.ntmps13
  go_wp2_with fail
  refine wp_scope_once 0 rfl ?_
  go_wp2_with fail
  refine L.mono ?_
  rintro e w1 ⟨rfl, mv', hL⟩
  have HL : Hid (Left w w1 base b row (.map mm) cs mv' (fupd f nm (t - 1)) (bound + 1)) := hL
  clear hL
  go_wp2_with fail
  go_step3
  refine ⟨rfl, ?_⟩
  go_wp2_with fail
  rw [Exit.noGoto_ret]
  go_ret2
  exact ⟨rfl, _, HL.out⟩
end Go.Proofs.Ytcbnmoppnoiggaa
