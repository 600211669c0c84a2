/-
  find: the file of a name.
-/
import Derived.Test.YtkmohpdcchpndaaLook
import Derived.Test.YtkmohpdcchpndaaDfil
namespace Go.Proofs.Ytkmohpdcchpndaa
open Go.RowKit
set_option linter.unusedVariables false
set_option linter.unusedSimpArgs false
set_option maxRecDepth 100000
theorem refuses_arg1 (d g : Nat) (s : ByteArray) (w : World) (h : w.cell? ⟨d, 1, none⟩ = some (.bool false)) (hc : w.cell? ⟨g, 0, none⟩ = some (.string s)) (hb : ¬ nmOk s) (hs : s.size ≤ maxLen) : Calls Try.prog 29 #[.pointer (some ⟨d, 0, none⟩), .slice (some ⟨g, 0, none⟩) 1 1] w fun e w' => e = .returned (.int .i64 2) ∧ w' = w := by
  have HB : Hid (¬ nmOk s ∧ s.size ≤ maxLen) := ⟨hb, hs⟩
  clear hb hs
  go_enter Try.func29, Try.ntmps29
  go_wp2_with fail
  go_loopw [15] (fun t W => t = .int .i64 0 ∧ W = w) (fun t _ => 0)
  case atStart => exact ⟨rfl, rfl⟩
  case round =>
    obtain ⟨rfl, hwr⟩ := hrel
    have hwr := hwr.symm
    subst hwr
    go_wp2_with (first | (go_at_call 57; refine (mayBe_no s w HB.out.1 HB.out.2).mono ?_; rintro e w1 ⟨rfl, hw⟩; have hw := hw.symm; subst hw))
    go_ret
    exact ⟨rfl, rfl⟩
/-- the call's own list of one name -/
theorem one_name (w : World) (nm : ByteArray) : Nms (w.alloc (.cells #[.string nm] 9 (0, 0))) (some ⟨w.heap.size, 0, none⟩) [nm] := by
  refine .inr ⟨w.heap.size, 0, rfl, fun i s hs => ?_⟩
  cases i with
  | zero => simp at hs; subst hs; rw [cell_block (Go.heap_alloc_new w _)]; rfl
  | succ i => simp at hs
theorem find_nil (nm : ByteArray) (w : World) : Calls Try.prog 30 #[.pointer none, .string nm] w fun e w' => e = .returned (.tuple #[.pointer none, .int .i64 1]) ∧ Below w.heap.size w w' := by
  go_enter Try.func30, Try.ntmps30
  go_wp2_with (first | (go_at_call 29; refine (refuses_nil _ _).mono ?_; rintro e w1 ⟨rfl, hw⟩; subst hw))
  go_ret2
  exact ⟨rfl, (Below.refl _ _).alloc (Nat.le_refl _) _⟩
theorem find_down (d : Nat) (nm : ByteArray) (w : World) (h : w.cell? ⟨d, 1, none⟩ = some (.bool true)) : Calls Try.prog 30 #[.pointer (some ⟨d, 0, none⟩), .string nm] w fun e w' => e = .returned (.tuple #[.pointer none, .int .i64 32]) ∧ Below w.heap.size w w' := by
  have h1 : (w.alloc (.cells #[.string nm] 9 (0, 0))).cell? ⟨d, 1, none⟩ = some (.bool true) := cell_of_below ((Below.refl _ _).alloc (Nat.le_refl _) _) h
  go_enter Try.func30, Try.ntmps30
  go_wp2_with (first | (go_at_call 29; refine (refuses_down d _ _ h1).mono ?_; rintro e w1 ⟨rfl, hw⟩; subst hw))
  go_ret2
  exact ⟨rfl, (Below.refl _ _).alloc (Nat.le_refl _) _⟩
theorem find_arg (d : Nat) (nm : ByteArray) (w : World) (h : w.cell? ⟨d, 1, none⟩ = some (.bool false)) (hb : ¬ nmOk nm) (hs : nm.size ≤ maxLen) : Calls Try.prog 30 #[.pointer (some ⟨d, 0, none⟩), .string nm] w fun e w' => e = .returned (.tuple #[.pointer none, .int .i64 2]) ∧ Below w.heap.size w w' := by
  have h1 : (w.alloc (.cells #[.string nm] 9 (0, 0))).cell? ⟨d, 1, none⟩ = some (.bool false) := cell_of_below ((Below.refl _ _).alloc (Nat.le_refl _) _) h
  have h2 : (w.alloc (.cells #[.string nm] 9 (0, 0))).cell? ⟨w.heap.size, 0, none⟩ = some (.string nm) := by rw [cell_block (Go.heap_alloc_new w _)]; rfl
  have HC : Hid (Calls Try.prog 29 #[.pointer (some ⟨d, 0, none⟩), .slice (some ⟨w.heap.size, 0, none⟩) 1 1] (w.alloc (.cells #[.string nm] 9 (0, 0))) fun e w' => e = .returned (.int .i64 2) ∧ w' = w.alloc (.cells #[.string nm] 9 (0, 0))) := refuses_arg1 d w.heap.size nm _ h1 h2 hb hs
  go_enter Try.func30, Try.ntmps30
  go_wp2_with (first | (go_at_call 29; refine HC.out.mono ?_; rintro e w1 ⟨rfl, hw⟩; subst hw))
  go_ret2
  exact ⟨rfl, (Below.refl _ _).alloc (Nat.le_refl _) _⟩
theorem find_none (base d : Nat) (x : Dr) (nm : ByteArray) (w : World) (h : Dir w base d x) (hd : x.c1 = .bool false) (hok : nmOk nm) (hs : nm.size ≤ maxLen) (hno : Not1 x.now nm) : Calls Try.prog 30 #[.pointer (some ⟨d, 0, none⟩), .string nm] w fun e w' => e = .returned (.tuple #[.pointer none, .int .i64 30]) ∧ Below w.heap.size w w' := by
  have hB : Below w.heap.size w (w.alloc (.cells #[.string nm] 9 (0, 0))) := (Below.refl _ _).alloc (Nat.le_refl _) _
  have hb := (hB.block d (lt_of_block h.blk)).trans h.blk
  rw [hd] at hb
  obtain ⟨mo, hnv⟩ := h.now.shape
  rw [hnv] at hb
  have h1 : (w.alloc (.cells #[.string nm] 9 (0, 0))).cell? ⟨d, 1, none⟩ = some (.bool false) := by rw [cell_block hb]; rfl
  have h5 : (w.alloc (.cells #[.string nm] 9 (0, 0))).cell? ⟨d, 5, none⟩ = some (.map mo) := by rw [cell_block hb]; rfl
  have hn := h.now
  rw [hnv] at hn
  have hl : (Instr.lookup 62 (.map mo) (.string nm) true).run Try.prog (w.alloc (.cells #[.string nm] 9 (0, 0))) = .ok (.tuple #[.int .i64 0, .bool false]) (w.alloc (.cells #[.string nm] 9 (0, 0))) := by
    rcases dm_look (hn.keep (w' := w.alloc (.cells #[.string nm] 9 (0, 0))) fun k hk => hB.block k (hn.low hk).2) nm hs with ⟨num, _, hh, _⟩ | ⟨h1, _⟩
    · exact (has_not hh hno).elim
    · exact h1
  have HC : Hid (Calls Try.prog 29 #[.pointer (some ⟨d, 0, none⟩), .slice (some ⟨w.heap.size, 0, none⟩) 1 1] (w.alloc (.cells #[.string nm] 9 (0, 0))) fun e w' => e = .returned (.int .i64 0) ∧ w' = w.alloc (.cells #[.string nm] 9 (0, 0))) := refuses_ok d _ 1 1 [nm] _ h1 rfl (by omega) (one_name w nm) (fun s hs => by simp at hs; subst hs; exact hok)
  clear h hn hno
  go_enter Try.func30, Try.ntmps30
  go_wp2_with (first | (go_at_call 29; refine HC.out.mono ?_; rintro e w1 ⟨rfl, hw⟩; subst hw))
  go_ret2
  exact ⟨rfl, hB⟩
theorem find_ok (base d : Nat) (x : Dr) (nm : ByteArray) (fo : Option (DataW Unit)) (nf num fb : Nat) (w : World) (h : Dir w base d x) (hf : Fm w base x.c6 fo nf) (hd : x.c1 = .bool false) (hok : nmOk nm) (hs : nm.size ≤ maxLen) (hh : Has1 x.now nm num) (hat : At1 fo num fb) (hnum : num ≤ 1000000000) : Calls Try.prog 30 #[.pointer (some ⟨d, 0, none⟩), .string nm] w fun e w' => e = .returned (.tuple #[.pointer (some ⟨fb, 0, none⟩), .int .i64 0]) ∧ Below w.heap.size w w' := by
  have hB : Below w.heap.size w (w.alloc (.cells #[.string nm] 9 (0, 0))) := (Below.refl _ _).alloc (Nat.le_refl _) _
  have hb := (hB.block d (lt_of_block h.blk)).trans h.blk
  rw [hd] at hb
  obtain ⟨mo, hnv⟩ := h.now.shape
  obtain ⟨fmo, hfv⟩ := hf.shape
  rw [hnv, hfv] at hb
  have h1 : (w.alloc (.cells #[.string nm] 9 (0, 0))).cell? ⟨d, 1, none⟩ = some (.bool false) := by rw [cell_block hb]; rfl
  have h5 : (w.alloc (.cells #[.string nm] 9 (0, 0))).cell? ⟨d, 5, none⟩ = some (.map mo) := by rw [cell_block hb]; rfl
  have h6 : (w.alloc (.cells #[.string nm] 9 (0, 0))).cell? ⟨d, 6, none⟩ = some (.map fmo) := by rw [cell_block hb]; rfl
  have hn := h.now
  rw [hnv] at hn
  rw [hfv] at hf
  have hl : (Instr.lookup 62 (.map mo) (.string nm) true).run Try.prog (w.alloc (.cells #[.string nm] 9 (0, 0))) = .ok (.tuple #[.int .i64 num, .bool true]) (w.alloc (.cells #[.string nm] 9 (0, 0))) := by
    rcases dm_look (hn.keep (w' := w.alloc (.cells #[.string nm] 9 (0, 0))) fun k hk => hB.block k (hn.low hk).2) nm hs with ⟨num', h1, hh', _⟩ | ⟨_, h2⟩
    · rw [h1, has_one hh' hh]
    · exact (has_not hh h2).elim
  have hl2 := fm_look (hf.keep (w' := w.alloc (.cells #[.string nm] 9 (0, 0))) fun k hk => hB.block k (hf.low hk).2) num fb hnum hat
  have HC : Hid (Calls Try.prog 29 #[.pointer (some ⟨d, 0, none⟩), .slice (some ⟨w.heap.size, 0, none⟩) 1 1] (w.alloc (.cells #[.string nm] 9 (0, 0))) fun e w' => e = .returned (.int .i64 0) ∧ w' = w.alloc (.cells #[.string nm] 9 (0, 0))) := refuses_ok d _ 1 1 [nm] _ h1 rfl (by omega) (one_name w nm) (fun s hs => by simp at hs; subst hs; exact hok)
  clear h hn hf hh hat
  go_enter Try.func30, Try.ntmps30
  go_wp2_with (first | (go_at_call 29; refine HC.out.mono ?_; rintro e w1 ⟨rfl, hw⟩; subst hw))
  go_ret2
  exact ⟨rfl, hB⟩
end Go.Proofs.Ytkmohpdcchpndaa
