/-
  The statements' own small parts: lent, same, kept, fault, token.
-/
import Derived.Test.YtjmgngocpokpgaaDoorOw
import Derived.Laws.AppendOwnNone
import Derived.Deep.QuietTactic
import Derived.BigQuiet
namespace Go.Proofs.YtjmgngocpokpgaaDoor
open Go.RowKit
set_option linter.unusedVariables false
set_option linter.unusedSimpArgs false
set_option maxHeartbeats 400000 in
theorem lent_some (x : Addr) (n cap : Nat) (zs : List Int) (w : World) (hn : zs.length = n) (hB : Has w (some x) zs) (hl : n ≤ 140737488351232) :
    Calls Tryd.prog 10 #[.slice (some x) n cap] w fun e w' => ∃ v, e = .returned v ∧ Lent w zs v w' := by
  obtain ⟨i0, hi, hz0, hz1, hz2⟩ := info_parts Tryd.info5
  have HB : Hid (Has w (some x) zs) := hB
  have HN : Hid (zs.length = n) := hn
  clear hB hn
  go_enter Tryd.func10, Tryd.ntmps10
  go_wp2_with (first
    | (at_make; refine wpList_make_own _ rfl (.const (.int .i64 0)) (.tmp 6) 22 rfl w.heap.size 5 i0 (.int .u8 0) 1 Tryd.underlying22 hi hz0 hz1 .i64 .i64 ((n : Int) + 2) (n + 2) rfl rfl (by omega) (by rw [hz2]; omega) (by unfold maxLen; omega) (Nat.le_refl _) ?_; intro w1 hown1 hgrow1; obtain ⟨O1, B1⟩ := lent_made hown1 hgrow1; have N1 := has_news HB B1.out; clear hown1 hgrow1)
    | (at_builtin; refine wpList_append_fits _ rfl (.tmp 8) (.tmp 9) 22 rfl w.heap.size 5 i0 1 Tryd.underlying22 hi hz1 w.heap.size 0 (n + 2) [] rfl O1.out x n cap (vals zs) rfl (by rw [vals_length, HN.out]; omega) N1 (vals_one _) (by omega) ?_; intro w2 hown2 hgrow2; obtain ⟨O2, B2⟩ := lent_two B1 hown2 hgrow2; clear hown2 hgrow2)
    | (at_builtin; refine wpList_append_fits _ rfl (.tmp 11) (.tmp 12) 22 rfl w.heap.size 5 i0 1 Tryd.underlying22 hi hz1 w.heap.size n (n + 2) (vals zs) rfl (O2.out.alloc _) ⟨w2.heap.size, 0, none⟩ 2 2 (vals [201, 202]) rfl rfl (World.news_of_block (heap_alloc_new w2 _)) (vals_one _) (by omega) ?_; intro w3 hown3 hgrow3; have HL := lent_three HN.out B2 hown3 hgrow3; clear hown3 hgrow3))
  go_ret
  exact ⟨_, rfl, HL.out⟩

set_option maxHeartbeats 400000 in
theorem lent_none (w : World) :
    Calls Tryd.prog 10 #[.slice none 0 0] w fun e w' => ∃ v, e = .returned v ∧ Lent w [] v w' := by
  obtain ⟨i0, hi, hz0, hz1, hz2⟩ := info_parts Tryd.info5
  go_enter Tryd.func10, Tryd.ntmps10
  go_wp2_with (first
    | (at_make; refine wpList_make_own _ rfl (.const (.int .i64 0)) (.tmp 6) 22 rfl w.heap.size 5 i0 (.int .u8 0) 1 Tryd.underlying22 hi hz0 hz1 .i64 .i64 2 2 rfl rfl (by omega) (by rw [hz2]; omega) (by unfold maxLen; omega) (Nat.le_refl _) ?_; intro w1 hown1 hgrow1; obtain ⟨O1, B1⟩ := lent_made (n := 0) hown1 hgrow1; clear hown1 hgrow1)
    | (at_builtin; refine wpList_append_own_none rfl (.tmp 8) (.tmp 9) 22 rfl w.heap.size 5 i0 1 Tryd.underlying22 hi (.slice (some ⟨w.heap.size, 0, none⟩) 0 2) 0 [] rfl O1.out rfl ?_)
    | (at_builtin; refine wpList_append_fits _ rfl (.tmp 11) (.tmp 12) 22 rfl w.heap.size 5 i0 1 Tryd.underlying22 hi hz1 w.heap.size 0 2 (vals []) rfl (O1.out.alloc _) ⟨w1.heap.size, 0, none⟩ 2 2 (vals [201, 202]) rfl rfl (World.news_of_block (heap_alloc_new w1 _)) (vals_one _) (by omega) ?_; intro w3 hown3 hgrow3; have HL := lent_three (zs := []) rfl B1 hown3 hgrow3; clear hown3 hgrow3))
  go_ret
  exact ⟨_, rfl, HL.out⟩

theorem lent_any (a : Option Addr) (n cap : Nat) (zs : List Int) (w : World) (hn : zs.length = n) (hB : Has w a zs) (hc : a = none → cap = 0) (hl : n ≤ 140737488351232) :
    Calls Tryd.prog 10 #[.slice a n cap] w fun e w' => ∃ v, e = .returned v ∧ Lent w zs v w' := by
  rcases hB with ⟨rfl, rfl⟩ | ⟨x, rfl, hB⟩
  · obtain rfl := hc rfl
    subst hn
    exact lent_none w
  · exact lent_some x n cap zs w hn (.inr ⟨x, rfl, hB⟩) hl

theorem lent_row (a : Option Addr) (n cap : Nat) (zs : List Int) (w : World) (hn : zs.length = n) (hB : Has w a zs) (hz : Octets zs) (hc : a = none → cap = 0) (hl : n ≤ 140737488351232) :
    Calls Tryd.prog 10 #[.slice a n cap] w fun e w' => ∃ g cp, e = .returned (.slice (some ⟨g, 0, none⟩) n cp) ∧ Row w' w.heap.size g n cp zs ∧ Below w.heap.size w w' := by
  refine (lent_any a n cap zs w hn hB hc hl).mono ?_
  rintro e w' ⟨v, rfl, g, cp, rfl, hown, hb⟩
  rw [hn] at hown ⊢
  exact ⟨g, cp, rfl, ⟨hn, hz, hl, hown⟩, hb⟩
set_option maxHeartbeats 1000000 in
theorem same_some (b1 o1 b2 o2 n c1 c2 : Nat) (zs : List Int) (w : World) (hn : zs.length = n) (hl : n ≤ 140737488355328)
    (e1 : ∀ i, i < n → w.cell? ⟨b1, o1 + i, none⟩ = some (.int .u8 (zs.getD i 0))) (e2 : ∀ i, i < n → w.cell? ⟨b2, o2 + i, none⟩ = some (.int .u8 (zs.getD i 0))) :
    Calls Tryd.prog 24 #[.slice (some ⟨b1, o1, none⟩) n c1, .slice (some ⟨b2, o2, none⟩) n c2] w fun e w' => e = .returned (.bool true) ∧ ∃ q, w' = w.drewN q := by
  go_enter Tryd.func24, Tryd.ntmps24
  go_wp2
  go_loopw [5] (fun t wr => ∃ k q : Nat, k ≤ n ∧ t = .int .i64 k ∧ wr = w.drewN q) (fun t _ => n - (intOf t).toNat)
  case atStart => exact ⟨0, 0, by omega, rfl, by simp [World.drewN]⟩
  case round =>
    obtain ⟨k, q, hk, rfl, rfl⟩ := hrel
    by_cases hlt : k < n
    · have h1 : w.cell? ⟨b1, o1 + k, none⟩ = some (.int .u8 (zs.getD k 0)) := e1 k hlt
      have h2 : w.cell? ⟨b2, o2 + k, none⟩ = some (.int .u8 (zs.getD k 0)) := e2 k hlt
      obtain ⟨z, hz⟩ : ∃ z, zs.getD k 0 = z := ⟨_, rfl⟩
      rw [hz] at h1 h2
      have k0 : (0 : Int) ≤ k := by omega
      have k1 : (k : Int) < n := by omega
      clear hz e1 e2
      go_wp2_with fail
      go_quiet (fail)
      go_wp2
      go_roundw
      case rel => exact ⟨k + 1, q + nq, by omega, by go_num, rfl⟩
      case measure => simp [intOf]; omega
    · go_wp2
      go_ret
      exact ⟨rfl, q, rfl⟩
set_option maxHeartbeats 400000 in
theorem same_empty (a1 a2 : Option Addr) (c1 c2 : Nat) (w : World) :
    Calls Tryd.prog 24 #[.slice a1 0 c1, .slice a2 0 c2] w fun e w' => e = .returned (.bool true) ∧ ∃ q, w' = w.drewN q := by
  go_enter Tryd.func24, Tryd.ntmps24
  go_wp2
  refine wp_loop_rounds 1 ?_
  rw [rounds_succ]
  go_wp2
  go_ret
  exact ⟨rfl, 0, by simp [World.drewN]⟩

theorem same_any (a1 a2 : Option Addr) (n c1 c2 : Nat) (zs : List Int) (w : World) (hn : zs.length = n) (h1 : Has w a1 zs) (h2 : Has w a2 zs) (hl : n ≤ 140737488355328) :
    Calls Tryd.prog 24 #[.slice a1 n c1, .slice a2 n c2] w fun e w' => e = .returned (.bool true) ∧ ∃ q, w' = w.drewN q := by
  by_cases h0 : zs.length = 0
  · obtain rfl : n = 0 := by omega
    exact same_empty a1 a2 c1 c2 w
  · rcases h1 with ⟨_, h⟩ | ⟨x1, rfl, e1⟩
    · rw [h] at h0; simp at h0
    rcases h2 with ⟨_, h⟩ | ⟨x2, rfl, e2⟩
    · rw [h] at h0; simp at h0
    obtain ⟨b1, o1, rfl, f1⟩ := ints_at (k := .u8) e1 (by omega)
    obtain ⟨b2, o2, rfl, f2⟩ := ints_at (k := .u8) e2 (by omega)
    exact same_some b1 o1 b2 o2 n c1 c2 zs w hn hl (fun i hi => f1 i (by omega)) (fun i hi => f2 i (by omega))

set_option maxHeartbeats 1000000 in
theorem kept_any (base g n cap : Nat) (a2 : Option Addr) (cap2 : Nat) (zs : List Int) (w : World) (hR : Row w base g n cap zs) (hB : Has w a2 zs) :
    Calls Tryd.prog 12 #[.slice (some ⟨g, 0, none⟩) n cap, .slice a2 n cap2] w fun e w' => e = .returned (.bool true) ∧ ∃ q, w' = w.drewN q := by
  obtain ⟨m1, m2⟩ := hR.marks
  obtain ⟨c1, c2⟩ := hR.cap
  have c3 := hR.small
  unfold maxLen at c2
  have k1 : (0 : Int) ≤ n := by omega
  have k2 : (n : Int) + 2 ≤ cap := by omega
  have HR : Hid (Row w base g n cap zs) := hR
  have HB : Hid (Has w a2 zs) := hB
  clear hR hB
  go_enter Tryd.func12, Tryd.ntmps12
  go_wp2_with fail
  refine (same_any (some ⟨g, 0, none⟩) a2 n cap cap2 zs _ HR.out.len HR.out.has HB.out (by omega)).mono ?_
  rintro e w1 ⟨rfl, q, rfl⟩
  go_wp2
  go_ret
  exact ⟨rfl, q, rfl⟩


theorem num_any (x : Int) (w : World) : Calls Tryd.prog 25 #[.int .i64 x] w fun e w' => e = .returned (.int .i64 x) ∧ w' = w := by
  go_enter Tryd.func25, Tryd.ntmps25
  go_wp2
  go_ret
  exact ⟨rfl, rfl⟩
set_option maxHeartbeats 1000000 in
theorem fault_any (d l e : Int) (w : World) : Calls Tryd.prog 13 #[.agg #[.int .i64 d, .int .i64 l, .int .i64 e], .agg #[.int .i64 d, .int .i64 l, .int .i64 e]] w fun r w' => r = .returned (.bool true) ∧ Below w.heap.size w w' := by
  have HB : Hid (Below w.heap.size w ((w.alloc (.cells #[.int .i64 d, .int .i64 l, .int .i64 e] 32 (0, 0))).alloc (.cells #[.int .i64 d, .int .i64 l, .int .i64 e] 25 (0, 0)))) := ((Below.refl _ _).alloc (Nat.le_refl _) _).alloc (by simp) _
  go_enter Tryd.func13, Tryd.ntmps13
  go_wp2_with fail
  go_quiet ((go_at_call 25; refine Calls.quiet_of_same (num_any _ _)))
  go_wp2
  go_ret
  exact ⟨rfl, below_drewN HB.out _⟩
set_option maxHeartbeats 1000000 in
theorem token_any (t : Tk) (w : World) : Calls Tryd.prog 14 #[.agg t.row.toArray, .agg t.row.toArray] w fun r w' => r = .returned (.bool true) ∧ Below w.heap.size w w' := by
  obtain ⟨k, l, c, x, q⟩ := t
  show Calls Tryd.prog 14 #[.agg #[.int .i64 k, .int .i64 l, .int .i64 c, .string ⟨x.toArray⟩, .bool q], .agg #[.int .i64 k, .int .i64 l, .int .i64 c, .string ⟨x.toArray⟩, .bool q]] w _
  have HB : Hid (Below w.heap.size w ((w.alloc (.cells #[.int .i64 k, .int .i64 l, .int .i64 c, .string ⟨x.toArray⟩, .bool q] 39 (0, 0))).alloc (.cells #[.int .i64 k, .int .i64 l, .int .i64 c, .string ⟨x.toArray⟩, .bool q] 40 (0, 0)))) := ((Below.refl _ _).alloc (Nat.le_refl _) _).alloc (by simp) _
  cases q
  all_goals go_enter Tryd.func14, Tryd.ntmps14
  all_goals go_wp2
  all_goals go_ret
  all_goals exact ⟨rfl, HB.out⟩
end Go.Proofs.YtjmgngocpokpgaaDoor
