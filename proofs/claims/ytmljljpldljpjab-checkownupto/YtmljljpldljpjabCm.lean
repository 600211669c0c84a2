/-
  The walk of CheckMerges.
-/
import Derived.Test.YtmljljpldljpjabMy
namespace Go.Proofs.Ytmljljpldljpjab
open Go.RowKit
set_option linter.unusedVariables false
set_option linter.unusedSimpArgs false
set_option maxRecDepth 100000
theorem mg_len (C D : List Rs) : (mgL C D).length ≤ 64 := by
  unfold mgL
  rcases hm : mrF C D with _ | ⟨a, x⟩
  · obtain ⟨h1, h2, h3⟩ := mrF_none hm
    dsimp only
    rw [(merg_perm h1 h2).1.length_eq]; exact h3
  · exact Nat.zero_le _
set_option maxHeartbeats 4000000 in
theorem num_any (w : World) (x : Int) : Calls Try.prog 10 #[.int .i64 x] w fun e w' => e = .returned (.int .i64 x) ∧ w' = w := by
  go_enter Try.func10, Try.ntmps10
  go_wp2
  go_ret
  exact ⟨rfl, rfl⟩
end Go.Proofs.Ytmljljpldljpjab
