/-
  The document's key and Less.
-/
import Derived.Test.YtmljljpldljpjabEt
import Derived.Test.YtmljljpldljpjabFt
namespace Go.Proofs.Ytmljljpldljpjab
open Go.RowKit
set_option linter.unusedVariables false
set_option linter.unusedSimpArgs false
set_option maxRecDepth 100000
set_option maxHeartbeats 4000000 in
theorem rkey_any (w : World) (o p : Rx) : Calls Try.prog 39 #[o.val, p.val] w fun e w' => e = .returned (.bool (decide (o.key = p.key))) ∧ Gr w w' := by
  obtain ⟨⟨kd, nm, eps, tgs, host, rus, route, del⟩, ea, ec, ta, tc, ra, rc⟩ := o
  obtain ⟨⟨kd', nm', eps', tgs', host', rus', route', del'⟩, ea', ec', ta', tc', ra', rc'⟩ := p
  unfold Rx.val Rs.key
  dsimp only
  generalize eps.length = n1
  generalize tgs.length = n2
  generalize rus.length = n3
  generalize eps'.length = n1'
  generalize tgs'.length = n2'
  generalize rus'.length = n3'
  by_cases e0 : kd = kd'
  · subst e0
    by_cases e1 : nm = nm'
    · subst e1
      go_enter Try.func39, Try.ntmps39
      go_wp2
      go_ret
      exact ⟨by simp, (Gr.alloc _ _).trans (Gr.alloc _ _)⟩
    · have e1' := ba_ne e1
      have HE := hideL e1
      clear e1
      go_enter Try.func39, Try.ntmps39
      go_wp2
      go_ret
      exact ⟨ret_bool (by simp [HE.out]), (Gr.alloc _ _).trans (Gr.alloc _ _)⟩
  · have HE := hideL e0
    have e0' : decide (kd = kd') = false := by simpa using e0
    go_enter Try.func39, Try.ntmps39
    go_wp2
    go_ret
    exact ⟨ret_bool (by simp [HE.out]), (Gr.alloc _ _).trans (Gr.alloc _ _)⟩
def lessB (o p : Rs) : Bool := decide (o.kd < p.kd) || (decide (o.kd = p.kd) && sless o.nm p.nm)
theorem lessB_iff (o p : Rs) : lessB o p = true ↔ klt o.key p.key := by
  unfold lessB klt Rs.key; simp
set_option maxHeartbeats 4000000 in
theorem less_any (w : World) (o p : Rx) : Calls Try.prog 38 #[o.val, p.val] w fun e w' => e = .returned (.bool (lessB o.toRs p.toRs)) ∧ Gr w w' := by
  obtain ⟨⟨kd, nm, eps, tgs, host, rus, route, del⟩, ea, ec, ta, tc, ra, rc⟩ := o
  obtain ⟨⟨kd', nm', eps', tgs', host', rus', route', del'⟩, ea', ec', ta', tc', ra', rc'⟩ := p
  unfold Rx.val lessB sless
  dsimp only
  generalize eps.length = n1
  generalize tgs.length = n2
  generalize rus.length = n3
  generalize eps'.length = n1'
  generalize tgs'.length = n2'
  generalize rus'.length = n3'
  by_cases e0 : kd < kd'
  · go_enter Try.func38, Try.ntmps38
    go_wp2
    go_ret
    exact ⟨ret_bool (by simp [e0]), (Gr.alloc _ _).trans (Gr.alloc _ _)⟩
  · by_cases e1 : kd = kd'
    · subst e1
      cases hs : Op.bytesLess nm.toList nm'.toList
      all_goals
        go_enter Try.func38, Try.ntmps38
        go_wp2
        go_ret
        exact ⟨ret_bool (by simp), (Gr.alloc _ _).trans (Gr.alloc _ _)⟩
    · have HE := hideL e1
      have H0 := hideL e0
      have e1' : decide (kd = kd') = false := by simpa using e1
      go_enter Try.func38, Try.ntmps38
      go_wp2
      go_ret
      exact ⟨ret_bool (by simp [HE.out, H0.out]; try omega), (Gr.alloc _ _).trans (Gr.alloc _ _)⟩
end Go.Proofs.Ytmljljpldljpjab
