/- Probe of a registry. -/
import Derived.Test.YtidpglbokpgpbaaNw
import Derived.Test.YtidpglbokpgpbaaHc
namespace Go.Proofs.Ytidpglbokpgpbaa
open Go.RowKit
set_option linter.unusedVariables false
set_option linter.unusedSimpArgs false
set_option maxRecDepth 100000
def Rg.prob (r : Rg) (p : Nat) (ok : Bool) (t : Nat) : Rg := { r with sf := fun q => if q = p then (r.sf p).probe ok t else r.sf q }
theorem prob_sf (r : Rg) (p : Nat) (ok : Bool) (t : Nat) : (r.prob p ok t).sf p = (r.sf p).probe ok t := if_pos rfl
theorem Rr.probed {w w1 : World} {base b n : Nat} {r : Rg} (h : Rr w base b n r) {k : ByteArray} {p : Nat} (hp : r.pl k = some p) {ok : Bool} {t : Nat} (g : Stp w w1 [p] [p]) (hs : Hs w1 p ((r.sf p).probe ok t)) : Rr w1 base b (n + 1) (r.prob p ok t) := by
  obtain ⟨p1, p2, p3⟩ := h.sts k p hp
  have ht : ∀ k ∈ [p], ∃ cs t fr, w.heap[k]? = some (.cells cs t fr) ∧ t = 57 := by
    intro k hk; simp at hk; subst hk; exact ⟨_, _, _, p2, rfl⟩
  have hbp : b ∉ [p] := by
    intro hm; simp at hm; subst hm
    have := h.blk; rw [p2] at this; injection this with this; injection this with _ this; cases this
  refine ⟨(g.old b (lt_of_block h.blk) hbp).trans h.blk, h.lo, ?_, ?_, ?_, fun k' q e => ?_, h.fr, Nat.le_succ_of_le h.ep, h.cnt, h.inj⟩
  · exact h.vw.stp g (fun k hk => by obtain ⟨cs, t, fr, e, rfl⟩ := ht k hk; exact ⟨cs, _, fr, e, by decide, by decide⟩)
  · exact h.ss.stp g (fun k hk => by obtain ⟨cs, t, fr, e, rfl⟩ := ht k hk; exact ⟨cs, _, fr, e, by decide, by decide⟩)
  · exact h.mp.stp g (fun k hk => by obtain ⟨cs, t, fr, e, rfl⟩ := ht k hk; exact ⟨cs, _, fr, e⟩)
  · obtain ⟨q1, q2, q3⟩ := h.sts k' q e
    show base ≤ q ∧ Hs w1 q (if q = p then (r.sf p).probe ok t else r.sf q) ∧ Ok (if q = p then (r.sf p).probe ok t else r.sf q) (n + 1)
    by_cases hq : q = p
    · subst hq
      rw [if_pos rfl]
      exact ⟨q1, hs, p3.probe ok t⟩
    · rw [if_neg hq]
      exact ⟨q1, q2.stp g (by simpa using hq), q3.mono (by omega)⟩
theorem Stp.more {w w' : World} {bs cs : List Nat} (h : Stp w w' bs bs) (hc : ∀ k ∈ bs, k ∈ cs) : Stp w w' cs cs :=
  ⟨h.os, h.tape, h.output, h.size, fun k hk hn => h.old k hk (fun g => hn (hc k g)), fun k hk => .inl hk⟩
def ProbE (k : ByteArray) (ok : Bool) (t : Nat) (r r' : Rg) (e : Int) : Prop :=
  (e = 2 ∧ r.pl k = none ∧ r' = r) ∨
  (∃ p, e = 0 ∧ r.pl k = some p ∧ ((((r.sf p).probe ok t).up = (r.sf p).up ∧ r' = r.prob p ok t) ∨ (((r.sf p).probe ok t).up ≠ (r.sf p).up ∧ LookE (r.prob p ok t) r')))
set_option maxHeartbeats 4000000 in
theorem probeR_any (w : World) (base b n : Nat) (r : Rg) (h : Rr w base b n r) (hn : n ≤ 900000) (k : ByteArray) (hk : okS k) (ok : Bool) (t : Nat) (ht : t < 18446744073709551616) :
    Calls Try.prog 11 #[.pointer (some ⟨b, 0, none⟩), .string k, .bool ok, .float .f64 t] w fun e w' => ∃ j, e = .returned (.int .i64 j) ∧ ∃ r', ProbE k ok t r r' j ∧ Rr w' base b (n + 2) r' ∧ ∃ bs, Stp w w' bs bs ∧ ∀ p ∈ bs, ∃ cs ty fr, w.heap[p]? = some (.cells cs ty fr) ∧ base ≤ p ∧ (ty = 63 ∨ ty = 57) := by
  have h1 := state_any w base b n r h k hk
  have HR := hideL h
  rcases hp : r.pl k with _ | p
  · rw [hp] at h1
    unfold ptrO at h1
    simp only [Option.map_none] at h1
    have HP := hideL hp
    clear h hp
    go_enter Try.func11, Try.ntmps11
    go_wp2_with (go_at_call 22; refine h1.mono ?_; rintro e w' ⟨rfl, rfl⟩)
    go_ret
    exact ⟨2, rfl, r, .inl ⟨rfl, HP.out, rfl⟩, HR.out.mono (by omega), [], Stp.refl _ _, fun p hp => by cases hp⟩
  · rw [hp] at h1
    unfold ptrO at h1
    simp only [Option.map_some] at h1
    have HP := hideL hp
    obtain ⟨g1, g2, g3⟩ := h.sts k p hp
    have h2 : Calls Try.prog 23 #[.pointer (some ⟨p, 0, none⟩)] w fun e w' => e = .returned (.bool (r.sf p).up) ∧ w' = w := healthy_any _ _ _ w (.at_ p (r.sf p) g2)
    have h3 := probe_any p (r.sf p) n ok t w g2 g3 hn ht
    have H4 : Hid (∀ w1, Hs w1 p ((r.sf p).probe ok t) → Calls Try.prog 23 #[.pointer (some ⟨p, 0, none⟩)] w1 fun e w' => e = .returned (.bool ((r.sf p).probe ok t).up) ∧ w' = w1) := fun w1 hs => healthy_any _ _ _ w1 (.at_ p _ hs)
    have HPR : Hid (∀ w1, Stp w w1 [p] [p] → Hs w1 p ((r.sf p).probe ok t) → Rr w1 base b (n + 1) (r.prob p ok t)) := fun w1 g hs => HR.out.probed HP.out g hs
    have HLK : Hid (∀ w1, Rr w1 base b (n + 1) (r.prob p ok t) → Calls Try.prog 21 #[.pointer (some ⟨b, 0, none⟩)] w1 fun e w' => e = .returned (.tuple #[]) ∧ ∃ r', LookE (r.prob p ok t) r' ∧ Rr w' base b (n + 1 + 1) r' ∧ Stp w1 w' [b] [b]) := fun w1 hr => look_any w1 base b (n + 1) _ hr (by omega)
    have HBP : Hid (∀ q ∈ [p, b], ∃ cs ty fr, w.heap[q]? = some (.cells cs ty fr) ∧ base ≤ q ∧ (ty = 63 ∨ ty = 57)) := by
      intro q hq
      simp at hq
      rcases hq with rfl | rfl
      · exact ⟨_, _, _, g2, g1, .inr rfl⟩
      · exact ⟨_, _, _, HR.out.blk, HR.out.lo, .inl rfl⟩
    have HS1 : Hid (∀ w1, Stp w w1 [p] [p] → Stp w w1 [p, b] [p, b]) := fun w1 g => g.more (by simp)
    have HS2 : Hid (∀ w1 w2, Stp w1 w2 [b] [b] → Stp w1 w2 [p, b] [p, b]) := fun w1 w2 g => g.more (by simp)
    have HPE : Hid (∀ r', ((((r.sf p).probe ok t).up = (r.sf p).up ∧ r' = r.prob p ok t) ∨ (((r.sf p).probe ok t).up ≠ (r.sf p).up ∧ LookE (r.prob p ok t) r')) → ProbE k ok t r r' 0) := fun r' h => .inr ⟨p, rfl, HP.out, h⟩
    clear h hp g1 g2 g3 hk HP HR
    generalize ((r.sf p).probe ok t).up = v at *
    generalize (r.sf p).up = u at *
    cases u <;> cases v
    all_goals
      go_enter Try.func11, Try.ntmps11
      go_wp2_with (first
        | (go_at_call 22; refine h1.mono ?_; rintro e w' ⟨rfl, rfl⟩; clear h1)
        | (go_at_call 24; refine h3.mono ?_; rintro e w1 ⟨rfl, hs, g⟩; have HPB := hideL (HPR.out w1 g hs); have HG := hideL g; have h4 := H4.out w1 hs; have hlk := HLK.out w1 HPB.out; clear hs g h3 h2)
        | (go_at_call 23; refine h2.mono ?_; rintro e w' ⟨rfl, rfl⟩)
        | (go_at_call 23; refine h4.mono ?_; rintro e w' ⟨rfl, hw⟩; have hw := hw.symm; subst hw; clear h4)
        | (go_at_call 21; refine hlk.mono ?_; rintro e w2 ⟨rfl, r', hE, hr, hs⟩; have HE := hideL hE; have HR2 := hideL hr; have HS3 := hideL hs; clear hE hr hs hlk))
      go_ret
      first
      | exact ⟨0, rfl, r', HPE.out r' (.inr ⟨by decide, HE.out⟩), HR2.out, [p, b], (HS1.out _ HG.out).trans (HS2.out _ _ HS3.out), HBP.out⟩
      | exact ⟨0, rfl, _, HPE.out _ (.inl ⟨trivial, rfl⟩), HPB.out.mono (by omega), [p, b], HS1.out _ HG.out, HBP.out⟩
end Go.Proofs.Ytidpglbokpgpbaa
