/- Package health's calls. -/
import Derived.Test.YtidpglbokpgpbaaHb
namespace Go.Proofs.Ytidpglbokpgpbaa
open Go.RowKit Ieee
set_option linter.unusedVariables false
set_option linter.unusedSimpArgs false
def St.lngd (s : St) (ok : Bool) : St := { s with row := lng s.row ok }
theorem probe_any (b : Nat) (s : St) (n : Nat) (ok : Bool) (t : Nat) (w : World) (h : Hs w b s) (hs : Ok s n) (hn : n ≤ 900000) (ht : t < 18446744073709551616) :
    Calls Try.prog 24 #[.pointer (some ⟨b, 0, none⟩), .bool ok, .float .f64 t] w fun e w' => e = .returned (.int .i64 0) ∧ Hs w' b (s.probe ok t) ∧ Stp w w' [b] [b] := by
  obtain ⟨c0, c1, c2, c3, c4, c5, c6⟩ := h.cells
  have z := h.froz
  have HH := hide2 h
  have HO := hide2 hs
  have hr := hs.row
  have hl := longer_any s.row ok w (by omega) (by omega)
  have hr2 := lng_range ok hs.row
  have ht1 := hs.turns
  have htm := hs.timed
  obtain ⟨x, hx⟩ : ∃ x, lng s.row ok = x := ⟨_, rfl⟩
  have HX := hide2 hx
  rw [hx] at hl hr2
  have HN := hide2 (And.intro hn (And.intro ht (And.intro ht1 htm)))
  obtain ⟨tb, htb⟩ : ∃ tb, thr s = tb := ⟨_, rfl⟩
  have HT := hide2 htb
  -- the world behind the new row
  obtain ⟨w1, hw1⟩ : ∃ w1, w.setCell ⟨b, 3, none⟩ (.int .i64 x) = w1 := ⟨_, rfl⟩
  have h1 : Hs w1 b { s with row := x } := by
    rw [← hw1]; unfold Hs
    rw [set_blk h 3 _]; rfl
  have H1 := hide2 h1
  have S1 := hide2 (show Stp w w1 [b] [b] from hw1 ▸ Stp.set b 3 _ (by simp))
  obtain ⟨d0, d1, d2, d3, d4, d5, d6⟩ := h1.cells
  have z1 := h1.froz
  have hct : Calls Try.prog 38 #[.float .f64 t] w1 _ := counts_any t w1
  clear h hs hr hn ht ht1 htm hx c0 c1 c2 c4 c5 c6 h1 d4 d5 d6
  go_enter Try.func24, Try.ntmps24
  go_wp2_with (first
    | (go_at_call 36; refine hl.mono ?_; rintro e w' ⟨rfl, rfl⟩))
  cases hu : s.up with
  | true =>
    have HUp := hide2 hu
    rw [hu] at d0
    replace d0 : w1.cell? ⟨b, 0, none⟩ = some (.int .i64 0) := d0
    have e1 : -s.fall = tb := by have := HT.out; unfold thr at this; rw [hu] at this; simpa using this
    rw [e1] at d1
    clear hu e1 htb hw1 hl c3 z hct
    go_quiet (fail)
    obtain ⟨w2, hw2⟩ : ∃ w2, w1.drewN nq = w2 := ⟨_, rfl⟩
    have H2 := hide2 (show Hs w2 b { s with row := x } from hw2 ▸ H1.out.drew nq)
    have S2 := hide2 (show Stp w' w2 [b] [b] from S1.out.trans (hw2 ▸ Stp.drew nq [b]))
    rw [hw2]
    clear hw2 H1 S1 HH d0 d1 d2 d3 z1
    by_cases hxt : x = tb
    · have HXT := hide2 hxt
      have g1 : (x == tb) = true := by simpa using hxt
      have htn := turn_any b { s with row := x } n w2 H2.out (by have := HN.out; show s.turns ≤ 1000000; omega)
      have er : (s.rowed ok) = { s with up := !s.up, row := 0, turns := s.turns + 1 } := by
        unfold St.rowed; rw [HX.out, HT.out, if_pos hxt]
      have HE := hide2 er
      clear er hxt H2
      by_cases hok : ok = true ∧ mb t
      · obtain ⟨rfl, hm⟩ := hok
        have HM := hide2 hm
        have gm : decide (mb t) = true := by simpa using hm
        clear hm
        go_wp2_with (first
          | (go_at_call 37; refine htn.mono ?_; rintro e w3 ⟨rfl, h3, s3⟩; have H3 := hide2 h3; have S3 := hide2 (S2.out.trans s3); have hct := counts_any t w3; rw [gm] at hct; have htm := time_any b (s.rowed true) t w3 (HE.out ▸ h3) (by have := HN.out; rw [HE.out]; show s.timed ≤ 1000000; omega) HN.out.2.1 HM.out (by rw [HE.out]; exact HO.out.took); clear h3 s3 htn)
          | (go_at_call 38; refine hct.mono ?_; rintro e w' ⟨rfl, rfl⟩)
          | (go_at_call 39; refine htm.mono ?_; rintro e w4 ⟨rfl, h4, s4⟩; have H4 := hide2 h4; have S4 := hide2 (S3.out.trans s4); clear h4 s4 htm))
        go_ret
        refine ⟨rfl, ?_, S4.out⟩
        have e : s.probe true t = (s.rowed true).tmd t := by unfold St.probe; rw [if_pos ⟨rfl, HM.out⟩]
        rw [e]; exact H4.out
      · have e : s.probe ok t = s.rowed ok := by unfold St.probe; rw [if_neg hok]
        have HP := hide2 (e.trans HE.out)
        clear e
        cases ok with
        | true =>
          have gm : decide (mb t) = false := by simpa using hok
          clear hok
          go_wp2_with (first
            | (go_at_call 37; refine htn.mono ?_; rintro e w3 ⟨rfl, h3, s3⟩; have H3 := hide2 h3; have S3 := hide2 (S2.out.trans s3); have hct := counts_any t w3; rw [gm] at hct; clear h3 s3 htn)
            | (go_at_call 38; refine hct.mono ?_; rintro e w' ⟨rfl, rfl⟩))
          go_ret
          exact ⟨rfl, HP.out ▸ H3.out, S3.out⟩
        | false =>
          clear hok
          go_wp2_with (first
            | (go_at_call 37; refine htn.mono ?_; rintro e w3 ⟨rfl, h3, s3⟩; have H3 := hide2 h3; have S3 := hide2 (S2.out.trans s3); clear h3 s3 htn))
          go_ret
          exact ⟨rfl, HP.out ▸ H3.out, S3.out⟩
    · have g1 : (x == tb) = false := by simpa using hxt
      have er : (s.rowed ok) = { s with row := x } := by
        unfold St.rowed; rw [HX.out, HT.out, if_neg hxt]
      have HE := hide2 er
      clear er hxt
      by_cases hok : ok = true ∧ mb t
      · obtain ⟨rfl, hm⟩ := hok
        have HM := hide2 hm
        have gm : decide (mb t) = true := by simpa using hm
        have hct := counts_any t w2
        rw [gm] at hct
        have htm := time_any b (s.rowed true) t w2 (HE.out ▸ H2.out) (by have := HN.out; rw [HE.out]; show s.timed ≤ 1000000; omega) HN.out.2.1 HM.out (by rw [HE.out]; exact HO.out.took)
        clear hm gm
        go_wp2_with (first
          | (go_at_call 38; refine hct.mono ?_; rintro e w' ⟨rfl, rfl⟩)
          | (go_at_call 39; refine htm.mono ?_; rintro e w4 ⟨rfl, h4, s4⟩; have H4 := hide2 h4; have S4 := hide2 (S2.out.trans s4); clear h4 s4 htm))
        go_ret
        refine ⟨rfl, ?_, S4.out⟩
        have e : s.probe true t = (s.rowed true).tmd t := by unfold St.probe; rw [if_pos ⟨rfl, HM.out⟩]
        rw [e]; exact H4.out
      · have e : s.probe ok t = s.rowed ok := by unfold St.probe; rw [if_neg hok]
        have HP := hide2 (e.trans HE.out)
        clear e
        cases ok with
        | true =>
          have gm : decide (mb t) = false := by simpa using hok
          have hct := counts_any t w2
          rw [gm] at hct
          clear hok gm
          go_wp2_with (first
            | (go_at_call 38; refine hct.mono ?_; rintro e w' ⟨rfl, rfl⟩))
          go_ret
          exact ⟨rfl, HP.out ▸ H2.out, S2.out⟩
        | false =>
          clear hok
          go_wp2_with fail
          go_ret
          exact ⟨rfl, HP.out ▸ H2.out, S2.out⟩
  | false =>
    have HUp := hide2 hu
    rw [hu] at d0
    replace d0 : w1.cell? ⟨b, 0, none⟩ = some (.int .i64 1) := d0
    have e1 : s.rise = tb := by have := HT.out; unfold thr at this; rw [hu] at this; simpa using this
    rw [e1] at d2
    clear hu e1 htb hw1 hl c3 z hct
    go_quiet (fail)
    obtain ⟨w2, hw2⟩ : ∃ w2, w1.drewN nq = w2 := ⟨_, rfl⟩
    have H2 := hide2 (show Hs w2 b { s with row := x } from hw2 ▸ H1.out.drew nq)
    have S2 := hide2 (show Stp w' w2 [b] [b] from S1.out.trans (hw2 ▸ Stp.drew nq [b]))
    rw [hw2]
    clear hw2 H1 S1 HH d0 d1 d2 d3 z1
    by_cases hxt : x = tb
    · have HXT := hide2 hxt
      have g1 : (x == tb) = true := by simpa using hxt
      have htn := turn_any b { s with row := x } n w2 H2.out (by have := HN.out; show s.turns ≤ 1000000; omega)
      have er : (s.rowed ok) = { s with up := !s.up, row := 0, turns := s.turns + 1 } := by
        unfold St.rowed; rw [HX.out, HT.out, if_pos hxt]
      have HE := hide2 er
      clear er hxt H2
      by_cases hok : ok = true ∧ mb t
      · obtain ⟨rfl, hm⟩ := hok
        have HM := hide2 hm
        have gm : decide (mb t) = true := by simpa using hm
        clear hm
        go_wp2_with (first
          | (go_at_call 37; refine htn.mono ?_; rintro e w3 ⟨rfl, h3, s3⟩; have H3 := hide2 h3; have S3 := hide2 (S2.out.trans s3); have hct := counts_any t w3; rw [gm] at hct; have htm := time_any b (s.rowed true) t w3 (HE.out ▸ h3) (by have := HN.out; rw [HE.out]; show s.timed ≤ 1000000; omega) HN.out.2.1 HM.out (by rw [HE.out]; exact HO.out.took); clear h3 s3 htn)
          | (go_at_call 38; refine hct.mono ?_; rintro e w' ⟨rfl, rfl⟩)
          | (go_at_call 39; refine htm.mono ?_; rintro e w4 ⟨rfl, h4, s4⟩; have H4 := hide2 h4; have S4 := hide2 (S3.out.trans s4); clear h4 s4 htm))
        go_ret
        refine ⟨rfl, ?_, S4.out⟩
        have e : s.probe true t = (s.rowed true).tmd t := by unfold St.probe; rw [if_pos ⟨rfl, HM.out⟩]
        rw [e]; exact H4.out
      · have e : s.probe ok t = s.rowed ok := by unfold St.probe; rw [if_neg hok]
        have HP := hide2 (e.trans HE.out)
        clear e
        cases ok with
        | true =>
          have gm : decide (mb t) = false := by simpa using hok
          clear hok
          go_wp2_with (first
            | (go_at_call 37; refine htn.mono ?_; rintro e w3 ⟨rfl, h3, s3⟩; have H3 := hide2 h3; have S3 := hide2 (S2.out.trans s3); have hct := counts_any t w3; rw [gm] at hct; clear h3 s3 htn)
            | (go_at_call 38; refine hct.mono ?_; rintro e w' ⟨rfl, rfl⟩))
          go_ret
          exact ⟨rfl, HP.out ▸ H3.out, S3.out⟩
        | false =>
          clear hok
          go_wp2_with (first
            | (go_at_call 37; refine htn.mono ?_; rintro e w3 ⟨rfl, h3, s3⟩; have H3 := hide2 h3; have S3 := hide2 (S2.out.trans s3); clear h3 s3 htn))
          go_ret
          exact ⟨rfl, HP.out ▸ H3.out, S3.out⟩
    · have g1 : (x == tb) = false := by simpa using hxt
      have er : (s.rowed ok) = { s with row := x } := by
        unfold St.rowed; rw [HX.out, HT.out, if_neg hxt]
      have HE := hide2 er
      clear er hxt
      by_cases hok : ok = true ∧ mb t
      · obtain ⟨rfl, hm⟩ := hok
        have HM := hide2 hm
        have gm : decide (mb t) = true := by simpa using hm
        have hct := counts_any t w2
        rw [gm] at hct
        have htm := time_any b (s.rowed true) t w2 (HE.out ▸ H2.out) (by have := HN.out; rw [HE.out]; show s.timed ≤ 1000000; omega) HN.out.2.1 HM.out (by rw [HE.out]; exact HO.out.took)
        clear hm gm
        go_wp2_with (first
          | (go_at_call 38; refine hct.mono ?_; rintro e w' ⟨rfl, rfl⟩)
          | (go_at_call 39; refine htm.mono ?_; rintro e w4 ⟨rfl, h4, s4⟩; have H4 := hide2 h4; have S4 := hide2 (S2.out.trans s4); clear h4 s4 htm))
        go_ret
        refine ⟨rfl, ?_, S4.out⟩
        have e : s.probe true t = (s.rowed true).tmd t := by unfold St.probe; rw [if_pos ⟨rfl, HM.out⟩]
        rw [e]; exact H4.out
      · have e : s.probe ok t = s.rowed ok := by unfold St.probe; rw [if_neg hok]
        have HP := hide2 (e.trans HE.out)
        clear e
        cases ok with
        | true =>
          have gm : decide (mb t) = false := by simpa using hok
          have hct := counts_any t w2
          rw [gm] at hct
          clear hok gm
          go_wp2_with (first
            | (go_at_call 38; refine hct.mono ?_; rintro e w' ⟨rfl, rfl⟩))
          go_ret
          exact ⟨rfl, HP.out ▸ H2.out, S2.out⟩
        | false =>
          clear hok
          go_wp2_with fail
          go_ret
          exact ⟨rfl, HP.out ▸ H2.out, S2.out⟩
end Go.Proofs.Ytidpglbokpgpbaa
