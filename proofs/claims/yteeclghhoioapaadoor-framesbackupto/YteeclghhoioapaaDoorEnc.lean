/-
  Encode: the program's and the document's; FramesWrites' walk.
-/
import Derived.Test.YteeclghhoioapaaDoorPl1
import Derived.Test.YteeclghhoioapaaDoorPl2
import Derived.Test.YteeclghhoioapaaDoorPl3
import Derived.Test.YteeclghhoioapaaDoorPl4
import Derived.Test.YteeclghhoioapaaDoorPl5
import Derived.Test.YteeclghhoioapaaDoorKept
namespace Go.Proofs.YteeclghhoioapaaDoor
open Go.RowKit
set_option linter.unusedVariables false
set_option linter.unusedSimpArgs false
set_option maxRecDepth 100000
/-- Sizes and numbers of a message that may come in. -/
def Sm (m : Ms) : Prop := (-9223372036854775808 ≤ m.kind ∧ m.kind ≤ 9223372036854775807) ∧ Smn m.name m.text m.ver m.frm m.non m.err
def frmB (m : Ms) : List Int := if okM m = true then frame (payM m) else []
def frmE (m : Ms) : Int := if okM m = true then 0 else 2
theorem payM_len (m : Ms) (h : okM m = true) : 1 ≤ (payM m).length ∧ (payM m).length ≤ 65600 := by
  unfold okM at h
  unfold payM
  split at h
  · rename_i hk; rw [if_pos hk]; simp at h; simp [digs_length, sb_length]; omega
  split at h
  · rename_i k1 hk; rw [if_neg k1, if_pos hk]; simp at h; simp [digs_length, sb_length]; omega
  split at h
  · rename_i k1 k2 hk; rw [if_neg k1, if_neg k2, if_pos hk]; simp [digs_length, sb_length]
  split at h
  · rename_i k1 k2 k3 hk; rw [if_neg k1, if_neg k2, if_neg k3, if_pos hk]; simp [digs_length, sb_length]
  · rename_i k1 k2 k3 k4; rw [if_neg k1, if_neg k2, if_neg k3, if_neg k4]; simp [digs_length, sb_length]
theorem payM_octets (m : Ms) : Octets (payM m) := by
  unfold payM
  repeat' split
  all_goals refine Octets.of_cons (by decide) (by decide) ?_
  all_goals repeat (first | exact digs_octets _ _ | exact sb_octets _ | apply Octets.append)
set_option maxHeartbeats 4000000 in
theorem encode_any (m : Ms) (w : World) (hT : Tab w) (hs : Sm m) :
    Calls Tryd.prog 9 #[mv m] w fun e w' => ∃ v, e = .returned (.tuple #[v, .int .i64 (frmE m)]) ∧ Rw w' w.heap.size v (frmB m) ∧ Below w.heap.size w w' := by
  obtain ⟨-, n1, n2, -, -, -, -⟩ := hs
  rcases ho : okM m with _ | _
  · have e1 : frmE m = 2 := by rw [frmE, ho]; rfl
    have e2 : frmB m = [] := by rw [frmB, ho]; rfl
    rw [e1, e2]
    have hM := may_any m
    rw [ho] at hM
    have HM := hideL hM
    clear hM ho e1 e2
    obtain ⟨kind, name, ver, frm, non, err, text⟩ := m
    have hb0 : ∀ cs t, Below w.heap.size w (w.alloc (.cells cs t)) := fun cs t => (Below.refl _ _).alloc (Nat.le_refl _) _
    have HB0 := hideL hb0
    clear hb0
    simp only [mv, mcs] at *
    go_enter Tryd.func9, Tryd.ntmps9
    go_wp2_with (go_at_call 28; refine (HM.out _ (by unfold maxLen; omega) (by unfold maxLen; omega)).mono ?_; rintro e w1 ⟨rfl, hb1⟩; have HB1 := hideL hb1; clear hb1)
    go_ret2
    exact ⟨_, rfl, Rw.nil _ _, (HB0.out _ _).trans (HB1.out.mono (by simp))⟩
  · have e1 : frmE m = 0 := by rw [frmE, ho]; rfl
    have e2 : frmB m = frame (payM m) := by rw [frmB, ho]; rfl
    rw [e1, e2]
    have hM := may_any m
    rw [ho] at hM
    have HM := hideL hM
    have HW := hideL (fun w => write_any m w ho)
    have HL := hideL (payM_len m ho)
    have HO := hideL (payM_octets m)
    have hS := Hw.start w m 29
    obtain ⟨P, hP⟩ : ∃ P, payM m = P := ⟨_, rfl⟩
    rw [hP] at HW HL HO ⊢
    clear hM ho e1 e2 hP
    obtain ⟨kind, name, ver, frm, non, err, text⟩ := m
    have HS := hideL hS
    have HT := hideL hT
    clear hS hT
    simp only [mv, mcs] at *
    go_enter Tryd.func9, Tryd.ntmps9
    go_wp2_with (first
      | (go_at_call 28; refine (HM.out _ (by unfold maxLen; omega) (by unfold maxLen; omega)).mono ?_; rintro e w1 ⟨rfl, hb1⟩; have hS1 := HS.out.below hb1; have hT1 := (HT.out.below HS.out.2.1 HT.out.pos).below hb1 (by simp); obtain ⟨c0, c1, c2, c3, c4, c5, c6⟩ := hS1.1.cs; have HS1 := hideL hS1; have HT1 := hideL hT1; clear hS1 hT1 hb1)
      | (go_at_call 30; refine (HW.out _).mono ?_; rintro e w2 ⟨v2, rfl, hr2, hb2⟩; obtain ⟨a2, cp2, rfl, hh2, hc2, hm2, hn2, -⟩ := hr2.has; have HS2 := hideL (HS1.out.below hb2); have HT2 := hideL (HT1.out.below hb2 HT1.out.pos); have HH2 := hideL hh2; have HN2 := hideL hn2; clear hr2 hb2 hh2 hn2 hc2 hm2 c0 c1 c2 c3 c4 c5 c6)
      | (go_at_call 29; refine (frame_any a2 P.length cp2 P _ rfl HH2.out HN2.out HO.out HT2.out (by have := HL.out.2; omega)).mono ?_; rintro e w3 ⟨g3, rfl, hown3, hb3⟩; have HB3 := hideL (HS2.out.2.1.trans (hb3.mono HS2.out.2.1.size)); have HW3 := hideL hown3; have HG3 := hideL HS2.out.2.1.size; clear hown3 hb3))
    go_ret2
    refine ⟨_, rfl, ?_, HB3.out⟩
    have hl := frame_length P
    refine Rw.mono ?_ HG3.out
    unfold Rw; rw [hl]; exact HW3.out
theorem uw_ok1 (m : Ms) (h : okM m = true) (hk : m.kind = 1) : [1] ++ digs 1 m.name.size ++ sb m.name ++ digs 8 (uw m.ver) = payM m := by
  rw [uw_num _ (okM1 hk h)]; unfold payM; rw [if_pos hk]; simp
theorem uw_ok2 (m : Ms) (h : okM m = true) (hk : m.kind = 2) : [2] ++ digs 8 (uw m.non) ++ digs 8 (uw m.frm) ++ digs 8 (uw m.ver) ++ digs 4 (uw m.text.size) ++ sb m.text = payM m := by
  obtain ⟨h1, h2, h3⟩ := okM2 hk h
  have ht : m.text.size ≤ 65536 := by unfold okM at h; rw [hk] at h; simp at h; exact h.2
  rw [uw_num _ h1, uw_num _ h2, uw_num _ h3, uw_num (m.text.size : Int) (by simp [num]; omega)]; unfold payM; rw [hk]; simp
theorem uw_ok3 (m : Ms) (h : okM m = true) (hk : m.kind = 3) : [3] ++ digs 8 (uw m.non) ++ digs 8 (uw m.ver) = payM m := by
  obtain ⟨h1, h2⟩ := okM3 hk h
  rw [uw_num _ h1, uw_num _ h2]; unfold payM; rw [hk]; simp
theorem uw_ok4 (m : Ms) (h : okM m = true) (hk : m.kind = 4) : [4] ++ digs 8 (uw m.non) ++ digs 8 (uw m.ver) ++ digs 2 (uw m.err) = payM m := by
  obtain ⟨h1, h2, h3⟩ := okM4 hk h
  have ht : m.err ≤ 65535 := by unfold okM at h; rw [hk] at h; simp at h; exact h.2.2
  rw [uw_num _ h1, uw_num _ h2, uw_num m.err (by simp [num]; omega)]; unfold payM; rw [hk]; simp
theorem uw_ok5 (m : Ms) (h : okM m = true) (hk : m.kind = 5) : [5] ++ digs 8 (uw m.non) = payM m := by
  rw [uw_num _ (okM5 hk h)]; unfold payM; rw [hk]; simp
/-- What Payload answers, whatever the message. -/
def PayA (w : World) (m : Ms) (e : Ending) (w' : World) : Prop := ∃ v zs, e = .returned (.tuple #[v, .bool (okM m)]) ∧ Rw w' w.heap.size v zs ∧ Below w.heap.size w w' ∧ (okM m = true → zs = payM m)
theorem PayE.all {w w' : World} {m : Ms} {zs : List Int} {b : Bool} {e : Ending} (h : PayE w m zs b e w') (hb : b = okM m) (hz : okM m = true → zs = payM m) : PayA w m e w' := by
  obtain ⟨v, rfl, h1, h2⟩ := h
  subst hb
  exact ⟨v, zs, rfl, h2.mono (by omega), h1.2.1, hz⟩
set_option maxHeartbeats 2000000 in
theorem rpay_any (m : Ms) (w : World) (hs : Sm m) : Calls Tryd.prog 31 #[mv m] w fun e w' => PayA w m e w' := by
  obtain ⟨hk, hs⟩ := hs
  obtain ⟨kind, name, ver, frm, non, err, text⟩ := m
  by_cases k1 : kind = 1
  · subst k1
    refine (rpay1 name text ver frm non err w _ _ _ rfl rfl rfl hs).mono fun e w' h => h.all ?_ (fun h => uw_ok1 _ h rfl)
    show _ = (decide (1 ≤ name.size ∧ name.size ≤ 64) && num ver)
    congr 1
    rw [Bool.decide_and]; congr 1 <;> (rw [decide_eq_decide]; omega)
  by_cases k2 : kind = 2
  · subst k2
    refine (rpay2 name text ver frm non err w _ _ _ _ rfl rfl rfl rfl hs).mono fun e w' h => h.all ?_ (fun h => uw_ok2 _ h rfl)
    show _ = (num non && num frm && num ver && decide (text.size ≤ 65536))
    congr 1
    rw [decide_eq_decide]; omega
  by_cases k3 : kind = 3
  · subst k3
    exact (rpay3 name text ver frm non err w _ _ rfl rfl hs).mono fun e w' h => h.all rfl (fun h => uw_ok3 _ h rfl)
  by_cases k4 : kind = 4
  · subst k4
    refine (rpay4 name text ver frm non err w _ _ _ _ rfl rfl rfl rfl hs).mono fun e w' h => h.all ?_ (fun h => uw_ok4 _ h rfl)
    show _ = (num non && num ver && decide (1 ≤ err ∧ err ≤ 65535))
    rw [Bool.decide_and, ← Bool.and_assoc]
  by_cases k5 : kind = 5
  · subst k5
    exact (rpay5 name text ver frm non err w _ rfl hs).mono fun e w' h => h.all rfl (fun h => uw_ok5 _ h rfl)
  · have ho : okM { kind := kind, name := name, ver := ver, frm := frm, non := non, err := err, text := text } = false := by
      unfold okM; rw [if_neg k1, if_neg k2, if_neg k3, if_neg k4, if_neg k5]
    unfold PayA
    rw [ho]
    simp only [mv] at *
    have hb : ∀ cs t cs' t', Below w.heap.size w ((w.alloc (.cells cs t)).alloc (.cells cs' t')) := fun cs t cs' t' => ((Below.refl _ w).alloc (Nat.le_refl _) _).alloc (by simp) _
    go_enter Tryd.func31, Tryd.ntmps31
    go_wp2
    go_ret2
    exact ⟨_, [], rfl, Rw.nil _ _, hb _ _ _ _, fun h => by cases h⟩
set_option maxHeartbeats 4000000 in
theorem rencode_any (m : Ms) (w : World) (hs : Sm m) :
    Calls Tryd.prog 11 #[mv m] w fun e w' => ∃ v, e = .returned (.tuple #[v, .int .i64 (frmE m)]) ∧ Rw w' w.heap.size v (frmB m) ∧ Below w.heap.size w w' := by
  have hR := hideL (fun w => rpay_any m w hs)
  have hb0 : ∀ cs t, Below w.heap.size w (w.alloc (.cells cs t)) := fun cs t => (Below.refl _ _).alloc (Nat.le_refl _) _
  have HB0 := hideL hb0
  clear hb0 hs
  rcases ho : okM m with _ | _
  · have e1 : frmE m = 2 := by rw [frmE, ho]; rfl
    have e2 : frmB m = [] := by rw [frmB, ho]; rfl
    rw [e1, e2]
    unfold PayA at hR
    rw [ho] at hR
    obtain ⟨kind, name, ver, frm, non, err, text⟩ := m
    clear ho e1 e2
    simp only [mv, mcs] at *
    go_enter Tryd.func11, Tryd.ntmps11
    go_wp2_with (go_at_call 31; refine (hR.out _).mono ?_; rintro e w1 ⟨v1, zs, rfl, hr1, hb1, -⟩; have HB1 := hideL hb1; clear hb1 hr1)
    go_ret2
    exact ⟨_, rfl, Rw.nil _ _, (HB0.out _ _).trans (HB1.out.mono (by simp))⟩
  · have e1 : frmE m = 0 := by rw [frmE, ho]; rfl
    have e2 : frmB m = frame (payM m) := by rw [frmB, ho]; rfl
    rw [e1, e2]
    have HL := hideL (payM_len m ho)
    have HO := hideL (payM_octets m)
    obtain ⟨P, hP⟩ : ∃ P, payM m = P := ⟨_, rfl⟩
    unfold PayA at hR
    rw [ho] at hR
    rw [hP] at HL HO hR ⊢
    obtain ⟨kind, name, ver, frm, non, err, text⟩ := m
    clear ho e1 e2 hP
    simp only [mv, mcs] at *
    go_enter Tryd.func11, Tryd.ntmps11
    go_wp2_with (first
      | (go_at_call 31; refine (hR.out _).mono ?_; rintro e w1 ⟨v1, zs, rfl, hr1, hb1, hz⟩; have hz : zs = P := by { first | exact hz rfl | exact hz trivial | exact hz }; subst hz; go_loud (obtain ⟨a1, cp1, rfl, hh1, hc1, hm1, hn1, -⟩ := hr1.has; have hx : ∃ x, a1 = some x := by { rcases hh1 with ⟨-, h⟩ | ⟨x, h, -⟩; · { exfalso; have := HL.out.1; rw [h] at this; simp at this }; · { exact ⟨x, h⟩ } }; obtain ⟨x1, rfl⟩ := hx; have HH1 := hideL hh1; have HB1 := hideL ((HB0.out _ _).trans (hb1.mono (by simp))); clear hr1 hb1 hh1 hn1 hc1 hm1))
      | (go_at_call 32; refine (rframe_some x1 zs.length cp1 zs _ rfl (by rcases HH1.out with ⟨h, -⟩ | ⟨x, h, hh⟩; · { cases h }; · { cases h; exact hh }) HO.out (by have := HL.out.2; omega)).mono ?_; rintro e w3 ⟨g3, cp3, rfl, hown3, hb3⟩; have HB3 := hideL (HB1.out.trans (hb3.mono HB1.out.size)); have HW3 := hideL hown3; have HG3 := hideL HB1.out.size; clear hown3 hb3))
    go_ret2
    refine ⟨_, rfl, ?_, HB3.out⟩
    have hl := frame_length zs
    refine Rw.mono ?_ HG3.out
    unfold Rw; rw [hl]; exact HW3.out
end Go.Proofs.YteeclghhoioapaaDoor
