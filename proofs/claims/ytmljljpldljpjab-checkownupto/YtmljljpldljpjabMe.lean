/-
  Merge.
-/
import Derived.Test.YtmljljpldljpjabMg
import Derived.Test.YtmljljpldljpjabNn
import Derived.OwnWalk
namespace Go.Proofs.Ytmljljpldljpjab
open Go.RowKit
set_option linter.unusedVariables false
set_option linter.unusedSimpArgs false
set_option maxRecDepth 100000
theorem wrongF_ne {C D : List Rs} {i : Nat} {x : Int} (h : wrongF C D = some (i, x)) : x ≠ 0 := by
  unfold wrongF at h
  split at h
  · rename_i j hj
    have hp := List.find?_some hj
    simp only [Option.some.injEq, Prod.mk.injEq] at h
    obtain ⟨rfl, hx⟩ := h
    rcases hD : D[j]? with _ | r
    · rw [hD] at hp; cases hp
    · rw [hD] at hp hx
      dsimp only at hp hx
      rw [← hx]
      exact of_decide_eq_true hp
  · cases h
/-- what Merge refuses, and why -/
def mrF (C D : List Rs) : Option (Int × Int) := if astF C ≠ C.length then some (0, 2) else match wrongF C D with | some (i, x) => some ((i : Int), x) | none => if 64 < (mergL C D).length then some (0, 124) else none
/-- what Merge leaves -/
def MergE (w : World) (C D : List Rs) (e : Ending) (w' : World) : Prop := Below w.heap.size w w' ∧ ((∃ a x, mrF C D = some (a, x) ∧ e = .returned (.tuple #[.slice none 0 0, .int .i64 a, .int .i64 x])) ∨
  (mrF C D = none ∧ ∃ a c qs, e = .returned (.tuple #[.slice a (qs.length : Nat) c, .int .i64 0, .int .i64 0]) ∧ Ol w' w.heap.size (.slice a qs.length c) qs ∧ SortP (mergL C D) (qs.map Rx.toRs)))
theorem mergL_len (C D : List Rs) : (mergL C D).length ≤ C.length + D.length := by
  unfold mergL
  rw [List.length_append]
  have := List.length_filter_le (fun r => (firstsF D r.key).isNone) C
  have := List.length_filter_le (fun r : Rs => !r.del) D
  omega
set_option maxHeartbeats 16000000 in
theorem merge_any (w : World) (a b : Option Addr) (n m c1 c2 : Nat) (C D : List Rx) (hC : Lr w a C) (hD : Lr w b D) (hn : C.length = n) (hm : D.length = m) (hs : n ≤ 1048576) (hs2 : m ≤ 1048576) :
    Calls Try.prog 6 #[.slice a n c1, .slice b m c2] w fun e w' => MergE w (C.map Rx.toRs) (D.map Rx.toRs) e w' := by
  have HC := hideL hC
  have HD := hideL hD
  have HN := hideL hn
  have HM := hideL hm
  clear hC hD hn hm
  have HO := hideL (ordered_any w a n c1 C HC.out HN.out (by omega))
  have hCl : (C.map Rx.toRs).length = n := by simp [HN.out]
  have HCL := hideL hCl
  clear hCl
  go_enter Try.func6, Try.ntmps6
  go_wp2_with fail
  refine HO.out.mono ?_
  rintro e w1 ⟨rfl, hg1⟩
  have HG1 := hideL hg1
  clear hg1 HO
  by_cases ho : astF (C.map Rx.toRs) = n
  · rw [decide_eq_true ho]
    have HOR := hideL ho
    clear ho
    go_wp2_with fail
    refine (firsts_any w1 a n c1 C (HC.out.below HG1.out.below) HN.out (by omega)).mono ?_
    rintro e w2 ⟨rfl, hm2, hb2⟩
    have HB2 := hideL (HG1.out.below.trans (hb2.mono HG1.out.below.size))
    have HW := hideL (wrong_any w2 b m c2 D (C.map Rx.toRs) w1.heap.size n (HD.out.below HB2.out) HM.out hs2 hm2)
    clear hm2 hb2
    go_wp2_with fail
    refine HW.out.mono ?_
    rintro e w3 ⟨rfl, hb3⟩
    have HB3 := hideL (HB2.out.trans (hb3.mono HB2.out.size))
    clear hb3 HW
    rcases hwr : wrongF (C.map Rx.toRs) (D.map Rx.toRs) with _ | ⟨i, x⟩
    · have HMR : Hid (mrF (C.map Rx.toRs) (D.map Rx.toRs) = if 64 < (mergL (C.map Rx.toRs) (D.map Rx.toRs)).length then some (0, 124) else none) := by
        unfold Hid mrF
        rw [if_neg (by rw [HOR.out, HCL.out]; simp), hwr]
      have HA : Hid (Calls Try.prog 17 #[.slice a n c1, .slice b m c2] w3 fun e w' => ∃ v os, e = .returned v ∧ Gl w3 w' v os ∧ os.map Rx.toRs = mergL (C.map Rx.toRs) (D.map Rx.toRs)) := merged_any w3 a b n m c1 c2 C D (HC.out.below HB3.out) (HD.out.below HB3.out) HN.out HM.out hs hs2
      unfold wrA wrE
      dsimp only
      clear hwr
      go_wp2_with fail
      refine HA.out.mono ?_
      rintro e w4 ⟨v4, os, rfl, hgl, hos⟩
      obtain ⟨va, vc, rfl, _, hvc, hvm⟩ := own_form hgl.row
      have HL4 := hideL hgl.lr
      have HOS := hideL hos
      have hol : os.length = (mergL (C.map Rx.toRs) (D.map Rx.toRs)).length := by rw [← hos, List.length_map]
      have hle := mergL_len (C.map Rx.toRs) (D.map Rx.toRs)
      have hsz : os.length ≤ 2097152 := by rw [hol]; simp only [List.length_map] at hle; have := HN.out; have := HM.out; omega
      have HB4 := hideL (HB3.out.trans (hgl.bel.mono HB3.out.size))
      have HOL := hideL hol
      clear hgl hos hol hle HA
      by_cases h64 : 64 < os.length
      · have HR : Hid (mrF (C.map Rx.toRs) (D.map Rx.toRs) = some (0, 124)) := by unfold Hid; rw [HMR.out, if_pos (by rw [← HOL.out]; exact h64)]
        have h64' : (64 : Int) < os.length := by omega
        go_wp2
        go_ret3
        exact ⟨HB4.out, .inl ⟨0, 124, HR.out, rfl⟩⟩
      · have HR : Hid (mrF (C.map Rx.toRs) (D.map Rx.toRs) = none) := by unfold Hid; rw [HMR.out, if_neg (by rw [← HOL.out]; exact h64)]
        have h64' : ¬ (64 : Int) < os.length := by omega
        go_wp2_with fail
        refine (sorted_any sort_none w4 va os.length vc os HL4.out rfl (by omega)).mono ?_
        rintro e w5 ⟨v5, qs, rfl, hol5, hso, hb5⟩
        obtain ⟨a5, c5, rfl, _⟩ := own_form hol5.row
        have HO5 := hideL (hol5.low HB4.out.size)
        have HS5 := hideL hso
        have HB5 := hideL (HB4.out.trans (hb5.mono HB4.out.size))
        clear hol5 hso hb5
        go_wp2
        go_ret3
        exact ⟨HB5.out, .inr ⟨HR.out, a5, c5, qs, rfl, HO5.out, by rw [← HOS.out]; exact HS5.out⟩⟩
    · have hne := wrongF_ne hwr
      have HMR : Hid (mrF (C.map Rx.toRs) (D.map Rx.toRs) = some ((i : Int), x)) := by
        unfold Hid mrF
        rw [if_neg (by rw [HOR.out, HCL.out]; simp), hwr]
      have hne' : (x != 0) = true := by simpa using hne
      have HNE := hideL hne
      unfold wrA wrE
      dsimp only
      clear hwr hne
      go_wp2
      go_ret3
      exact ⟨HB3.out, .inl ⟨i, x, HMR.out, rfl⟩⟩
  · rw [decide_eq_false ho]
    have HMR : Hid (mrF (C.map Rx.toRs) (D.map Rx.toRs) = some (0, 2)) := by
      unfold Hid mrF
      rw [if_pos (by rw [HCL.out]; exact ho)]
    clear ho
    go_wp2
    go_ret3
    exact ⟨HG1.out.below, .inl ⟨0, 2, HMR.out, rfl⟩⟩
end Go.Proofs.Ytmljljpldljpjab
