/-
  The walk of CheckMerges.
-/
import Derived.Test.YtmljljpldljpjaaMy
namespace Go.Proofs.Ytmljljpldljpjaa
open Go.RowKit
set_option linter.unusedVariables false
set_option linter.unusedSimpArgs false
set_option maxRecDepth 100000
theorem mg_len (C D : List Rs) : (mgL C D).length ≤ 64 := by
  unfold mgL
  rcases hm : mrF C D with _ | ⟨a, x⟩
  · obtain ⟨h1, h2, h3⟩ := mrF_none hm
    dsimp only
    rw [(merg_perm h1 h2).1.length_eq]; exact h3
  · exact Nat.zero_le _
set_option maxHeartbeats 4000000 in
theorem num_any (w : World) (x : Int) : Calls Try.prog 12 #[.int .i64 x] w fun e w' => e = .returned (.int .i64 x) ∧ w' = w := by
  go_enter Try.func12, Try.ntmps12
  go_wp2
  go_ret
  exact ⟨rfl, rfl⟩
set_option maxHeartbeats 32000000 in
theorem checkMerges_any (w : World) (a b : Option Addr) (n m c1 c2 : Nat) (F T : List Rx) (hF : Lr w a F) (hT : Lr w b T) (hbF : ∀ o ∈ F, Bare o) (hbT : ∀ o ∈ T, Bare o) (hn : F.length = n) (hm : T.length = m) (hs : n ≤ 1048576) (hs2 : m ≤ 1048576) (hfF : Frm a n c1) (hfT : Frm b m c2) :
    Calls Try.prog 3 #[.slice a n c1, .slice b m c2] w fun e w' => e = .returned (.bool true) ∧ Below w.heap.size w w' := by
  subst hn hm
  have HF := hideL hF
  have HTT := hideL hT
  have HBF := hideL hbF
  have HBT := hideL hbT
  have HFF := hideL hfF
  have HFT := hideL hfT
  clear hF hT hbF hbT hfF hfT
  go_enter Try.func3, Try.ntmps3
  go_wp2_with fail
  refine (own_e w a c1 F HF.out HBF.out hs).mono ?_
  rintro e w1 ⟨a1, k1, A, rfl, hA1, hA2, hA3, hA4, hb1⟩
  have HA := hideL hA3
  have HAE := hideL hA4
  have HAL := hideL hA1
  have HB1 := hideL hb1
  clear hA1 hA2 hA3 hA4 hb1
  go_wp2_with fail
  refine (own_e w1 b c2 T (HTT.out.below HB1.out) HBT.out hs2).mono ?_
  rintro e w2 ⟨a2, k2, B, rfl, hA1, hA2, hA3, hA4, hb2⟩
  have HBB := hideL hA3
  have HBE := hideL hA4
  have HBL := hideL hA1
  have HA2 := hideL (HA.out.below hb2)
  have HB2 := hideL (HB1.out.trans (hb2.mono HB1.out.size))
  clear hA1 hA2 hA3 hA4 hb2 HA HB1
  have HD : Hid (Calls Try.prog 10 #[.slice a1 F.length k1, .slice a2 T.length k2] w2 fun e w' => MeE w2 (F.map Rx.toRs) (T.map Rx.toRs) e w') := by
    have := merge_e w2 a1 a2 k1 k2 A B HA2.out HBB.out (by rw [HAL.out]; exact hs) (by rw [HBL.out]; exact hs2)
    rw [HAE.out, HBE.out, HAL.out, HBL.out] at this
    exact this
  have HRD := hideL (fun W (hW : Below w.heap.size w W) => rmerge_e W a b c1 c2 F T (HF.out.below hW) (HTT.out.below hW) HFF.out HFT.out hs hs2)
  have HML := hideL (mg_len (F.map Rx.toRs) (T.map Rx.toRs))
  unfold MeE at HD HRD
  generalize mgL (F.map Rx.toRs) (T.map Rx.toRs) = R at HD HRD HML
  generalize mgA (F.map Rx.toRs) (T.map Rx.toRs) = p at HD HRD
  generalize mgX (F.map Rx.toRs) (T.map Rx.toRs) = x at HD HRD
  go_wp2_with fail
  refine HD.out.mono ?_
  rintro e w3 ⟨a3, k3, D, rfl, hD1, hD3, hD4, hb3⟩
  have HDD := hideL hD3
  have HDE := hideL hD4
  have HDL := hideL hD1
  have HA3 := hideL (HA2.out.below hb3)
  have HBB3 := hideL (HBB.out.below hb3)
  have HB3 := hideL (HB2.out.trans (hb3.mono HB2.out.size))
  clear hD1 hD3 hD4 hb3 HA2 HB2 HBB HD
  go_wp2_with fail
  refine (HRD.out w3 HB3.out).mono ?_
  rintro e w4 ⟨a4, k4, Q, rfl, hQ1, hQ2, hQ3, hb4⟩
  have HLI := hideL (fun W (h : Gr w4 W) => lists_any W a3 a4 R.length k3 k4 D Q HDL.out (by have := HML.out; omega) ((HDD.out.below hb4).below h.below) (hQ2.below h.below) (by rw [HDE.out, hQ3]))
  have HA4 := hideL (HA3.out.below hb4)
  have HBB4 := hideL (HBB3.out.below hb4)
  have HB4 := hideL (HB3.out.trans (hb4.mono HB3.out.size))
  clear hQ1 hQ2 hQ3 hb4 HA3 HBB3 HB3 HDD HRD
  have HNU : Hid (∀ W, Calls Try.prog 12 #[.int .i64 x] W fun e w' => e = .returned (.int .i64 x) ∧ w' = W) := fun W => num_any W x
  go_wp2_with fail
  refine (HNU.out _).mono ?_
  rintro e w5 ⟨rfl, hw⟩
  have hw := hw.symm
  subst hw
  go_wp2_with fail
  refine (HLI.out _ (Gr.refl _)).mono ?_
  rintro e w5 ⟨rfl, hg5⟩
  have HA5 := hideL (HA4.out.below hg5.below)
  have HBB5 := hideL (HBB4.out.below hg5.below)
  have HB5 := hideL (HB4.out.trans (hg5.below.mono HB4.out.size))
  clear hg5 HA4 HBB4 HB4 HLI
  go_wp2_with fail
  refine (own_e w5 a c1 F (HF.out.below HB5.out) HBF.out hs).mono ?_
  rintro e w6 ⟨a6, k6, A6, rfl, hA1, hA2, hA3, hA4, hb6⟩
  have HLI := hideL (lists_any w6 a1 a6 F.length k1 k6 A A6 HAL.out (by omega) (HA5.out.below hb6) hA3 (by rw [HAE.out, hA4]))
  have HBB6 := hideL (HBB5.out.below hb6)
  have HB6 := hideL (HB5.out.trans (hb6.mono HB5.out.size))
  clear hA1 hA2 hA3 hA4 hb6 HA5 HBB5 HB5
  go_wp2_with fail
  refine HLI.out.mono ?_
  rintro e w7 ⟨rfl, hg7⟩
  have HBB7 := hideL (HBB6.out.below hg7.below)
  have HB7 := hideL (HB6.out.trans (hg7.below.mono HB6.out.size))
  clear hg7 HBB6 HB6 HLI
  go_wp2_with fail
  refine (own_e w7 b c2 T (HTT.out.below HB7.out) HBT.out hs2).mono ?_
  rintro e w8 ⟨a8, k8, A8, rfl, hA1, hA2, hA3, hA4, hb8⟩
  have HLI := hideL (lists_any w8 a2 a8 T.length k2 k8 B A8 HBL.out (by omega) (HBB7.out.below hb8) hA3 (by rw [HBE.out, hA4]))
  have HB8 := hideL (HB7.out.trans (hb8.mono HB7.out.size))
  clear hA1 hA2 hA3 hA4 hb8 HBB7 HB7
  go_wp2_with fail
  refine HLI.out.mono ?_
  rintro e w9 ⟨rfl, hg9⟩
  have HB9 := hideL (HB8.out.trans (hg9.below.mono HB8.out.size))
  clear hg9 HB8 HLI
  go_wp2
  go_ret
  exact ⟨rfl, HB9.out⟩
end Go.Proofs.Ytmljljpldljpjaa
