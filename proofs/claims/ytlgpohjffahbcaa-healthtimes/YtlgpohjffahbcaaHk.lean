/- awake's walk. -/
import Derived.Test.YtlgpohjffahbcaaHj
namespace Go.Proofs.Ytlgpohjffahbcaa
open Go.RowKit Ieee
set_option linter.unusedVariables false
set_option linter.unusedSimpArgs false
theorem Hs.pv {w : World} {b : Nat} {s : St} (h : Hs w b s) : Pv w (.pointer (some ⟨b, 0, none⟩)) (some b) (some s) := .at_ b s h
set_option maxRecDepth 100000 in
theorem awake_any (w : World) : Calls Try.prog 19 #[] w fun e w' => e = .returned (.bool true) ∧ Below w.heap.size w w' := by
  have hn1 := new_ok 2 1 w (by decide)
  go_enter Try.func19, Try.ntmps19
  go_wp2_with fail
  refine hn1.mono ?_
  rintro e w1 ⟨rfl, h1, hb1⟩
  have H1 := hide2 h1
  have HB1 := hide2 hb1
  have hn2 := new_no 0 1 w1 (by decide) (by decide) (by decide)
  clear hn1 h1 hb1
  go_wp2_with fail
  refine hn2.mono ?_
  rintro e w' ⟨rfl, rfl⟩
  clear hn2
  have c1 := healthy_any _ _ _ w' H1.out.pv
  go_wp2_with fail
  refine c1.mono ?_
  rintro e w'' ⟨rfl, rfl⟩
  clear c1
  have c2 := probe_any w.heap.size (St.new 2 1) 0 false W1 w'' H1.out (Ok.new (by decide)) (by decide) (by decide)
  rw [aw1] at c2
  go_wp2_with fail
  refine c2.mono ?_
  rintro e w2 ⟨rfl, h2, s2⟩
  have H2 := hide2 h2
  have S2 := hide2 s2
  clear c2 h2 s2
  have o2 : Ok ⟨false, 1, 2, 0, 1, 0, 0⟩ 1 := ⟨by decide, by decide, by decide, by decide, by decide, by decide, by decide, by decide⟩
  have c3 := probe_any w.heap.size _ 1 true W8 w2 H2.out o2 (by decide) (by decide)
  rw [aw2] at c3
  clear o2
  go_wp2_with fail
  refine c3.mono ?_
  rintro e w3 ⟨rfl, h3, s3⟩
  have H3 := hide2 h3
  have S3 := hide2 (S2.out.trans s3)
  clear c3 h3 s3
  have c4 := healthy_any _ _ _ w3 H3.out.pv
  go_wp2_with fail
  refine c4.mono ?_
  rintro e w4 ⟨rfl, rfl⟩
  clear c4
  have c5 := row_any _ _ _ w4 H3.out.pv
  go_wp2_with fail
  refine c5.mono ?_
  rintro e w5 ⟨rfl, rfl⟩
  clear c5
  have o3 : Ok ⟨false, 1, 2, 1, 1, W8, 1⟩ 2 := ⟨by decide, by decide, by decide, by decide, by decide, by decide, by decide, by decide⟩
  have c6 := probe_any w.heap.size _ 2 true W4 w5 H3.out o3 (by decide) (by decide)
  rw [aw3] at c6
  clear o3
  go_wp2_with fail
  refine c6.mono ?_
  rintro e w6 ⟨rfl, h6, s6⟩
  have H6 := hide2 h6
  have S6 := hide2 (S3.out.trans s6)
  clear c6 h6 s6
  have c7 := healthy_any _ _ _ w6 H6.out.pv
  have c8 := row_any _ _ _ w6 H6.out.pv
  have c9 := turns_any _ _ _ w6 H6.out.pv
  have c10 := took_any _ _ _ w6 H6.out.pv
  have c11 := timed_any _ _ _ w6 H6.out.pv
  have hq : (FloatKind.f64.format.order W7 4619567317775286272 == some .eq) = true := by decide +kernel
  go_wp2_with (first
    | (go_at_call 20; refine c7.mono ?_; rintro e w7 ⟨rfl, rfl⟩)
    | (go_at_call 22; refine c8.mono ?_; rintro e w7 ⟨rfl, rfl⟩)
    | (go_at_call 21; refine c9.mono ?_; rintro e w7 ⟨rfl, rfl⟩)
    | (go_at_call 23; refine c10.mono ?_; rintro e w7 ⟨rfl, rfl⟩)
    | (go_at_call 24; refine c11.mono ?_; rintro e w7 ⟨rfl, rfl⟩))
  go_ret
  exact ⟨rfl, HB1.out.trans (S6.out.below (fun k hk => by simp at hk; omega) HB1.out.size)⟩
end Go.Proofs.Ytlgpohjffahbcaa
