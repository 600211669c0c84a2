/-
  The document's Decimal, whole; the walk of ScalarScales.
-/
import Derived.Test.YthfmepnlbaifcaaDg
namespace Go.Proofs.Ythfmepnlbaifcaa
open Go.RowKit Ieee
set_option linter.unusedVariables false
set_option linter.unusedSimpArgs false
/-- an operation that has no answer draws what is no number -/
theorem run_nan (x y : Nat) (w : World) (h : floatBits .sub .f64 x y = none) : ∃ r, INF < rg r ∧ (binOp .sub 23 (.float .f64 x) (.float .f64 y)).run Try.prog w = .ok (.float .f64 r) (w.drewN 1) := by
  unfold floatBits at h
  refine ⟨(Question.nanBits .f64 x y).cut (w.tape w.drawn (.nanBits .f64 x y)), ?_, ?_⟩
  · show INF < rg ((_ % 2) * 2 ^ 63 + 0x7ff0000000000000 + 1 + _ % (2 ^ 52 - 1))
    unfold rg
    generalize w.tape w.drawn (.nanBits .f64 x y) = t
    have e : t % 2 * 2 ^ 63 + 0x7ff0000000000000 + 1 + t / 2 % (2 ^ 52 - 1) = (0x7ff0000000000000 + 1 + t / 2 % (2 ^ 52 - 1)) + 2 ^ 63 * (t % 2) := by omega
    rw [e, Nat.add_mul_mod_self_left, Nat.mod_eq_of_lt (by omega)]
    simp only [INF]
    omega
  · simp only at h
    simp [binOp, Op.floatArith, h, Question.forced, World.drewN]
theorem rdec_no {x : Nat} (w : World) (h : ¬ (0 < rg x ∧ rg x < INF ∧ ng x = false)) :
    Calls Try.prog 7 #[.float .f64 x] w fun e w' => e = .returned (.tuple #[.int .u64 0, .int .i64 0, .int .i64 2]) ∧ ∃ q, w' = w.drewN q := by
  cases h1 : (FloatKind.f64.format.order x 0 == some .gt) with
  | false =>
    go_enter Try.func7, Try.ntmps7
    go_wp2
    go_ret3
    exact ⟨rfl, 0, by simp [World.drewN]⟩
  | true =>
    have hinf : INF ≤ rg x := by
      rcases not_pos h with h2 | h2
      · have : (double.order x 0 == some .gt) = true := h1
        rw [this] at h2; cases h2
      · rw [le_max, decide_eq_false_iff_not] at h2
        omega
    obtain ⟨r, hr, hrun⟩ := run_nan x x w (sub_none x hinf)
    have hq : (FloatKind.f64.format.order r 0 == some .eq) = false := by
      show (double.order r 0 == some .eq) = false
      rw [order_nan r 0 (.inl hr)]; rfl
    have hq2 : (FloatKind.f64.format.order r 0 != some .eq) = true := by rw [bne, hq]; rfl
    clear h hr hinf
    go_enter Try.func7, Try.ntmps7
    go_wp2
    go_ret3
    exact ⟨rfl, 1, rfl⟩
theorem no_hit {x : Nat} {k : Int} {l : Nat} (k1 : -22 ≤ k) (k2 : k ≤ 22) (hl : IsL x k l) (hne : ¬ (1 ≤ l ∧ scF l k = x)) : ∀ M, ¬ Hit x k M := by
  rintro M ⟨h1, h2, h3⟩
  rcases hl with ⟨_, hall⟩ | ⟨l1, l2, hall, hge⟩
  · have := hall M h1 h2
    rw [h3] at this
    omega
  · rcases Nat.lt_trichotomy M l with hc | hc | hc
    · have := hall M h1 hc
      rw [h3] at this
      omega
    · subst hc; exact hne ⟨l1, h3⟩
    · have := scF_rise l1 hc h2 k1 k2
      rw [h3] at this
      omega
theorem rdec_yes {x : Nat} (w : World) (h0 : 0 < x) (hx : x < INF) :
    Calls Try.prog 7 #[.float .f64 x] w fun e w' => DecA x e ∧ w' = w := by
  obtain ⟨g1, g2⟩ := pos_gt h0 hx
  have g1' : (FloatKind.f64.format.order x 0 == some .gt) = true := g1
  have hr := rg_lt (Nat.le_of_lt hx)
  have rS : (binOp .sub 23 (.float .f64 x) (.float .f64 x)).run Try.prog w = .ok (.float .f64 0) w := run_float_arith w .sub 23 .f64 _ _ _ (sub_self x (by rw [hr.1]; exact hx))
  have hq : (FloatKind.f64.format.order 0 0 == some .eq) = true := by decide +kernel
  have hq2 : (FloatKind.f64.format.order 0 0 != some .eq) = false := by rw [bne, hq]; rfl
  have HX := hide2 (And.intro h0 hx)
  clear g1 g2 h0 hx hr
  go_enter Try.func7, Try.ntmps7
  go_wp2
  go_loop [5] (fun t => ∃ k : Int, t = .int .i64 k ∧ -23 ≤ k ∧ k ≤ 22 ∧ ∀ k' M', k < k' → k' ≤ 22 → ¬ Hit x k' M') (fun t => (intOf t + 23).toNat)
  case atStart => exact ⟨22, rfl, by omega, by omega, fun k' M' h1 h2 => by omega⟩
  case round =>
    obtain ⟨k, rfl, hk1, hk2, hno⟩ := hrel
    have HN := hide2 hno
    clear hno
    by_cases hk : -22 ≤ k
    · have hle := least_any x k w HX.out.2 hk hk2
      go_wp2_with (go_at_call 11; refine hle.mono ?_; rintro e w' ⟨⟨l, hl, rfl⟩, rfl⟩)
      have hlb : l < 1000000000000000 := by
        rcases hl with ⟨h, _⟩ | ⟨_, h, _⟩
        · omega
        · exact h
      clear hle
      obtain ⟨z, hz⟩ : ∃ z : Int, (l : Int) = z := ⟨_, rfl⟩
      rw [hz]
      have z0 : 0 ≤ z := by omega
      by_cases hh : 1 ≤ l ∧ scF l k = x
      · have hsc := rsc_at l z hz k x hh.2 w' hlb hk hk2
        have heq : (FloatKind.f64.format.order x x == some .eq) = true := by
          have := eq_word HX.out.2 HX.out.2
          rw [decide_eq_true rfl] at this
          exact this
        have z1 : 0 < z := by omega
        have HH := hide2 (And.intro hz (And.intro hh hlb))
        clear hh hz hlb hl
        refine hsc.mono ?_
        rintro e w2 ⟨rfl, rfl⟩
        clear hsc
        go_wp2
        go_ret3
        obtain ⟨hz, hh, hlb⟩ := HH.out
        refine ⟨.inl ⟨k, l, hk, hk2, ⟨hh.1, hlb, hh.2⟩, HN.out, ?_⟩, rfl⟩
        rw [hz]
        rfl
      · have HNo := hide2 (no_hit hk hk2 hl hh)
        rcases Nat.eq_zero_or_pos l with hl0 | hl0
        · have hsc := rsc_at l z hz k _ rfl w' hlb hk hk2
          obtain ⟨v, hv⟩ : ∃ v, scF l k = v := ⟨_, rfl⟩
          rw [hv] at hsc
          have z1 : z = 0 := by omega
          subst z1
          clear hh hz hlb hl hl0 hv
          refine hsc.mono ?_
          rintro e w2 ⟨rfl, rfl⟩
          clear hsc
          go_wp2
          go_round
          case rel =>
            refine ⟨k - 1, rfl, by omega, by omega, fun k' M' h1 h2 => ?_⟩
            by_cases e : k' = k
            · subst e; exact HNo.out M'
            · exact HN.out k' M' (by omega) h2
          case measure => simp [intOf]; omega
        · have hsc := rsc_at l z hz k _ rfl w' hlb hk hk2
          have hne : (FloatKind.f64.format.order (scF l k) x == some .eq) = false := by
            have := eq_word (scF_fin hl0 hlb hk hk2).1 HX.out.2
            refine this.trans ?_
            rw [decide_eq_false_iff_not]
            exact fun e => hh ⟨hl0, e⟩
          obtain ⟨v, hv⟩ : ∃ v, scF l k = v := ⟨_, rfl⟩
          rw [hv] at hsc hne
          have z1 : 0 < z := by omega
          clear hh hz hlb hl hl0 hv
          refine hsc.mono ?_
          rintro e w2 ⟨rfl, rfl⟩
          clear hsc
          go_wp2
          go_round
          case rel =>
            refine ⟨k - 1, rfl, by omega, by omega, fun k' M' h1 h2 => ?_⟩
            by_cases e : k' = k
            · subst e; exact HNo.out M'
            · exact HN.out k' M' (by omega) h2
          case measure => simp [intOf]; omega
    · go_wp2
      go_ret3
      refine ⟨.inr ⟨fun k' M' h1 h2 => HN.out k' M' (by omega) h2, rfl⟩, rfl⟩
theorem word_pos {x : Nat} (hw : x < 2 ^ 64) (h : 0 < rg x ∧ rg x < INF ∧ ng x = false) : 0 < x ∧ x < INF := by
  obtain ⟨h1, h2, h3⟩ := h
  unfold rg at h1 h2
  unfold ng at h3
  have : x / 2 ^ 63 % 2 ≠ 1 := by
    intro e
    rw [e] at h3
    cases h3
  have hx : x < 2 ^ 63 := by omega
  rw [Nat.mod_eq_of_lt hx] at h1 h2
  exact ⟨h1, h2⟩
theorem dec_both (x : Nat) (hw : x < 2 ^ 64) : ∃ m k e : Int, (∀ w : World, Calls Try.prog 6 #[.float .f64 x] w fun r w' => r = .returned (.tuple #[.int .u64 m, .int .i64 k, .int .i64 e]) ∧ w' = w) ∧ (∀ w : World, Calls Try.prog 7 #[.float .f64 x] w fun r w' => r = .returned (.tuple #[.int .u64 m, .int .i64 k, .int .i64 e]) ∧ ∃ q, w' = w.drewN q) := by
  by_cases h : 0 < rg x ∧ rg x < INF ∧ ng x = false
  · obtain ⟨h0, hx⟩ := word_pos hw h
    by_cases he : ∃ e, DecA x e
    · obtain ⟨e, he⟩ := he
      obtain ⟨m, k, z, hE⟩ : ∃ m k z : Int, e = .returned (.tuple #[.int .u64 m, .int .i64 k, .int .i64 z]) := by
        rcases he with ⟨k, M, _, _, _, _, rfl⟩ | ⟨_, rfl⟩
        · exact ⟨_, _, _, rfl⟩
        · exact ⟨_, _, _, rfl⟩
      refine ⟨m, k, z, fun w => ?_, fun w => ?_⟩
      · refine (dec_yes w h0 hx).mono ?_
        rintro r w' ⟨hr, rfl⟩
        exact ⟨(hr.one he).trans hE, rfl⟩
      · refine (rdec_yes w h0 hx).mono ?_
        rintro r w' ⟨hr, rfl⟩
        exact ⟨(hr.one he).trans hE, 0, by simp [World.drewN]⟩
    · refine ⟨0, 0, 0, fun w => ?_, fun w => ?_⟩
      · refine (dec_yes w h0 hx).mono ?_
        rintro r w' ⟨hr, rfl⟩
        exact absurd ⟨r, hr⟩ he
      · refine (rdec_yes w h0 hx).mono ?_
        rintro r w' ⟨hr, rfl⟩
        exact absurd ⟨r, hr⟩ he
  · exact ⟨0, 0, 2, fun w => dec_no w h, fun w => rdec_no w h⟩
theorem scales_any (m : Nat) (k : Int) (x : Nat) (w : World) (hm : m < 18446744073709551616) (hk1 : -9223372036854775808 ≤ k) (hk2 : k ≤ 9223372036854775807) (hw : x < 2 ^ 64) :
    Calls Try.prog 3 #[.int .u64 m, .int .i64 k, .float .f64 x] w fun e w' => e = .returned (.bool true) ∧ ∃ q, w' = w.drewN q := by
  obtain ⟨a, b, c, h6, h7⟩ := dec_both x hw
  have h4 := Scaled_any m k w hm
  have h5 := rScaled_any m k w hm
  obtain ⟨y, z, hE, hy⟩ : ∃ (y : Nat) (z : Int), scE m k = .returned (.tuple #[.float .f64 y, .int .i64 z]) ∧ (FloatKind.f64.format.order y y == some .eq) = true := by
    unfold scE
    split
    · rename_i h
      refine ⟨_, _, rfl, ?_⟩
      have hf : scF m k < INF := by
        rcases Nat.eq_zero_or_pos m with hz | hz
        · rw [hz, sc_zero h.2.1 h.2.2]; decide
        · exact (scF_fin hz h.1 h.2.1 h.2.2).1
      have := eq_word hf hf
      rw [decide_eq_true rfl] at this
      exact this
    · exact ⟨_, _, rfl, by decide +kernel⟩
  rw [hE] at h4 h5
  have h6 := h6 w
  have h7 := h7 w
  clear hE hm hk1 hk2 hw
  obtain ⟨M, hM⟩ : ∃ M : Int, (m : Int) = M := ⟨_, rfl⟩
  rw [hM] at h4 h5 ⊢
  clear hM
  go_enter Try.func3, Try.ntmps3
  go_wp2_with (first
    | (go_at_call 4; refine h4.mono ?_; rintro e w' ⟨rfl, rfl⟩)
    | (go_at_call 5; refine h5.mono ?_; rintro e w' ⟨rfl, rfl⟩)
    | (go_at_call 6; refine h6.mono ?_; rintro e w' ⟨rfl, rfl⟩)
    | (go_at_call 7; refine h7.mono ?_; rintro e w' ⟨rfl, q, rfl⟩))
  go_ret
  exact ⟨ret_bool (by simp), q, rfl⟩
theorem scales_int (a0 a1 : Int) (x : Nat) (w : World) (h0 : 0 ≤ a0 ∧ a0 ≤ 18446744073709551615) (h1 : -9223372036854775808 ≤ a1 ∧ a1 ≤ 9223372036854775807) (hw : (Lit.float .f64 x).wf = true) :
    Calls Try.prog 3 #[.int .u64 a0, .int .i64 a1, .float .f64 x] w fun e w' => e = .returned (.bool true) ∧ Below w.heap.size w w' := by
  have hx : x < 2 ^ 64 := by simpa [Lit.wf] using hw
  have h := scales_any a0.toNat a1 x w (by omega) h1.1 h1.2 hx
  rw [show ((a0.toNat : Nat) : Int) = a0 by omega] at h
  refine h.mono ?_
  rintro e w' ⟨he, q, rfl⟩
  exact ⟨he, below_drewN (Below.refl _ _) q⟩
end Go.Proofs.Ythfmepnlbaifcaa
