/-
  The program's Decimal: its facts, and its walk.
-/
import Derived.Test.YthfmepnlbaifcaaDoorDe
namespace Go.Proofs.YthfmepnlbaifcaaDoor
open Go.RowKit Ieee
set_option linter.unusedVariables false
set_option linter.unusedSimpArgs false
theorem toInt_val {q : Nat} (h1 : 1 ≤ q) (h2 : q < 1000000000000000) : floatToIntVal .f64 (floatOfInt .f64 (q : Int)) .u64 = some (q : Int) := by
  obtain ⟨hf, hv⟩ := ofInt_v h2
  obtain ⟨m, p, hd, hp, hm, hm0, hV, _⟩ := read_big hf (by rw [hv]; exact Nat.le_trans (pw_mono (by decide)) (pw_le_mul h1))
  rw [hv] at hV
  have e : (FloatKind.f64.decode (floatOfInt .f64 (q : Int))).toInt .zero = some (q : Int) := by
    show (double.read _).toInt .zero = _
    rw [hd]
    unfold Datum.toInt Datum.integral
    dsimp only
    have hc : Toward.zero.cut false (m <<< p.toNat) (-p).toNat = q := by
      unfold Toward.cut
      dsimp only
      rw [Bool.toNat_false, Nat.add_zero]
      by_cases hp0 : 0 ≤ p
      · rw [show (-p).toNat = 0 by omega, Nat.zero_min, Nat.shiftLeft_zero, Nat.div_one, shl]
        rw [show (p + 1074).toNat = p.toNat + 1074 by omega, ← pw_add, ← Nat.mul_assoc] at hV
        exact Nat.eq_of_mul_eq_mul_right (pw_pos 1074) hV
      · obtain ⟨d, hd2, hd3⟩ : ∃ d, (-p).toNat = d ∧ d ≤ 230 := ⟨_, rfl, by omega⟩
        have e1 : (p + 1074).toNat = 1074 - d := by omega
        have e2 : pw 1074 = pw d * pw (1074 - d) := by rw [pw_add, show d + (1074 - d) = 1074 by omega]
        rw [e1, e2, ← Nat.mul_assoc] at hV
        have hmq := Nat.eq_of_mul_eq_mul_right (pw_pos (1074 - d)) hV
        have hle : d ≤ m.log2 := by
          rw [Nat.le_log2 hm0, pw_def d, hmq]
          exact pw_le_mul h1
        rw [hd2, show p.toNat = 0 by omega, Nat.shiftLeft_zero, Nat.min_eq_left (by omega), Nat.one_shiftLeft, pw_def d, hmq, Nat.mul_div_cancel _ (pw_pos d)]
    rw [hc]
    simp [signed]
  unfold floatToIntVal
  rw [e]
  dsimp only
  rw [if_pos (by constructor <;> simp [IntKind.min, IntKind.max, IntKind.bits, IntKind.signed] <;> omega)]
theorem pos_gt {x : Nat} (h0 : 0 < x) (hx : x < INF) : (double.order x 0 == some .gt) = true ∧ (double.order x MAX == some .lt || double.order x MAX == some .eq) = true := by
  have hr := rg_lt (Nat.le_of_lt hx)
  constructor
  · rw [order_pos hx (by decide)]
    show (compare _ _ == .gt) = true
    rw [cmp_gt, decide_eq_true_eq, V_zero]
    have := V_pos h0
    omega
  · rw [le_max, decide_eq_true_eq, hr.1]
    exact .inl hx
theorem not_pos {x : Nat} (h : ¬ (0 < rg x ∧ rg x < INF ∧ ng x = false)) : (double.order x 0 == some .gt) = false ∨ (double.order x MAX == some .lt || double.order x MAX == some .eq) = false := by
  rcases Nat.lt_trichotomy (rg x) INF with hl | hl | hl
  · left
    rw [order_fin x 0 hl (by decide), sv_zero]
    show (compare _ _ == .gt) = false
    rw [cmp_gt, decide_eq_false_iff_not]
    intro h0
    unfold sv at h0
    cases hn : ng x with
    | true => rw [hn, if_pos rfl] at h0; omega
    | false =>
      rcases Nat.eq_zero_or_pos (rg x) with hz | hz
      · rw [hn, if_neg (by decide), hz, V_zero] at h0; simp at h0
      · exact h ⟨hz, hl, hn⟩
  · cases hn : ng x with
    | true =>
      left
      rw [order_inf x 0 hl (by decide), hn]; rfl
    | false =>
      right
      rw [le_max, decide_eq_false_iff_not, hn, hl]
      rintro (h | h)
      · exact Nat.lt_irrefl _ h
      · cases h.2
  · left
    rw [order_nan x 0 (.inl hl)]; rfl
theorem eq_word {x y : Nat} (hx : x < INF) (hy : y < INF) : (double.order x y == some .eq) = decide (x = y) := by
  rw [order_pos hx hy]
  show (compare _ _ == .eq) = _
  rw [cmp_eq, decide_eq_decide]
  constructor
  · intro h; exact V_inj hx hy (by omega)
  · rintro rfl; rfl
theorem lt_TG {q : Nat} (h : q < 1000000000000000) : (double.order (floatOfInt .f64 (q : Int)) TG == some .lt) = true := by
  obtain ⟨hf, hv⟩ := ofInt_v h
  have ht := tg_v
  rw [order_pos hf ht.2.1, hv, ht.2.2]
  show (compare _ _ == .lt) = true
  rw [cmp_lt, decide_eq_true_eq]
  have := Nat.mul_lt_mul_of_pos_right h (pw_pos 1074)
  omega
/-- where there is an M the program tries just it -/
theorem tries {x : Nat} {k : Int} {M : Nat} (k1 : -22 ≤ k) (k2 : k ≤ 22) (h : Hit x k M) : rndW (unW x k) = floatOfInt .f64 (M : Int) := by
  obtain ⟨h1, h2, rfl⟩ := h
  obtain ⟨a, b, c⟩ := un_near h1 h2 k1 k2
  exact rnd_near a h2 b c
theorem ofInt_inj {a b : Nat} (ha : a < 1000000000000000) (hb : b < 1000000000000000) (h : floatOfInt .f64 (a : Int) = floatOfInt .f64 (b : Int)) : a = b := by
  have h1 := (ofInt_v ha).2
  have h2 := (ofInt_v hb).2
  rw [h, h2] at h1
  exact (Nat.eq_of_mul_eq_mul_right (pw_pos 1074) h1).symm
theorem sc_zero {k : Int} (k1 : -22 ≤ k) (k2 : k ≤ 22) : scF 0 k = 0 := by
  have : ∀ j : Nat, j < 23 → scF 0 (j : Int) = 0 ∧ scF 0 (-(j : Int)) = 0 := by decide +kernel
  by_cases hk : k < 0
  · have := (this k.natAbs (by omega)).2
    rwa [show (-(k.natAbs : Int)) = k by omega] at this
  · have := (this k.natAbs (by omega)).1
    rwa [show ((k.natAbs : Int)) = k by omega] at this
theorem hit_pos {x : Nat} {k : Int} {M : Nat} (k1 : -22 ≤ k) (k2 : k ≤ 22) (h : Hit x k M) : 0 < x ∧ x < INF := by
  obtain ⟨h1, h2, rfl⟩ := h
  obtain ⟨a, b⟩ := scF_fin h1 h2 k1 k2
  refine ⟨?_, a⟩
  rcases Nat.eq_zero_or_pos (scF M k) with hz | hz
  · rw [hz, V_zero] at b
    have := pw_pos 970
    omega
  · exact hz
/-- the program's try at k -/
theorem dec_no {x : Nat} (w : World) (h : ¬ (0 < rg x ∧ rg x < INF ∧ ng x = false)) :
    Calls Tryd.prog 19 #[.float .f64 x] w fun e w' => e = .returned (.tuple #[.int .u64 0, .int .i64 0, .int .i64 2]) ∧ w' = w := by
  rcases not_pos h with h1 | h1
  · have h1' : (FloatKind.f64.format.order x 0 == some .gt) = false := h1
    clear h h1
    go_enter Tryd.func19, Tryd.ntmps19
    go_wp2
    go_ret3
    exact ⟨rfl, rfl⟩
  · have h1' : (FloatKind.f64.format.order x 9218868437227405311 == some .lt || FloatKind.f64.format.order x 9218868437227405311 == some .eq) = false := h1
    clear h h1
    cases h2 : (FloatKind.f64.format.order x 0 == some .gt) with
    | false =>
      go_enter Tryd.func19, Tryd.ntmps19
      go_wp2
      go_ret3
      exact ⟨rfl, rfl⟩
    | true =>
      go_enter Tryd.func19, Tryd.ntmps19
      go_wp2
      go_ret3
      exact ⟨rfl, rfl⟩
theorem dec_yes {x : Nat} (w : World) (h0 : 0 < x) (hx : x < INF) :
    Calls Tryd.prog 19 #[.float .f64 x] w fun e w' => DecA x e ∧ w' = w := by
  obtain ⟨g1, g2⟩ := pos_gt h0 hx
  have g1' : (FloatKind.f64.format.order x 0 == some .gt) = true := g1
  have g2' : (FloatKind.f64.format.order x 9218868437227405311 == some .lt || FloatKind.f64.format.order x 9218868437227405311 == some .eq) = true := g2
  have HX := hide2 (And.intro h0 hx)
  clear g1 g2 h0 hx
  go_enter Tryd.func19, Tryd.ntmps19
  go_wp2
  go_loop [5] (fun t => ∃ k : Int, t = .int .i64 k ∧ -23 ≤ k ∧ k ≤ 22 ∧ ∀ k' M', k < k' → k' ≤ 22 → ¬ Hit x k' M') (fun t => (intOf t + 23).toNat)
  case atStart => exact ⟨22, rfl, by omega, by omega, fun k' M' h1 h2 => by omega⟩
  case round =>
    obtain ⟨k, rfl, hk1, hk2, hno⟩ := hrel
    have HN := hide2 hno
    clear hno
    by_cases hk : -22 ≤ k
    · have hu := unscaled_any x k w HX.out.2 hk hk2
      have hr := round_any (unW x k) w (unW_le HX.out.2 hk hk2)
      have HT : Hid (∀ M, Hit x k M → rndW (unW x k) = floatOfInt .f64 (M : Int)) := fun M h => tries hk hk2 h
      have hi := rnd_int (unW_le HX.out.2 hk hk2)
      obtain ⟨y, hy⟩ : ∃ y, unW x k = y := ⟨_, rfl⟩
      rw [hy] at hu hr HT hi
      obtain ⟨m, hm⟩ : ∃ m, rndW y = m := ⟨_, rfl⟩
      rw [hm] at hr HT hi
      clear hy hm
      rcases hi with ⟨q, hq, rfl⟩ | hi
      · have hlt : (FloatKind.f64.format.order (floatOfInt .f64 (q : Int)) 4831355200913801216 == some .lt) = true := lt_TG hq
        have hsc := scaled_any q k w hk hk2
        by_cases hh : 1 ≤ q ∧ scF q k = x
        · have HH := hide2 (And.intro hh hq)
          have heq : (FloatKind.f64.format.order x x == some .eq) = true := by
            have := eq_word HX.out.2 HX.out.2
            rw [decide_eq_true rfl] at this
            exact this
          have hcv := run_convert_float_int w 23 40 .f64 .u64 (floatOfInt .f64 (q : Int)) q (P := Tryd.prog) (by kernel_rfl) (by kernel_rfl) (toInt_val hh.1 hq)
          rw [hh.2] at hsc
          clear hh
          obtain ⟨m, hm⟩ : ∃ m, floatOfInt .f64 (q : Int) = m := ⟨_, rfl⟩
          rw [hm] at hr hlt hsc hcv
          clear hm HT hq
          obtain ⟨z, hz⟩ : ∃ z : Int, (q : Int) = z := ⟨_, rfl⟩
          rw [hz] at hcv
          have HZ := hide2 hz
          clear hz
          go_wp2_with (first
            | (go_at_call 36; refine hu.mono ?_; rintro e w' ⟨rfl, rfl⟩)
            | (go_at_call 35; refine hr.mono ?_; rintro e w' ⟨rfl, rfl⟩)
            | (go_at_call 34; refine hsc.mono ?_; rintro e w' ⟨rfl, rfl⟩))
          go_ret3
          refine ⟨.inl ⟨k, q, hk, hk2, ⟨HH.out.1.1, HH.out.2, HH.out.1.2⟩, HN.out, ?_⟩, rfl⟩
          rw [HZ.out]
          rfl
        · have hne : (FloatKind.f64.format.order (scF q k) x == some .eq) = false := by
            have hsf : scF q k < INF := by
              rcases Nat.eq_zero_or_pos q with hz | hz
              · rw [hz, sc_zero hk hk2]; decide
              · exact (scF_fin hz hq hk hk2).1
            have := eq_word hsf HX.out.2
            refine this.trans ?_
            rw [decide_eq_false_iff_not]
            intro e
            rcases Nat.eq_zero_or_pos q with hz | hz
            · rw [hz, sc_zero hk hk2] at e
              have := HX.out.1
              omega
            · exact hh ⟨hz, e⟩
          have HNo : Hid (∀ M, ¬ Hit x k M) := fun M h => by
            have := ofInt_inj hq h.2.1 (HT.out M h)
            subst this
            exact hh ⟨h.1, h.2.2⟩
          clear hh HT
          obtain ⟨m, hm⟩ : ∃ m, floatOfInt .f64 (q : Int) = m := ⟨_, rfl⟩
          obtain ⟨v, hv⟩ : ∃ v, scF q k = v := ⟨_, rfl⟩
          rw [hm] at hr hlt hsc
          rw [hv] at hsc hne
          clear hm hv hq
          go_wp2_with (first
            | (go_at_call 36; refine hu.mono ?_; rintro e w' ⟨rfl, rfl⟩)
            | (go_at_call 35; refine hr.mono ?_; rintro e w' ⟨rfl, rfl⟩)
            | (go_at_call 34; refine hsc.mono ?_; rintro e w' ⟨rfl, rfl⟩))
          go_round
          case rel =>
            refine ⟨k - 1, rfl, by omega, by omega, fun k' M' h1 h2 => ?_⟩
            by_cases e : k' = k
            · subst e; exact HNo.out M'
            · exact HN.out k' M' (by omega) h2
          case measure => simp [intOf]; omega
      · have hi' : (FloatKind.f64.format.order m 4831355200913801216 == some .lt) = false := hi
        have HNo : Hid (∀ M, ¬ Hit x k M) := fun M h => by
          have e := HT.out M h
          have := lt_TG h.2.1
          rw [← e, hi] at this
          cases this
        clear HT hi
        go_wp2_with (first
          | (go_at_call 36; refine hu.mono ?_; rintro e w' ⟨rfl, rfl⟩)
          | (go_at_call 35; refine hr.mono ?_; rintro e w' ⟨rfl, rfl⟩))
        go_round
        case rel =>
          refine ⟨k - 1, rfl, by omega, by omega, fun k' M' h1 h2 => ?_⟩
          by_cases e : k' = k
          · subst e; exact HNo.out M'
          · exact HN.out k' M' (by omega) h2
        case measure => simp [intOf]; omega
    · go_wp2
      go_ret3
      refine ⟨.inr ⟨fun k' M' h1 h2 => HN.out k' M' (by omega) h2, rfl⟩, rfl⟩
end Go.Proofs.YthfmepnlbaifcaaDoor
